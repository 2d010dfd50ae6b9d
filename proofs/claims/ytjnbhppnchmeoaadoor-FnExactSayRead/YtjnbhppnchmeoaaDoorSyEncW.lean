/- Leader and QuorumRight: spec and impl answer alike. When proofs, changes and says are right, as plain mathematics. Strings one behind the other; numbers of no great size. The encoding of proofs, changes, says: plain mathematics. -/
import Derived.Test.YtjnbhppnchmeoaaDoorAuQW
import Derived.Test.YtjnbhppnchmeoaaDoorCmMathW
import Derived.BigRegion
namespace Go.Proofs.YtjnbhppnchmeoaaDoor
open Go.RowKit
set_option linter.unusedVariables false
set_option maxRecDepth 1000000

/-- The leader of a view. -/
def leadI (v : Int) : Int := if v < 0 then 0 else v % 4
theorem specLeader_any (v : Int) (w : World) (hv : (Lit.int .i64 v).wf = true) : Calls Tryd.prog 104 #[.int .i64 v] w fun e w' => e = .returned (.int .i64 (leadI v)) ∧ w = w' := by
  have hb := wf_i64 hv
  by_cases h : v < 0
  · have e : leadI v = 0 := if_pos h
    rw [e]
    go_enter Tryd.func104, Tryd.ntmps104
    go_wp2
    go_ret
    exact ⟨rfl, rfl⟩
  · have e : leadI v = v % 4 := if_neg h
    rw [e]
    go_enter Tryd.func104, Tryd.ntmps104
    go_wp2
    go_ret
    exact ⟨rfl, rfl⟩
theorem implLeader_any (v : Int) (w : World) (hv : (Lit.int .i64 v).wf = true) : Calls Tryd.prog 56 #[.int .i64 v] w fun e w' => e = .returned (.int .i64 (leadI v)) ∧ w = w' := by
  have hb := wf_i64 hv
  by_cases h : v < 0
  · have e : leadI v = 0 := if_pos h
    rw [e]
    go_enter Tryd.func56, Tryd.ntmps56
    go_wp2
    go_ret
    exact ⟨rfl, rfl⟩
  · have e : leadI v = v % 4 := if_neg h
    rw [e]
    go_enter Tryd.func56, Tryd.ntmps56
    go_wp2
    go_ret
    exact ⟨rfl, rfl⟩
theorem inQ_any {n a b : Int} {r : Bool} (h : decide (a ≤ n ∧ n ≤ b) = r) (w : World) : Calls Tryd.prog 41 #[.int .i64 n, .int .i64 a, .int .i64 b] w fun e w' => e = .returned (.bool r) ∧ w = w' := by
  subst h
  by_cases h1 : a ≤ n <;> by_cases h2 : n ≤ b
  all_goals
    go_enter Tryd.func41, Tryd.ntmps41
    go_wp2
    go_ret
    exact ⟨retB (by simp [h1, h2]), rfl⟩
theorem replQ_any {n : Int} {r : Bool} (h : decide (0 ≤ n ∧ n ≤ 3) = r) (w : World) : Calls Tryd.prog 55 #[.int .i64 n] w fun e w' => e = .returned (.bool r) ∧ w = w' := by
  go_enter Tryd.func55, Tryd.ntmps55
  go_wp2_with (go_at_call 41; refine (inQ_any h _).mono ?_; rintro e w1 ⟨rfl, rfl⟩)
  go_ret
  exact ⟨rfl, rfl⟩
theorem whoQ_any {n : Int} {r : Bool} (h : decide (0 ≤ n ∧ n ≤ 3) = r) (w : World) : Calls Tryd.prog 100 #[.int .i64 n] w fun e w' => e = .returned (.bool r) ∧ ∃ m, w' = w.drewN m := by
  have h' : (decide (0 ≤ n) && decide (n ≤ 3)) = r := by rw [← h, ← Bool.decide_and]
  go_enter Tryd.func100, Tryd.ntmps100
  go_wp2_with (go_at_call 36; refine (l03Is_any n 0 3 _).mono ?_; rintro e w1 ⟨rfl, rfl⟩; rw [h'])
  go_ret
  exact ⟨rfl, 0, rfl⟩

set_option maxHeartbeats 4000000 in
theorem implQuorum_any (A : Option Addr) (L : List Int) (c : Nat) (w : World) (hL : Nms w w.heap.size A L) :
    Calls Tryd.prog 123 #[.slice A L.length c] w fun e w' => e = .returned (.bool (quorum L)) ∧ Below w.heap.size w w' := by
  have hn := hL.1
  unfold maxLen at hn
  obtain ⟨V, HV⟩ : ∃ V, Hid (qr (-1) L = V) := ⟨_, Lib.hid rfl⟩
  obtain ⟨R, HR⟩ : ∃ V, Hid (quorum L = V) := ⟨_, Lib.hid rfl⟩
  have HVR : Hid (R = (V && decide (3 ≤ L.length))) := Lib.hid (by rw [← HR.out, ← HV.out]; rfl)
  rw [HR.out]
  clear HR
  go_enter Tryd.func123, Tryd.ntmps123
  go_wp2
  go_loopw [3, 8] (fun l i wr => ∃ (k : Nat) (last : Int), k ≤ L.length ∧ i = .int .i64 k ∧ l = .int .i64 last ∧ Hid (qr last (L.drop k) = V) ∧ Below w.heap.size w wr) (fun _ i _ => L.length - (intOf i).toNat)
  case atStart => exact ⟨0, -1, by omega, rfl, rfl, HV, Below.refl _ _⟩
  case round =>
    clear HV
    obtain ⟨k, last, hk, rfl, rfl, HQ, hb⟩ := hrel
    by_cases hlt : k < L.length
    · obtain ⟨a, rfl, hab, c0, _⟩ := (hL.below hb (Nat.le_refl _)).2 k hlt
      have hlt' : (k : Int) < (L.length : Int) := by omega
      have hbad := Lib.hid (qr_bad (last := last) hlt)
      have hnext := Lib.hid (qr_next (last := last) hlt)
      obtain ⟨x, HX⟩ : ∃ x, Hid (L[k] = x) := ⟨_, Lib.hid rfl⟩
      rw [HX.out] at hbad hnext c0
      by_cases hle : x ≤ last
      · have hV : V = false := by rw [← HQ.out, hbad.out (by omega)]
        subst hV
        obtain rfl : R = false := by rw [HVR.out]; rfl
        go_wp2
        go_ret
        exact ⟨rfl, hb⟩
      · rcases Bool.eq_false_or_eq_true (decide (0 ≤ x ∧ x ≤ 3)) with hr | hr
        · have hr' := of_decide_eq_true hr
          have HN := Lib.hid ((hnext.out ⟨by omega, hr'.1, hr'.2⟩).symm.trans HQ.out)
          clear hbad hnext
          go_wp2_with (go_at_call 55; refine (replQ_any hr _).mono ?_; rintro e w1 ⟨rfl, rfl⟩)
          exact ⟨⟨k + 1, x, by omega, by go_num, rfl, HN, hb⟩, by simp [intOf]; omega⟩
        · have hr' := of_decide_eq_false hr
          have hV : V = false := by rw [← HQ.out, hbad.out (fun h => hr' h.2)]
          subst hV
          obtain rfl : R = false := by rw [HVR.out]; rfl
          go_wp2_with (go_at_call 55; refine (replQ_any hr _).mono ?_; rintro e w1 ⟨rfl, rfl⟩)
          go_ret
          exact ⟨rfl, hb⟩
    · obtain rfl : k = L.length := by omega
      have hV : V = true := by rw [← HQ.out, qr_end (Nat.le_refl _)]
      subst hV
      go_wp2
      go_ret
      exact ⟨retB (by rw [HVR.out, Bool.true_and]; simp; omega), hb⟩

set_option maxHeartbeats 4000000 in
theorem specQuorum_any (A : Option Addr) (L : List Int) (c : Nat) (w : World) (hL : Nms w w.heap.size A L) :
    Calls Tryd.prog 128 #[.slice A L.length c] w fun e w' => e = .returned (.bool (quorum L)) ∧ Below w.heap.size w w' := by
  have hn := hL.1
  unfold maxLen at hn
  obtain ⟨V, HV⟩ : ∃ V, Hid (qr (-1) L = V) := ⟨_, Lib.hid rfl⟩
  obtain ⟨R, HR⟩ : ∃ V, Hid (quorum L = V) := ⟨_, Lib.hid rfl⟩
  have HVR : Hid (R = (V && decide (3 ≤ L.length))) := Lib.hid (by rw [← HR.out, ← HV.out]; rfl)
  rw [HR.out]
  clear HR
  go_enter Tryd.func128, Tryd.ntmps128
  go_wp2
  go_loopw [3] (fun i wr => ∃ (k : Nat) (last : Int), k ≤ L.length ∧ i = .int .i64 k ∧ Hid (k = 0 → last = -1) ∧ Hid (∀ h : k - 1 < L.length, 0 < k → L[k - 1] = last) ∧ Hid (qr last (L.drop k) = V) ∧ Below w.heap.size w wr) (fun i _ => L.length - (intOf i).toNat)
  case atStart => exact ⟨0, -1, by omega, rfl, Lib.hid fun _ => rfl, Lib.hid fun _ h => absurd h (Nat.lt_irrefl 0), HV, Below.refl _ _⟩
  case round =>
    clear HV
    obtain ⟨k, last, hk, rfl, HA0, HA1, HQ, hb⟩ := hrel
    by_cases hlt : k < L.length
    · have hLw := hL.below hb (Nat.le_refl _)
      obtain ⟨a, rfl, hab, c0, _⟩ := hLw.2 k hlt
      have hlt' : (k : Int) < (L.length : Int) := by omega
      have hbad := Lib.hid (qr_bad (last := last) hlt)
      have hnext := Lib.hid (qr_next (last := last) hlt)
      obtain ⟨x, HX⟩ : ∃ x, Hid (L[k] = x) := ⟨_, Lib.hid rfl⟩
      have HL1 : Hid (∀ h : k + 1 - 1 < L.length, 0 < k + 1 → L[k + 1 - 1] = x) := Lib.hid fun h _ => by simpa using HX.out
      rw [HX.out] at hbad hnext c0
      rcases Bool.eq_false_or_eq_true (decide (0 ≤ x ∧ x ≤ 3)) with hr | hr
      · have hr' := of_decide_eq_true hr
        have WH := Lib.hid (fun W => whoQ_any hr W)
        rcases Nat.eq_zero_or_pos k with h0 | h0
        · subst h0
          have hl1 := HA0.out rfl
          have HN := Lib.hid ((hnext.out ⟨by omega, hr'.1, hr'.2⟩).symm.trans HQ.out)
          clear hbad hnext HA0 HA1
          have c1 : wr.cell? a = some (.int .i64 x) := by simpa [Addr.add] using c0
          go_wp2_with (fail)
          go_quiet ((go_at_call 100; (with_reducible exact Calls.quiet_of (WH.out _))))
          go_wp2
          exact ⟨⟨1, x, by omega, by go_num, Lib.hid (fun h => absurd h (by decide)), HL1, HN, below_drewN hb _⟩, by simp [intOf]; omega⟩
        · obtain ⟨j, hj⟩ : ∃ j, k = j + 1 := ⟨k - 1, by omega⟩
          have hjl : j < L.length := by omega
          obtain ⟨a', e', _, d0, _⟩ := hLw.2 j hjl
          injection e' with e'
          subst e'
          have hlast : L[j] = last := by have := HA1.out (by omega) h0; simp only [hj] at this; exact this
          rw [hlast] at d0
          have hjl' : (j : Int) < (L.length : Int) := by omega
          have hj0 : (0 : Int) ≤ (j : Int) := by omega
          have hk1 : IntKind.i64.wrap ((k : Int) - 1) = (j : Int) := by rw [IntWalk.i64_in _ (by omega)]; omega
          have h0' : (0 : Int) < (k : Int) := by omega
          have h0d : decide (0 < k) = true := by simp; exact h0
          clear hlast HA0 HA1 hj
          by_cases hle : last < x
          · have HN := Lib.hid ((hnext.out ⟨hle, hr'.1, hr'.2⟩).symm.trans HQ.out)
            have hd : decide (x ≤ last) = false := by simp; omega
            clear hbad hnext
            go_wp2_with (fail)
            go_quiet ((go_at_call 100; (with_reducible exact Calls.quiet_of (WH.out _))))
            go_wp2
            exact ⟨⟨k + 1, x, by omega, by go_num, Lib.hid (fun h => absurd h (by omega)), HL1, HN, below_drewN hb _⟩, by simp [intOf]; omega⟩
          · have hV : V = false := by rw [← HQ.out, hbad.out (fun h => hle h.1)]
            subst hV
            obtain rfl : R = false := by rw [HVR.out]; rfl
            have hd : decide (x ≤ last) = true := by simp; omega
            clear hbad hnext
            go_wp2_with (fail)
            go_quiet ((go_at_call 100; (with_reducible exact Calls.quiet_of (WH.out _))))
            go_wp2
            go_ret
            exact ⟨rfl, below_drewN hb _⟩
      · have hr' := of_decide_eq_false hr
        have WH := Lib.hid (fun W => whoQ_any hr W)
        have hV : V = false := by rw [← HQ.out, hbad.out (fun h => hr' h.2)]
        subst hV
        obtain rfl : R = false := by rw [HVR.out]; rfl
        clear hbad hnext HA0 HA1
        rcases Nat.eq_zero_or_pos k with h0 | h0
        · subst h0
          have c1 : wr.cell? a = some (.int .i64 x) := by simpa [Addr.add] using c0
          go_wp2_with (fail)
          go_quiet ((go_at_call 100; (with_reducible exact Calls.quiet_of (WH.out _))))
          go_wp2
          go_ret
          exact ⟨rfl, below_drewN hb _⟩
        · go_wp2_with (fail)
          go_quiet ((go_at_call 100; (with_reducible exact Calls.quiet_of (WH.out _))))
          go_wp2
          go_ret
          exact ⟨rfl, below_drewN hb _⟩
    · obtain rfl : k = L.length := by omega
      have hV : V = true := by rw [← HQ.out, qr_end (Nat.le_refl _)]
      subst hV
      go_wp2
      go_ret
      exact ⟨retB (by rw [HVR.out, Bool.true_and]; simp; omega), hb⟩
end Go.Proofs.YtjnbhppnchmeoaaDoor

namespace Go.Proofs.YtjnbhppnchmeoaaDoor
open Go.RowKit
set_option linter.unusedVariables false

/-- ProofRight. -/
def prfB (p : Prf) : Bool := decide (0 ≤ p.view ∧ p.view ≤ 7) && (decide (1 ≤ p.seq ∧ p.seq ≤ 6) && (decide (p.op.size ≤ 120) && quorum p.who))
theorem prfB_seq {p : Prf} (h : prfB p = true) : 0 < p.seq := by
  unfold prfB at h
  simp only [Bool.and_eq_true, decide_eq_true_eq] at h
  omega
/-- Are the proofs right, below a view, their numbers rising from above last? -/
def pr (v last : Int) : List Prf → Bool
  | [] => true
  | p :: t => decide (prfB p = true ∧ p.view < v ∧ last < p.seq) && pr v p.seq t
theorem pr_end {v last : Int} {L : List Prf} {k : Nat} (h : L.length ≤ k) : pr v last (L.drop k) = true := by rw [List.drop_eq_nil_of_le h]; rfl
theorem pr_bad {v last : Int} {L : List Prf} {k : Nat} (h : k < L.length) (hb : ¬ (prfB L[k] = true ∧ L[k].view < v ∧ last < L[k].seq)) : pr v last (L.drop k) = false := by
  rw [List.drop_eq_getElem_cons h]; unfold pr; rw [decide_eq_false hb]; rfl
theorem pr_next {v last : Int} {L : List Prf} {k : Nat} (h : k < L.length) (hb : prfB L[k] = true ∧ L[k].view < v ∧ last < L[k].seq) : pr v last (L.drop k) = pr v L[k].seq (L.drop (k + 1)) := by
  rw [List.drop_eq_getElem_cons h]; conv => lhs; unfold pr
  rw [decide_eq_true hb, Bool.true_and]
/-- The proofs of a change. -/
def chP (c : Cng) : Bool := pr c.view 0 c.proofs
/-- What a change has beside its proofs. -/
def balB (c : Cng) : Bool := decide (0 ≤ c.frm ∧ c.frm ≤ 3) && decide (1 ≤ c.view ∧ c.view ≤ 7)
/-- ChangeRight. -/
def cngB (c : Cng) : Bool := balB c && chP c
theorem balB_frm {c : Cng} (h : balB c = true) : 0 ≤ c.frm ∧ c.frm ≤ 3 := by
  unfold balB at h
  simp only [Bool.and_eq_true, decide_eq_true_eq] at h
  exact h.1
/-- Are the proofs of all changes right? -/
def allP : List Cng → Bool
  | [] => true
  | c :: t => chP c && allP t
theorem allP_end {L : List Cng} {k : Nat} (h : L.length ≤ k) : allP (L.drop k) = true := by rw [List.drop_eq_nil_of_le h]; rfl
theorem allP_at {L : List Cng} {k : Nat} (h : k < L.length) : allP (L.drop k) = (chP L[k] && allP (L.drop (k + 1))) := by
  rw [List.drop_eq_getElem_cons h]; rfl
/-- Are the changes of a view, rising from above last, right but for their proofs? -/
def br (v last : Int) : List Cng → Bool
  | [] => true
  | c :: t => decide (balB c = true ∧ c.view = v ∧ last < c.frm) && br v c.frm t
theorem br_end {v last : Int} {L : List Cng} {k : Nat} (h : L.length ≤ k) : br v last (L.drop k) = true := by rw [List.drop_eq_nil_of_le h]; rfl
theorem br_bad {v last : Int} {L : List Cng} {k : Nat} (h : k < L.length) (hb : ¬ (balB L[k] = true ∧ L[k].view = v ∧ last < L[k].frm)) : br v last (L.drop k) = false := by
  rw [List.drop_eq_getElem_cons h]; unfold br; rw [decide_eq_false hb]; rfl
theorem br_next {v last : Int} {L : List Cng} {k : Nat} (h : k < L.length) (hb : balB L[k] = true ∧ L[k].view = v ∧ last < L[k].frm) : br v last (L.drop k) = br v L[k].frm (L.drop (k + 1)) := by
  rw [List.drop_eq_getElem_cons h]; conv => lhs; unfold br
  rw [decide_eq_true hb, Bool.true_and]
/-- Are the changes of a view, rising from above last, right? -/
def cr (v last : Int) : List Cng → Bool
  | [] => true
  | c :: t => decide (cngB c = true ∧ c.view = v ∧ last < c.frm) && cr v c.frm t
theorem cr_end {v last : Int} {L : List Cng} {k : Nat} (h : L.length ≤ k) : cr v last (L.drop k) = true := by rw [List.drop_eq_nil_of_le h]; rfl
theorem cr_bad {v last : Int} {L : List Cng} {k : Nat} (h : k < L.length) (hb : ¬ (cngB L[k] = true ∧ L[k].view = v ∧ last < L[k].frm)) : cr v last (L.drop k) = false := by
  rw [List.drop_eq_getElem_cons h]; unfold cr; rw [decide_eq_false hb]; rfl
theorem cr_next {v last : Int} {L : List Cng} {k : Nat} (h : k < L.length) (hb : cngB L[k] = true ∧ L[k].view = v ∧ last < L[k].frm) : cr v last (L.drop k) = cr v L[k].frm (L.drop (k + 1)) := by
  rw [List.drop_eq_getElem_cons h]; conv => lhs; unfold cr
  rw [decide_eq_true hb, Bool.true_and]
theorem cr_br (v : Int) : ∀ (L : List Cng) (last : Int), cr v last L = (br v last L && allP L)
  | [], _ => rfl
  | c :: t, last => by
    unfold cr br allP
    rw [cr_br v t c.frm]
    unfold cngB
    cases balB c <;> cases chP c <;> by_cases h1 : c.view = v <;> by_cases h2 : last < c.frm <;> simp [h1, h2]
theorem br_len (v : Int) : ∀ (L : List Cng) (last : Int), br v last L = true → L = [] ∨ last + L.length ≤ 3
  | [], _, _ => .inl rfl
  | c :: t, last, h => by
    unfold br at h
    rw [Bool.and_eq_true, decide_eq_true_eq] at h
    obtain ⟨⟨h1, h2, h3⟩, h4⟩ := h
    have := balB_frm h1
    rcases br_len v t c.frm h4 with e | e
    · subst e; right; simp; omega
    · right; simp only [List.length_cons]; omega
def oneB (frm view : Int) : List Cng → Bool
  | [c] => cngB c && (decide (c.frm = frm) && decide (c.view = view))
  | _ => false
theorem oneB_len {frm view : Int} {L : List Cng} (h : ¬ L.length = 1) : oneB frm view L = false := by
  match L, h with
  | [], _ => rfl
  | [c], h => exact absurd rfl h
  | _ :: _ :: _, _ => rfl
theorem len_one {L : List Cng} (h : L.length = 1) : ∃ c, L = [c] := by
  match L, h with
  | [c], _ => exact ⟨c, rfl⟩
/-- A message about one number. -/
def numB (y : Sy) : Bool := decide (1 ≤ y.seq ∧ y.seq ≤ 6) && (decide (y.op.size ≤ 120) && (decide (y.changes.length = 0) && decide (y.kind ≠ 1 ∨ y.frm = leadI y.view)))
/-- A change. -/
def chgB (y : Sy) : Bool := decide (1 ≤ y.view) && (decide (y.seq = 0) && (decide (y.op.size = 0) && oneB y.frm y.view y.changes))
/-- A new view. -/
def newB (y : Sy) : Bool := decide (1 ≤ y.view) && (decide (y.frm = leadI y.view) && (decide (y.seq = 0) && (decide (y.op.size = 0) && (cr y.view (-1) y.changes && decide (3 ≤ y.changes.length)))))
def restB (y : Sy) : Bool := if y.kind = 1 ∨ y.kind = 2 ∨ y.kind = 3 then numB y else if y.kind = 4 then chgB y else if y.kind = 5 then newB y else false
/-- SayRight. -/
def sayB (y : Sy) : Bool := decide (0 ≤ y.frm ∧ y.frm ≤ 3) && (decide (0 ≤ y.view ∧ y.view ≤ 7) && restB y)
theorem rest_num {y : Sy} (h : y.kind = 1 ∨ y.kind = 2 ∨ y.kind = 3) : restB y = numB y := if_pos h
theorem rest_chg {y : Sy} (h : y.kind = 4) : restB y = chgB y := by unfold restB; rw [if_neg (by omega), if_pos h]
theorem rest_new {y : Sy} (h : y.kind = 5) : restB y = newB y := by unfold restB; rw [if_neg (by omega), if_neg (by omega), if_pos h]
theorem rest_no {y : Sy} (h1 : ¬ y.kind = 1) (h2 : ¬ y.kind = 2) (h3 : ¬ y.kind = 3) (h4 : ¬ y.kind = 4) (h5 : ¬ y.kind = 5) : restB y = false := by unfold restB; rw [if_neg (by omega), if_neg h4, if_neg h5]
/-- What impl asks of a change of a right replica, the one of its own. -/
theorem chg_impl {y : Sy} {c : Cng} (hc : y.changes = [c]) (hf : c.frm = y.frm) : (decide (0 ≤ y.view ∧ y.view ≤ 7) && chgB y) = (decide (1 ≤ y.view ∧ y.view ≤ 7) && (decide (y.seq = 0) && (decide (y.op.size = 0) && cr y.view (-1) y.changes))) := by
  unfold chgB
  rw [hc]
  unfold oneB cr cr
  rw [Bool.and_true]
  by_cases hb : cngB c = true
  · have h0 : -1 < c.frm := by
      have := balB_frm (c := c) (by unfold cngB at hb; rw [Bool.and_eq_true] at hb; exact hb.1)
      omega
    simp only [hb, hf, Bool.true_and, decide_true, true_and]
    rw [← hf]
    simp only [h0, and_true]
    by_cases h1 : 1 ≤ y.view
    · have : 0 ≤ y.view := by omega
      simp [h1, this]
    · simp [h1]
  · simp [hb]
theorem new_impl {y : Sy} (hl : y.frm = leadI y.view) : (decide (0 ≤ y.view ∧ y.view ≤ 7) && newB y) = (decide (3 ≤ (y.changes.length : Int) ∧ (y.changes.length : Int) ≤ 4) && (decide (1 ≤ y.view ∧ y.view ≤ 7) && (decide (y.seq = 0) && (decide (y.op.size = 0) && cr y.view (-1) y.changes)))) := by
  unfold newB
  simp only [hl, decide_true, Bool.true_and]
  by_cases hc : cr y.view (-1) y.changes = true
  · have h4 : y.changes.length ≤ 4 := by
      have h := cr_br y.view y.changes (-1)
      rw [hc] at h
      have h' := h.symm
      rw [Bool.and_eq_true] at h'
      rcases br_len _ _ _ h'.1 with e | e
      · rw [e]; simp
      · omega
    have h4' : (y.changes.length : Int) ≤ 4 := by omega
    have h3' : decide (3 ≤ (y.changes.length : Int)) = decide (3 ≤ y.changes.length) := by simp; omega
    simp only [hc, h4', Bool.true_and, and_true, h3', Bool.and_true]
    by_cases h1 : 1 ≤ y.view
    · have : 0 ≤ y.view := by omega
      simp only [h1, this, true_and, decide_true, Bool.true_and]
      cases decide (y.view ≤ 7) <;> cases decide (y.seq = 0) <;> cases decide (y.op.size = 0) <;> simp
    · simp [h1]
  · simp [hc]
end Go.Proofs.YtjnbhppnchmeoaaDoor

namespace Go.Proofs.YtjnbhppnchmeoaaDoor
open Go.RowKit
set_option linter.unusedVariables false

/-- Strings one behind the other. -/
def cat {α : Type} (f : α → ByteArray) : List α → ByteArray
  | [] => ⟨#[]⟩
  | a :: L => f a ++ cat f L
theorem nil_app (s : ByteArray) : (⟨#[]⟩ : ByteArray) ++ s = s := by apply ByteArray.ext; simp
theorem app_nil (s : ByteArray) : s ++ (⟨#[]⟩ : ByteArray) = s := by apply ByteArray.ext; simp
theorem app_assoc (a b c : ByteArray) : a ++ b ++ c = a ++ (b ++ c) := by apply ByteArray.ext; simp
theorem cat_snoc {α : Type} (f : α → ByteArray) (L : List α) (a : α) : cat f (L ++ [a]) = cat f L ++ f a := by
  induction L with
  | nil => show f a ++ ⟨#[]⟩ = ⟨#[]⟩ ++ f a; rw [app_nil, nil_app]
  | cons b L ih => show f b ++ cat f (L ++ [a]) = f b ++ cat f L ++ f a; rw [ih, app_assoc]
theorem cat_next {α : Type} (f : α → ByteArray) (L : List α) {k : Nat} (h : k < L.length) (e : ByteArray) : e ++ cat f (L.take (k + 1)) = e ++ cat f (L.take k) ++ f L[k] := by
  rw [List.take_succ_eq_append_getElem h, cat_snoc, app_assoc]
theorem cat_zero {α : Type} (f : α → ByteArray) (L : List α) (e : ByteArray) : e ++ cat f (L.take 0) = e := by
  rw [List.take_zero]; exact app_nil e
theorem cat_all {α : Type} (f : α → ByteArray) (L : List α) : cat f (L.take L.length) = cat f L := by rw [List.take_of_length_le (Nat.le_refl _)]
theorem cat_le {α : Type} (f : α → ByteArray) (m : Nat) : ∀ (L : List α), (∀ i (h : i < L.length), (f L[i]).size ≤ m) → (cat f L).size ≤ L.length * m
  | [], _ => Nat.zero_le _
  | a :: L, h => by
    have h0 := h 0 (by simp)
    have h1 := cat_le f m L (fun i hi => h (i + 1) (by simpa using hi))
    show (f a ++ cat f L).size ≤ _
    rw [ByteArray.size_append, List.length_cons, Nat.succ_mul]
    simp only [List.getElem_cons_zero] at h0
    omega
theorem numS10 {n : Int} (h0 : 0 ≤ n) (h1 : n ≤ 1000000000) : (numS n).size ≤ 10 := numS_le (by omega) (by omega)
end Go.Proofs.YtjnbhppnchmeoaaDoor

namespace Go.Proofs.YtjnbhppnchmeoaaDoor
open Go.RowKit
set_option linter.unusedVariables false

def prfE (p : Prf) : ByteArray := numS p.view ++ numS p.seq ++ ptext p.op ++ numS p.who.length ++ cat numS p.who
def cngE (c : Cng) : ByteArray := numS c.frm ++ numS c.view ++ numS c.proofs.length ++ cat prfE c.proofs
def syE (y : Sy) : ByteArray := numS y.kind ++ numS y.frm ++ numS y.view ++ numS y.seq ++ ptext y.op ++ numS y.changes.length ++ cat cngE y.changes
/-- SayBytes. -/
def syBytes (y : Sy) : ByteArray := if sayB y = true then syE y else ⟨#[]⟩
theorem syBytes_no {y : Sy} (h : sayB y = false) : syBytes y = ⟨#[]⟩ := by unfold syBytes; rw [h]; rfl
theorem syBytes_ok {y : Sy} (h : sayB y = true) : syBytes y = syE y := by unfold syBytes; rw [h]; rfl
/-- What a right proof is bounded by. -/
structure PrfSz (p : Prf) : Prop where
  view : 0 ≤ p.view ∧ p.view ≤ 7
  seq : 0 ≤ p.seq ∧ p.seq ≤ 6
  op : p.op.size ≤ 120
  whon : p.who.length ≤ 4
  who : ∀ i (h : i < p.who.length), 0 ≤ p.who[i] ∧ p.who[i] ≤ 3
theorem five_sz {L : List Int} (h : quorum L = true) : L.length ≤ 4 ∧ ∀ i (h : i < L.length), 0 ≤ L[i] ∧ L[i] ≤ 3 := by
  have : ∀ M ∈ five, M.length ≤ 4 ∧ ∀ x ∈ M, 0 ≤ x ∧ x ≤ 3 := by decide
  obtain ⟨a, b⟩ := this L (quorum_five h)
  exact ⟨a, fun i hi => b _ (List.getElem_mem hi)⟩
theorem prfSz {p : Prf} (h : prfB p = true) : PrfSz p := by
  unfold prfB at h
  simp only [Bool.and_eq_true, decide_eq_true_eq] at h
  obtain ⟨h1, h2, h3, h4⟩ := h
  obtain ⟨q1, q2⟩ := five_sz h4
  exact ⟨h1, by omega, h3, q1, q2⟩
theorem pr_all (v : Int) : ∀ (L : List Prf) (last : Int), pr v last L = true → (L = [] ∨ last + L.length ≤ 6) ∧ ∀ i (h : i < L.length), prfB L[i] = true
  | [], _, _ => ⟨.inl rfl, fun i h => absurd h (by simp)⟩
  | p :: t, last, h => by
    unfold pr at h
    rw [Bool.and_eq_true, decide_eq_true_eq] at h
    obtain ⟨⟨h1, h2, h3⟩, h4⟩ := h
    obtain ⟨q1, q2⟩ := pr_all v t p.seq h4
    have hs := (prfSz h1).seq
    refine ⟨.inr ?_, fun i hi => ?_⟩
    · rcases q1 with e | e
      · subst e; simp; omega
      · simp only [List.length_cons]; omega
    · cases i with
      | zero => exact h1
      | succ i => exact q2 i (by simpa using hi)
structure CngSz (c : Cng) : Prop where
  frm : 0 ≤ c.frm ∧ c.frm ≤ 3
  view : 0 ≤ c.view ∧ c.view ≤ 7
  proofsn : c.proofs.length ≤ 6
  proofs : ∀ i (h : i < c.proofs.length), PrfSz c.proofs[i]
theorem cngSz {c : Cng} (h : cngB c = true) : CngSz c := by
  unfold cngB balB chP at h
  simp only [Bool.and_eq_true, decide_eq_true_eq] at h
  obtain ⟨⟨h1, h2⟩, h3⟩ := h
  obtain ⟨q1, q2⟩ := pr_all _ _ _ h3
  refine ⟨h1, by omega, ?_, fun i hi => prfSz (q2 i hi)⟩
  rcases q1 with e | e
  · rw [e]; simp
  · omega
theorem cr_all (v : Int) : ∀ (L : List Cng) (last : Int), cr v last L = true → ∀ i (h : i < L.length), cngB L[i] = true
  | [], _, _ => fun i h => absurd h (by simp)
  | c :: t, last, h => by
    unfold cr at h
    rw [Bool.and_eq_true, decide_eq_true_eq] at h
    obtain ⟨⟨h1, h2, h3⟩, h4⟩ := h
    intro i hi
    cases i with
    | zero => exact h1
    | succ i => exact cr_all v t c.frm h4 i (by simpa using hi)
theorem cr_len {v : Int} {L : List Cng} (h : cr v (-1) L = true) : L.length ≤ 4 := by
  have h1 := cr_br v L (-1)
  rw [h] at h1
  have h' := h1.symm
  rw [Bool.and_eq_true] at h'
  rcases br_len _ _ _ h'.1 with e | e
  · rw [e]; simp
  · omega
structure SySz (y : Sy) : Prop where
  kind : 0 ≤ y.kind ∧ y.kind ≤ 5
  frm : 0 ≤ y.frm ∧ y.frm ≤ 3
  view : 0 ≤ y.view ∧ y.view ≤ 7
  seq : 0 ≤ y.seq ∧ y.seq ≤ 6
  op : y.op.size ≤ 120
  changesn : y.changes.length ≤ 4
  changes : ∀ i (h : i < y.changes.length), CngSz y.changes[i]
theorem sySz {y : Sy} (h : sayB y = true) : SySz y := by
  unfold sayB at h
  simp only [Bool.and_eq_true, decide_eq_true_eq] at h
  obtain ⟨h1, h2, h3⟩ := h
  unfold restB at h3
  split at h3
  · next hk =>
    unfold numB at h3
    simp only [Bool.and_eq_true, decide_eq_true_eq] at h3
    obtain ⟨h4, h5, h6, h7⟩ := h3
    exact ⟨by omega, h1, h2, by omega, h5, by omega, fun i hi => by omega⟩
  · split at h3
    · next hk =>
      unfold chgB at h3
      simp only [Bool.and_eq_true, decide_eq_true_eq] at h3
      obtain ⟨h4, h5, h6, h7⟩ := h3
      by_cases hl : y.changes.length = 1
      · obtain ⟨c, hc⟩ := len_one hl
        rw [hc] at h7
        unfold oneB at h7
        simp only [Bool.and_eq_true] at h7
        refine ⟨by omega, h1, h2, by omega, by omega, by omega, fun i hi => ?_⟩
        obtain rfl : i = 0 := by omega
        simp only [hc, List.getElem_cons_zero]
        exact cngSz h7.1
      · rw [oneB_len hl] at h7; cases h7
    · split at h3
      · next hk =>
        unfold newB at h3
        simp only [Bool.and_eq_true, decide_eq_true_eq] at h3
        obtain ⟨h4, _, h5, h6, h7, h8⟩ := h3
        exact ⟨by omega, h1, h2, by omega, by omega, cr_len h7, fun i hi => cngSz (cr_all _ _ _ h7 i hi)⟩
      · cases h3
theorem prfE_le {p : Prf} (h : PrfSz p) : (prfE p).size ≤ 210 := by
  have h1 := numS10 (n := p.view) h.view.1 (by have := h.view; omega)
  have h2 := numS10 (n := p.seq) h.seq.1 (by have := h.seq; omega)
  have h3 := ptext_le (t := p.op) (by have := h.op; omega)
  have h4 := numS10 (n := (p.who.length : Int)) (by omega) (by have := h.whon; omega)
  have h5 := cat_le numS 10 p.who (fun i hi => by have := h.who i hi; exact numS10 (by omega) (by omega))
  have h6 := h.whon
  have h7 := h.op
  unfold prfE; simp only [ByteArray.size_append]; omega
theorem cngE_le {c : Cng} (h : CngSz c) : (cngE c).size ≤ 1300 := by
  have h1 := numS10 (n := c.frm) h.frm.1 (by have := h.frm; omega)
  have h2 := numS10 (n := c.view) h.view.1 (by have := h.view; omega)
  have h4 := numS10 (n := (c.proofs.length : Int)) (by omega) (by have := h.proofsn; omega)
  have h5 := cat_le prfE 210 c.proofs (fun i hi => prfE_le (h.proofs i hi))
  have h6 := h.proofsn
  unfold cngE; simp only [ByteArray.size_append]; omega
end Go.Proofs.YtjnbhppnchmeoaaDoor
