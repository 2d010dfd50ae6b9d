/- VectorGood of the program. Leaders and quorums, as plain mathematics. Leader and QuorumRight: spec and impl answer alike. Rows of strings as the laws on draws compare them; bytes below a call. -/
import Derived.Test.YtodnmbppgjbpmaaDoorAuVW
import Derived.BigRegion
import Derived.Deep.RegionLaw
import Derived.Test.YtodnmbppgjbpmaaDoorBlkW
import Derived.Lib.Hide
import Derived.Test.YtodnmbppgjbpmaaDoorAdrW
import Derived.Test.YtodnmbppgjbpmaaDoorPickW
import Derived.Test.YtodnmbppgjbpmaaDoorStrW
namespace Go.Proofs.YtodnmbppgjbpmaaDoor
open Go.RowKit
set_option linter.unusedVariables false
set_option maxRecDepth 1000000

theorem kept_cell2 {w w' : World} {B : Nat} {a : Addr} {v : Value} (hb : Below B w w') (ha : a.block < B) (h : w.cell? a = some v) : w'.cell? a = some v := by
  rw [hb.cell (p := a) ha]; exact h
set_option maxHeartbeats 4000000 in
theorem implVG_any (k : ByteArray) (f d : Int) (t : ByteArray) (A : Option Addr) (M : List ByteArray) (c : Nat) (w : World) (hk : k.size ≤ maxLen) (ht : t.size ≤ maxLen) (hM : Strs w w.heap.size A M) (hK : Keys w) (hw : 2 < w.heap.size) :
    Calls Tryd.prog 15 #[.string k, .int .i64 f, .int .i64 d, .string t, .slice A M.length c] w fun e w' => e = .returned (.bool (vgB k f d t M)) ∧ Below w.heap.size w w' := by
  have HI := Lib.hid (fun h => vgB_in (k := k) (f := f) (d := d) (t := t) (M := M) h)
  have HO := Lib.hid (fun h => vgB_out (k := k) (f := f) (d := d) (t := t) (M := M) h)
  have PK := Lib.hid (implPairKey_any k f d w hk hK hw)
  have TL : ∀ W, Calls Tryd.prog 46 #[.string t] W fun e w' => e = .returned (.bool (decide (20000 < t.size))) ∧ W = w' := fun W => (tooLong_any t W ht).mono fun e w' h => ⟨h.1, h.2.symm⟩
  have hk' := hk
  have ht' := ht
  have hml := hM.1
  unfold maxLen at hk' ht' hml
  generalize vgB k f d t M = R at HI HO ⊢
  by_cases hg : Sec k ∧ Who f ∧ Who d ∧ f ≠ d
  · rw [keyB_in hg] at PK
    obtain ⟨key, HKy⟩ : ∃ x, Hid (pairB k f.toNat d.toNat = x) := ⟨_, Lib.hid rfl⟩
    have hks : key.size = 32 := by rw [← HKy.out, pairB_size]
    rw [HKy.out] at PK
    have hfe := empty_no (s := key) (by omega)
    rcases Bool.eq_false_or_eq_true (decide (20000 < t.size)) with hl | hl
    · have hl' := of_decide_eq_true hl
      obtain rfl := HO.out (fun h => by omega)
      rw [hl] at TL
      clear hg
      go_enter Tryd.func15, Tryd.ntmps15
      go_wp2_with (first
        | (go_at_call 9; refine PK.out.mono ?_; rintro e w1 ⟨rfl, hb1⟩)
        | (go_at_call 46; refine (TL _).mono ?_; rintro e w2 ⟨rfl, rfl⟩))
      go_ret
      exact ⟨rfl, hb1⟩
    · have hl' := of_decide_eq_false hl
      rw [hl] at TL
      by_cases h4 : M.length = 4
      · have q4 : ((M.length : Int) != 4) = false := by simp; omega
        have hdl : d.toNat < M.length := by have := hg.2.2.1; unfold Who at this; omega
        have HE := Lib.hid (HI.out ⟨hg, by omega, h4⟩ hdl)
        have hb' := hg.2.2.1
        have hff : Hid (codeB k f.toNat d.toNat t = cutB key t) := Lib.hid (by
          unfold codeB
          have h1 := hg.2.1
          have h2 := hg.2.2.2
          unfold Who at h1 hb'
          rw [if_neg (by omega), pairB_comm, HKy.out])
        unfold Who at hb'
        clear HI HO hg
        obtain ⟨dn, rfl⟩ : ∃ n : Nat, d = n := ⟨d.toNat, by omega⟩
        have hd4 : (dn : Int) < 4 := by omega
        simp only [Int.toNat_natCast] at HE hff
        obtain ⟨x, HX⟩ : ∃ x, Hid (cutB key t = x) := ⟨_, Lib.hid rfl⟩
        rw [hff.out, HX.out] at HE
        obtain ⟨y, HY⟩ : ∃ y, Hid (M[dn]'(by omega) = y) := ⟨_, Lib.hid rfl⟩
        rw [HY.out] at HE
        obtain ⟨b, rfl, hbb, m0⟩ := hM.2 dn (by omega)
        rw [HY.out] at m0
        have hR : R = (x.toList == y.toList) := HE.out
        subst hR
        clear HE hff HY
        have CD : Hid (∀ W, Below w.heap.size w W → Calls Tryd.prog 48 #[.string t, .slice (some ⟨W.heap.size, 0, none⟩) 1 1] (W.alloc (.cells #[.string key] 9)) fun e w' => ∃ g, ∃ c' : Nat, e = .returned (.slice (some ⟨g, 0, none⟩) 1 c') ∧ w'.cell? ⟨g, 0, none⟩ = some (.string x) ∧ Below W.heap.size W w') := Lib.hid (by
          intro W h
          have hB := Blk.fresh W 9 ([key].map Value.string)
          have hS := hB.strs (by simp [maxLen])
          have hz := h.size
          refine (codes_any (some ⟨W.heap.size, 0, none⟩) [key] 1 t (W.alloc (.cells #[.string key] 9)) hS (by simp) (fun i hi => by simp at hi; subst hi; show key.size ≤ 32; omega) (by omega) (hK.below (h.alloc (Nat.le_trans (Nat.le_refl _) hz) _) hw) (by rw [World.size_alloc]; omega)).mono ?_
          rintro e w' ⟨g, c', rfl, hR, hb⟩
          refine ⟨g, c', rfl, ?_, ((Below.refl _ _).alloc (Nat.le_refl _) _).trans (hb.mono (by rw [World.size_alloc]; omega))⟩
          have hx : encB key t = x := by unfold encB; rw [if_neg (by omega)]; exact HX.out
          exact World.ownsRow.cells hR.1 (g := g) rfl 0 (.string x) (by simp [encL, hx]))
        go_enter Tryd.func15, Tryd.ntmps15
        go_wp2_with (first
          | (go_at_call 9; refine PK.out.mono ?_; rintro e w1 ⟨rfl, hb1⟩)
          | (go_at_call 46; refine (TL _).mono ?_; rintro e w2 ⟨rfl, rfl⟩))
        have y1 := kept_cell2 hb1 (by rw [add_blk]; exact hbb) m0
        have hbd : Below w.heap.size w w1.drew := below_drew hb1
        have z0 : w1.drew.cell? (b.add dn) = some (.string y) := y1
        have C1 : Hid (Calls Tryd.prog 48 #[.string t, .slice (some ⟨w1.heap.size, 0, none⟩) 1 1] (w1.alloc (.cells #[.string key] 9)).drew fun e w' => ∃ g, ∃ c' : Nat, e = .returned (.slice (some ⟨g, 0, none⟩) 1 c') ∧ w'.cell? ⟨g, 0, none⟩ = some (.string x) ∧ Below w1.heap.size w1.drew w') := Lib.hid (CD.out w1.drew hbd)
        have hlb : (b.add dn).block < w1.heap.size := by rw [add_blk]; have := hb1.size; omega
        clear CD
        have z1 : (w1.alloc (.cells #[.string key] 9)).drew.cell? (b.add dn) = some (.string y) := kept_cell2 ((Below.refl w1.heap.size w1.drew).alloc (Nat.le_refl _) _) hlb z0
        go_region_law
          (first
            | (go_simp; go_at_call 48; (with_reducible refine C1.out.mono ?_); rintro e w3 ⟨g3, c3, rfl, x3, hb3⟩; have z2 := kept_cell2 hb3 hlb z0))
        all_goals
          go_wp2
          go_ret
          exact ⟨rfl, hbd.trans (hb3.mono hbd.size)⟩
      · have q4 : ((M.length : Int) != 4) = true := by simp; omega
        obtain rfl := HO.out (fun h => h4 h.2.2)
        clear hg
        go_enter Tryd.func15, Tryd.ntmps15
        go_wp2_with (first
          | (go_at_call 9; refine PK.out.mono ?_; rintro e w1 ⟨rfl, hb1⟩)
          | (go_at_call 46; refine (TL _).mono ?_; rintro e w2 ⟨rfl, rfl⟩))
        go_ret
        exact ⟨rfl, hb1⟩
  · rw [keyB_out hg] at PK
    obtain rfl := HO.out (fun h => hg h.1)
    rcases Bool.eq_false_or_eq_true (decide (20000 < t.size)) with hl | hl
    all_goals
      rw [hl] at TL
      clear hg
      go_enter Tryd.func15, Tryd.ntmps15
      go_wp2_with (first
        | (go_at_call 9; refine PK.out.mono ?_; rintro e w1 ⟨rfl, hb1⟩)
        | (go_at_call 46; refine (TL _).mono ?_; rintro e w2 ⟨rfl, rfl⟩))
      go_ret
      exact ⟨rfl, hb1⟩
end Go.Proofs.YtodnmbppgjbpmaaDoor

namespace Go.Proofs.YtodnmbppgjbpmaaDoor
open Go.RowKit
set_option linter.unusedVariables false

/-- Do the numbers rise from one above last, all of replicas? -/
def qr (last : Int) : List Int → Bool
  | [] => true
  | r :: t => decide (last < r ∧ 0 ≤ r ∧ r ≤ 3) && qr r t
/-- What QuorumRight answers. -/
def quorum (L : List Int) : Bool := qr (-1) L && decide (3 ≤ L.length)
theorem qr_end {L : List Int} {k : Nat} {last : Int} (h : L.length ≤ k) : qr last (L.drop k) = true := by rw [List.drop_eq_nil_of_le h]; rfl
theorem qr_bad {L : List Int} {k : Nat} {last : Int} (h : k < L.length) (hb : ¬ (last < L[k] ∧ 0 ≤ L[k] ∧ L[k] ≤ 3)) : qr last (L.drop k) = false := by
  rw [List.drop_eq_getElem_cons h]; unfold qr; rw [decide_eq_false hb]; rfl
theorem qr_next {L : List Int} {k : Nat} {last : Int} (h : k < L.length) (hb : last < L[k] ∧ 0 ≤ L[k] ∧ L[k] ≤ 3) : qr last (L.drop k) = qr L[k] (L.drop (k + 1)) := by
  rw [List.drop_eq_getElem_cons h]; conv => lhs; unfold qr
  rw [decide_eq_true hb, Bool.true_and]
/-- The quorums. -/
def five : List (List Int) := [[0, 1, 2], [0, 1, 3], [0, 2, 3], [1, 2, 3], [0, 1, 2, 3]]
theorem quorum_five {L : List Int} (h : quorum L = true) : L ∈ five := by
  unfold quorum at h
  rw [Bool.and_eq_true, decide_eq_true_eq] at h
  obtain ⟨h, hl⟩ := h
  match L, hl with
  | [a, b, c], _ =>
    simp only [qr, Bool.and_eq_true, decide_eq_true_eq, and_true] at h
    obtain ⟨h1, h2, h3⟩ := h
    rcases (show (a = 0 ∧ b = 1 ∧ c = 2) ∨ (a = 0 ∧ b = 1 ∧ c = 3) ∨ (a = 0 ∧ b = 2 ∧ c = 3) ∨ (a = 1 ∧ b = 2 ∧ c = 3) by omega) with ⟨rfl, rfl, rfl⟩ | ⟨rfl, rfl, rfl⟩ | ⟨rfl, rfl, rfl⟩ | ⟨rfl, rfl, rfl⟩ <;> decide
  | [a, b, c, d], _ =>
    simp only [qr, Bool.and_eq_true, decide_eq_true_eq, and_true] at h
    obtain ⟨h1, h2, h3, h4⟩ := h
    obtain ⟨rfl, rfl, rfl, rfl⟩ : a = 0 ∧ b = 1 ∧ c = 2 ∧ d = 3 := by omega
    decide
  | a :: b :: c :: d :: e :: _, _ =>
    simp only [qr, Bool.and_eq_true, decide_eq_true_eq] at h
    omega
/-- How often a number stands in a list. -/
def cnt1 (a : Int) (Q : List Int) : Nat := (Q.filter fun b => decide (a = b)).length
/-- How many pairs of two lists are equal. -/
def cnt2 (P Q : List Int) : Nat := (P.map fun a => cnt1 a Q).sum
theorem cnt1_step {a : Int} {Q : List Int} {j : Nat} (h : j < Q.length) : cnt1 a (Q.take (j + 1)) = cnt1 a (Q.take j) + (if a = Q[j] then 1 else 0) := by
  unfold cnt1; rw [List.take_succ_eq_append_getElem h, List.filter_append, List.length_append]
  by_cases e : a = Q[j] <;> simp [e]
theorem cnt2_step {P Q : List Int} {i : Nat} (h : i < P.length) : cnt2 (P.take (i + 1)) Q = cnt2 (P.take i) Q + cnt1 P[i] Q := by
  unfold cnt2; rw [List.take_succ_eq_append_getElem h, List.map_append, List.sum_append]; simp
theorem cnt1_le (a : Int) (Q : List Int) : cnt1 a Q ≤ Q.length := List.length_filter_le _ _
theorem cnt2_le (P Q : List Int) : cnt2 P Q ≤ P.length * Q.length := by
  unfold cnt2
  induction P with
  | nil => simp
  | cons a P ih => have := cnt1_le a Q; simp only [List.map_cons, List.sum_cons, List.length_cons, Nat.add_mul, Nat.one_mul]; omega
theorem two_share : ∀ P ∈ five, ∀ Q ∈ five, 2 ≤ cnt2 P Q := by decide
theorem quorums_share {P Q : List Int} (h : quorum P = true) (g : quorum Q = true) : 2 ≤ cnt2 P Q := two_share P (quorum_five h) Q (quorum_five g)
end Go.Proofs.YtodnmbppgjbpmaaDoor

namespace Go.Proofs.YtodnmbppgjbpmaaDoor
open Go.RowKit
set_option linter.unusedVariables false
set_option maxRecDepth 1000000

/-- The leader of a view. -/
def leadI (v : Int) : Int := if v < 0 then 0 else v % 4
theorem specLeader_any (v : Int) (w : World) (hv : (Lit.int .i64 v).wf = true) : Calls Tryd.prog 21 #[.int .i64 v] w fun e w' => e = .returned (.int .i64 (leadI v)) ∧ w = w' := by
  have hb := wf_i64 hv
  by_cases h : v < 0
  · have e : leadI v = 0 := if_pos h
    rw [e]
    go_enter Tryd.func21, Tryd.ntmps21
    go_wp2
    go_ret
    exact ⟨rfl, rfl⟩
  · have e : leadI v = v % 4 := if_neg h
    rw [e]
    go_enter Tryd.func21, Tryd.ntmps21
    go_wp2
    go_ret
    exact ⟨rfl, rfl⟩
theorem implLeader_any (v : Int) (w : World) (hv : (Lit.int .i64 v).wf = true) : Calls Tryd.prog 20 #[.int .i64 v] w fun e w' => e = .returned (.int .i64 (leadI v)) ∧ w = w' := by
  have hb := wf_i64 hv
  by_cases h : v < 0
  · have e : leadI v = 0 := if_pos h
    rw [e]
    go_enter Tryd.func20, Tryd.ntmps20
    go_wp2
    go_ret
    exact ⟨rfl, rfl⟩
  · have e : leadI v = v % 4 := if_neg h
    rw [e]
    go_enter Tryd.func20, Tryd.ntmps20
    go_wp2
    go_ret
    exact ⟨rfl, rfl⟩
theorem inQ_any {n a b : Int} {r : Bool} (h : decide (a ≤ n ∧ n ≤ b) = r) (w : World) : Calls Tryd.prog 68 #[.int .i64 n, .int .i64 a, .int .i64 b] w fun e w' => e = .returned (.bool r) ∧ w = w' := by
  subst h
  by_cases h1 : a ≤ n <;> by_cases h2 : n ≤ b
  all_goals
    go_enter Tryd.func68, Tryd.ntmps68
    go_wp2
    go_ret
    exact ⟨retB (by simp [h1, h2]), rfl⟩
theorem replQ_any {n : Int} {r : Bool} (h : decide (0 ≤ n ∧ n ≤ 3) = r) (w : World) : Calls Tryd.prog 38 #[.int .i64 n] w fun e w' => e = .returned (.bool r) ∧ w = w' := by
  go_enter Tryd.func38, Tryd.ntmps38
  go_wp2_with (go_at_call 68; refine (inQ_any h _).mono ?_; rintro e w1 ⟨rfl, rfl⟩)
  go_ret
  exact ⟨rfl, rfl⟩
theorem whoQ_any {n : Int} {r : Bool} (h : decide (0 ≤ n ∧ n ≤ 3) = r) (w : World) : Calls Tryd.prog 40 #[.int .i64 n] w fun e w' => e = .returned (.bool r) ∧ ∃ m, w' = w.drewN m := by
  have h' : (decide (0 ≤ n) && decide (n ≤ 3)) = r := by rw [← h, ← Bool.decide_and]
  go_enter Tryd.func40, Tryd.ntmps40
  go_wp2_with (go_at_call 71; refine (l03Is_any n 0 3 _).mono ?_; rintro e w1 ⟨rfl, rfl⟩; rw [h'])
  go_ret
  exact ⟨rfl, 0, rfl⟩

set_option maxHeartbeats 4000000 in
theorem implQuorum_any (A : Option Addr) (L : List Int) (c : Nat) (w : World) (hL : Nms w w.heap.size A L) :
    Calls Tryd.prog 22 #[.slice A L.length c] w fun e w' => e = .returned (.bool (quorum L)) ∧ Below w.heap.size w w' := by
  have hn := hL.1
  unfold maxLen at hn
  obtain ⟨V, HV⟩ : ∃ V, Hid (qr (-1) L = V) := ⟨_, Lib.hid rfl⟩
  obtain ⟨R, HR⟩ : ∃ V, Hid (quorum L = V) := ⟨_, Lib.hid rfl⟩
  have HVR : Hid (R = (V && decide (3 ≤ L.length))) := Lib.hid (by rw [← HR.out, ← HV.out]; rfl)
  rw [HR.out]
  clear HR
  go_enter Tryd.func22, Tryd.ntmps22
  go_wp2
  go_loopw [3, 8] (fun l i wr => ∃ (k : Nat) (last : Int), k ≤ L.length ∧ i = .int .i64 k ∧ l = .int .i64 last ∧ Hid (qr last (L.drop k) = V) ∧ Below w.heap.size w wr) (fun _ i _ => L.length - (intOf i).toNat)
  case atStart => exact ⟨0, -1, by omega, rfl, rfl, HV, Below.refl _ _⟩
  case round =>
    clear HV
    obtain ⟨k, last, hk, rfl, rfl, HQ, hb⟩ := hrel
    by_cases hlt : k < L.length
    · obtain ⟨a, rfl, hab, c0, _⟩ := (hL.below hb (Nat.le_refl _)).2 k hlt
      have hlt' : (k : Int) < (L.length : Int) := by omega
      have hbad := Lib.hid (qr_bad (last := last) hlt)
      have hnext := Lib.hid (qr_next (last := last) hlt)
      obtain ⟨x, HX⟩ : ∃ x, Hid (L[k] = x) := ⟨_, Lib.hid rfl⟩
      rw [HX.out] at hbad hnext c0
      by_cases hle : x ≤ last
      · have hV : V = false := by rw [← HQ.out, hbad.out (by omega)]
        subst hV
        obtain rfl : R = false := by rw [HVR.out]; rfl
        go_wp2
        go_ret
        exact ⟨rfl, hb⟩
      · rcases Bool.eq_false_or_eq_true (decide (0 ≤ x ∧ x ≤ 3)) with hr | hr
        · have hr' := of_decide_eq_true hr
          have HN := Lib.hid ((hnext.out ⟨by omega, hr'.1, hr'.2⟩).symm.trans HQ.out)
          clear hbad hnext
          go_wp2_with (go_at_call 38; refine (replQ_any hr _).mono ?_; rintro e w1 ⟨rfl, rfl⟩)
          exact ⟨⟨k + 1, x, by omega, by go_num, rfl, HN, hb⟩, by simp [intOf]; omega⟩
        · have hr' := of_decide_eq_false hr
          have hV : V = false := by rw [← HQ.out, hbad.out (fun h => hr' h.2)]
          subst hV
          obtain rfl : R = false := by rw [HVR.out]; rfl
          go_wp2_with (go_at_call 38; refine (replQ_any hr _).mono ?_; rintro e w1 ⟨rfl, rfl⟩)
          go_ret
          exact ⟨rfl, hb⟩
    · obtain rfl : k = L.length := by omega
      have hV : V = true := by rw [← HQ.out, qr_end (Nat.le_refl _)]
      subst hV
      go_wp2
      go_ret
      exact ⟨retB (by rw [HVR.out, Bool.true_and]; simp; omega), hb⟩

set_option maxHeartbeats 4000000 in
theorem specQuorum_any (A : Option Addr) (L : List Int) (c : Nat) (w : World) (hL : Nms w w.heap.size A L) :
    Calls Tryd.prog 23 #[.slice A L.length c] w fun e w' => e = .returned (.bool (quorum L)) ∧ Below w.heap.size w w' := by
  have hn := hL.1
  unfold maxLen at hn
  obtain ⟨V, HV⟩ : ∃ V, Hid (qr (-1) L = V) := ⟨_, Lib.hid rfl⟩
  obtain ⟨R, HR⟩ : ∃ V, Hid (quorum L = V) := ⟨_, Lib.hid rfl⟩
  have HVR : Hid (R = (V && decide (3 ≤ L.length))) := Lib.hid (by rw [← HR.out, ← HV.out]; rfl)
  rw [HR.out]
  clear HR
  go_enter Tryd.func23, Tryd.ntmps23
  go_wp2
  go_loopw [3] (fun i wr => ∃ (k : Nat) (last : Int), k ≤ L.length ∧ i = .int .i64 k ∧ Hid (k = 0 → last = -1) ∧ Hid (∀ h : k - 1 < L.length, 0 < k → L[k - 1] = last) ∧ Hid (qr last (L.drop k) = V) ∧ Below w.heap.size w wr) (fun i _ => L.length - (intOf i).toNat)
  case atStart => exact ⟨0, -1, by omega, rfl, Lib.hid fun _ => rfl, Lib.hid fun _ h => absurd h (Nat.lt_irrefl 0), HV, Below.refl _ _⟩
  case round =>
    clear HV
    obtain ⟨k, last, hk, rfl, HA0, HA1, HQ, hb⟩ := hrel
    by_cases hlt : k < L.length
    · have hLw := hL.below hb (Nat.le_refl _)
      obtain ⟨a, rfl, hab, c0, _⟩ := hLw.2 k hlt
      have hlt' : (k : Int) < (L.length : Int) := by omega
      have hbad := Lib.hid (qr_bad (last := last) hlt)
      have hnext := Lib.hid (qr_next (last := last) hlt)
      obtain ⟨x, HX⟩ : ∃ x, Hid (L[k] = x) := ⟨_, Lib.hid rfl⟩
      have HL1 : Hid (∀ h : k + 1 - 1 < L.length, 0 < k + 1 → L[k + 1 - 1] = x) := Lib.hid fun h _ => by simpa using HX.out
      rw [HX.out] at hbad hnext c0
      rcases Bool.eq_false_or_eq_true (decide (0 ≤ x ∧ x ≤ 3)) with hr | hr
      · have hr' := of_decide_eq_true hr
        have WH := Lib.hid (fun W => whoQ_any hr W)
        rcases Nat.eq_zero_or_pos k with h0 | h0
        · subst h0
          have hl1 := HA0.out rfl
          have HN := Lib.hid ((hnext.out ⟨by omega, hr'.1, hr'.2⟩).symm.trans HQ.out)
          clear hbad hnext HA0 HA1
          have c1 : wr.cell? a = some (.int .i64 x) := by simpa [Addr.add] using c0
          go_wp2_with (fail)
          go_quiet ((go_at_call 40; (with_reducible exact Calls.quiet_of (WH.out _))))
          go_wp2
          exact ⟨⟨1, x, by omega, by go_num, Lib.hid (fun h => absurd h (by decide)), HL1, HN, below_drewN hb _⟩, by simp [intOf]; omega⟩
        · obtain ⟨j, hj⟩ : ∃ j, k = j + 1 := ⟨k - 1, by omega⟩
          have hjl : j < L.length := by omega
          obtain ⟨a', e', _, d0, _⟩ := hLw.2 j hjl
          injection e' with e'
          subst e'
          have hlast : L[j] = last := by have := HA1.out (by omega) h0; simp only [hj] at this; exact this
          rw [hlast] at d0
          have hjl' : (j : Int) < (L.length : Int) := by omega
          have hj0 : (0 : Int) ≤ (j : Int) := by omega
          have hk1 : IntKind.i64.wrap ((k : Int) - 1) = (j : Int) := by rw [IntWalk.i64_in _ (by omega)]; omega
          have h0' : (0 : Int) < (k : Int) := by omega
          have h0d : decide (0 < k) = true := by simp; exact h0
          clear hlast HA0 HA1 hj
          by_cases hle : last < x
          · have HN := Lib.hid ((hnext.out ⟨hle, hr'.1, hr'.2⟩).symm.trans HQ.out)
            have hd : decide (x ≤ last) = false := by simp; omega
            clear hbad hnext
            go_wp2_with (fail)
            go_quiet ((go_at_call 40; (with_reducible exact Calls.quiet_of (WH.out _))))
            go_wp2
            exact ⟨⟨k + 1, x, by omega, by go_num, Lib.hid (fun h => absurd h (by omega)), HL1, HN, below_drewN hb _⟩, by simp [intOf]; omega⟩
          · have hV : V = false := by rw [← HQ.out, hbad.out (fun h => hle h.1)]
            subst hV
            obtain rfl : R = false := by rw [HVR.out]; rfl
            have hd : decide (x ≤ last) = true := by simp; omega
            clear hbad hnext
            go_wp2_with (fail)
            go_quiet ((go_at_call 40; (with_reducible exact Calls.quiet_of (WH.out _))))
            go_wp2
            go_ret
            exact ⟨rfl, below_drewN hb _⟩
      · have hr' := of_decide_eq_false hr
        have WH := Lib.hid (fun W => whoQ_any hr W)
        have hV : V = false := by rw [← HQ.out, hbad.out (fun h => hr' h.2)]
        subst hV
        obtain rfl : R = false := by rw [HVR.out]; rfl
        clear hbad hnext HA0 HA1
        rcases Nat.eq_zero_or_pos k with h0 | h0
        · subst h0
          have c1 : wr.cell? a = some (.int .i64 x) := by simpa [Addr.add] using c0
          go_wp2_with (fail)
          go_quiet ((go_at_call 40; (with_reducible exact Calls.quiet_of (WH.out _))))
          go_wp2
          go_ret
          exact ⟨rfl, below_drewN hb _⟩
        · go_wp2_with (fail)
          go_quiet ((go_at_call 40; (with_reducible exact Calls.quiet_of (WH.out _))))
          go_wp2
          go_ret
          exact ⟨rfl, below_drewN hb _⟩
    · obtain rfl : k = L.length := by omega
      have hV : V = true := by rw [← HQ.out, qr_end (Nat.le_refl _)]
      subst hV
      go_wp2
      go_ret
      exact ⟨retB (by rw [HVR.out, Bool.true_and]; simp; omega), hb⟩
end Go.Proofs.YtodnmbppgjbpmaaDoor

namespace Go.Proofs.YtodnmbppgjbpmaaDoor
open Go.RowKit
set_option linter.unusedVariables false
set_option maxRecDepth 1000000

theorem bts_below {w w' : World} {A : Option Addr} {n : Nat} (h : Bts w w.heap.size A n) (hb : Below w.heap.size w w') : Bts w' w'.heap.size A n :=
  ⟨h.1, fun i hi => by
    obtain ⟨a, x, e, h1, h2, h3⟩ := h.2 i hi
    refine ⟨a, x, e, Nat.lt_of_lt_of_le h1 hb.size, ?_, h3⟩
    rw [hb.cell (p := a.add i) (by rw [add_block]; exact h1)]; exact h2⟩

set_option maxHeartbeats 2000000 in
theorem lwTexts_same (A B : Option Addr) (L : List ByteArray) (c d : Nat) (w : World) (hA : Strs w w.heap.size A L) (hB : Strs w w.heap.size B L) :
    Calls Tryd.prog 13 #[.slice A L.length c, .slice B L.length d] w fun e w' => e = .returned (.bool true) ∧ ∃ n, w' = w.drewN n := by
  have hn := hA.1
  unfold maxLen at hn
  go_enter Tryd.func13, Tryd.ntmps13
  go_wp2
  go_loopw [5] (fun i wr => ∃ k m : Nat, k ≤ L.length ∧ i = .int .i64 k ∧ wr = w.drewN m) (fun i _ => L.length - (intOf i).toNat)
  case atStart => exact ⟨0, 0, by omega, rfl, rfl⟩
  case round =>
    obtain ⟨k, m, hk, rfl, rfl⟩ := hrel
    by_cases hlt : k < L.length
    · obtain ⟨a, rfl, hab, a0⟩ := hA.2 k hlt
      obtain ⟨b, rfl, hbb, b0⟩ := hB.2 k hlt
      have hlt' : (k : Int) < (L.length : Int) := by omega
      go_wp2
      go_quiet (fail)
      go_wp2
      exact ⟨⟨k + 1, _, by omega, by go_num, rfl⟩, by simp [intOf]; omega⟩
    · obtain rfl : k = L.length := by omega
      go_wp2
      go_ret
      exact ⟨rfl, m, rfl⟩
theorem lwTexts_n (A B : Option Addr) (L : List ByteArray) (n c d : Nat) (w : World) (hn : L.length = n) (hA : Strs w w.heap.size A L) (hB : Strs w w.heap.size B L) :
    Calls Tryd.prog 13 #[.slice A n c, .slice B n d] w fun e w' => e = .returned (.bool true) ∧ ∃ n, w' = w.drewN n := by subst hn; exact lwTexts_same A B L c d w hA hB

end Go.Proofs.YtodnmbppgjbpmaaDoor
