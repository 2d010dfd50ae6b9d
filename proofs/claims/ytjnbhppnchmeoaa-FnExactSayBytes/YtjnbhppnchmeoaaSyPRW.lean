/- Leader and QuorumRight: spec and impl answer alike. Proofs, changes and says as the program holds them in memory. When proofs, changes and says are right, as plain mathematics. OpRight, ProofRight: spec and impl answer alike. -/
import Derived.Test.YtjnbhppnchmeoaaAuQW
import Derived.BigRegion
import Derived.Test.YtjnbhppnchmeoaaRwkW
import Derived.Lib.Hide
namespace Go.Proofs.Ytjnbhppnchmeoaa
open Go.RowKit
set_option linter.unusedVariables false
set_option maxRecDepth 1000000

/-- The leader of a view. -/
def leadI (v : Int) : Int := if v < 0 then 0 else v % 4
theorem specLeader_any (v : Int) (w : World) (hv : (Lit.int .i64 v).wf = true) : Calls Try.prog 93 #[.int .i64 v] w fun e w' => e = .returned (.int .i64 (leadI v)) ∧ w = w' := by
  have hb := wf_i64 hv
  by_cases h : v < 0
  · have e : leadI v = 0 := if_pos h
    rw [e]
    go_enter Try.func93, Try.ntmps93
    go_wp2
    go_ret
    exact ⟨rfl, rfl⟩
  · have e : leadI v = v % 4 := if_neg h
    rw [e]
    go_enter Try.func93, Try.ntmps93
    go_wp2
    go_ret
    exact ⟨rfl, rfl⟩
theorem implLeader_any (v : Int) (w : World) (hv : (Lit.int .i64 v).wf = true) : Calls Try.prog 97 #[.int .i64 v] w fun e w' => e = .returned (.int .i64 (leadI v)) ∧ w = w' := by
  have hb := wf_i64 hv
  by_cases h : v < 0
  · have e : leadI v = 0 := if_pos h
    rw [e]
    go_enter Try.func97, Try.ntmps97
    go_wp2
    go_ret
    exact ⟨rfl, rfl⟩
  · have e : leadI v = v % 4 := if_neg h
    rw [e]
    go_enter Try.func97, Try.ntmps97
    go_wp2
    go_ret
    exact ⟨rfl, rfl⟩
theorem inQ_any {n a b : Int} {r : Bool} (h : decide (a ≤ n ∧ n ≤ b) = r) (w : World) : Calls Try.prog 64 #[.int .i64 n, .int .i64 a, .int .i64 b] w fun e w' => e = .returned (.bool r) ∧ w = w' := by
  subst h
  by_cases h1 : a ≤ n <;> by_cases h2 : n ≤ b
  all_goals
    go_enter Try.func64, Try.ntmps64
    go_wp2
    go_ret
    exact ⟨retB (by simp [h1, h2]), rfl⟩
theorem replQ_any {n : Int} {r : Bool} (h : decide (0 ≤ n ∧ n ≤ 3) = r) (w : World) : Calls Try.prog 96 #[.int .i64 n] w fun e w' => e = .returned (.bool r) ∧ w = w' := by
  go_enter Try.func96, Try.ntmps96
  go_wp2_with (go_at_call 64; refine (inQ_any h _).mono ?_; rintro e w1 ⟨rfl, rfl⟩)
  go_ret
  exact ⟨rfl, rfl⟩
theorem whoQ_any {n : Int} {r : Bool} (h : decide (0 ≤ n ∧ n ≤ 3) = r) (w : World) : Calls Try.prog 87 #[.int .i64 n] w fun e w' => e = .returned (.bool r) ∧ ∃ m, w' = w.drewN m := by
  have h' : (decide (0 ≤ n) && decide (n ≤ 3)) = r := by rw [← h, ← Bool.decide_and]
  go_enter Try.func87, Try.ntmps87
  go_wp2_with (go_at_call 69; refine (l03Is_any n 0 3 _).mono ?_; rintro e w1 ⟨rfl, rfl⟩; rw [h'])
  go_ret
  exact ⟨rfl, 0, rfl⟩

set_option maxHeartbeats 4000000 in
theorem implQuorum_any (A : Option Addr) (L : List Int) (c : Nat) (w : World) (hL : Nms w w.heap.size A L) :
    Calls Try.prog 84 #[.slice A L.length c] w fun e w' => e = .returned (.bool (quorum L)) ∧ Below w.heap.size w w' := by
  have hn := hL.1
  unfold maxLen at hn
  obtain ⟨V, HV⟩ : ∃ V, Hid (qr (-1) L = V) := ⟨_, Lib.hid rfl⟩
  obtain ⟨R, HR⟩ : ∃ V, Hid (quorum L = V) := ⟨_, Lib.hid rfl⟩
  have HVR : Hid (R = (V && decide (3 ≤ L.length))) := Lib.hid (by rw [← HR.out, ← HV.out]; rfl)
  rw [HR.out]
  clear HR
  go_enter Try.func84, Try.ntmps84
  go_wp2
  go_loopw [3, 8] (fun l i wr => ∃ (k : Nat) (last : Int), k ≤ L.length ∧ i = .int .i64 k ∧ l = .int .i64 last ∧ Hid (qr last (L.drop k) = V) ∧ Below w.heap.size w wr) (fun _ i _ => L.length - (intOf i).toNat)
  case atStart => exact ⟨0, -1, by omega, rfl, rfl, HV, Below.refl _ _⟩
  case round =>
    clear HV
    obtain ⟨k, last, hk, rfl, rfl, HQ, hb⟩ := hrel
    by_cases hlt : k < L.length
    · obtain ⟨a, rfl, hab, c0, _⟩ := (hL.below hb (Nat.le_refl _)).2 k hlt
      have hlt' : (k : Int) < (L.length : Int) := by omega
      have hbad := Lib.hid (qr_bad (last := last) hlt)
      have hnext := Lib.hid (qr_next (last := last) hlt)
      obtain ⟨x, HX⟩ : ∃ x, Hid (L[k] = x) := ⟨_, Lib.hid rfl⟩
      rw [HX.out] at hbad hnext c0
      by_cases hle : x ≤ last
      · have hV : V = false := by rw [← HQ.out, hbad.out (by omega)]
        subst hV
        obtain rfl : R = false := by rw [HVR.out]; rfl
        go_wp2
        go_ret
        exact ⟨rfl, hb⟩
      · rcases Bool.eq_false_or_eq_true (decide (0 ≤ x ∧ x ≤ 3)) with hr | hr
        · have hr' := of_decide_eq_true hr
          have HN := Lib.hid ((hnext.out ⟨by omega, hr'.1, hr'.2⟩).symm.trans HQ.out)
          clear hbad hnext
          go_wp2_with (go_at_call 96; refine (replQ_any hr _).mono ?_; rintro e w1 ⟨rfl, rfl⟩)
          exact ⟨⟨k + 1, x, by omega, by go_num, rfl, HN, hb⟩, by simp [intOf]; omega⟩
        · have hr' := of_decide_eq_false hr
          have hV : V = false := by rw [← HQ.out, hbad.out (fun h => hr' h.2)]
          subst hV
          obtain rfl : R = false := by rw [HVR.out]; rfl
          go_wp2_with (go_at_call 96; refine (replQ_any hr _).mono ?_; rintro e w1 ⟨rfl, rfl⟩)
          go_ret
          exact ⟨rfl, hb⟩
    · obtain rfl : k = L.length := by omega
      have hV : V = true := by rw [← HQ.out, qr_end (Nat.le_refl _)]
      subst hV
      go_wp2
      go_ret
      exact ⟨retB (by rw [HVR.out, Bool.true_and]; simp; omega), hb⟩

set_option maxHeartbeats 4000000 in
theorem specQuorum_any (A : Option Addr) (L : List Int) (c : Nat) (w : World) (hL : Nms w w.heap.size A L) :
    Calls Try.prog 82 #[.slice A L.length c] w fun e w' => e = .returned (.bool (quorum L)) ∧ Below w.heap.size w w' := by
  have hn := hL.1
  unfold maxLen at hn
  obtain ⟨V, HV⟩ : ∃ V, Hid (qr (-1) L = V) := ⟨_, Lib.hid rfl⟩
  obtain ⟨R, HR⟩ : ∃ V, Hid (quorum L = V) := ⟨_, Lib.hid rfl⟩
  have HVR : Hid (R = (V && decide (3 ≤ L.length))) := Lib.hid (by rw [← HR.out, ← HV.out]; rfl)
  rw [HR.out]
  clear HR
  go_enter Try.func82, Try.ntmps82
  go_wp2
  go_loopw [3] (fun i wr => ∃ (k : Nat) (last : Int), k ≤ L.length ∧ i = .int .i64 k ∧ Hid (k = 0 → last = -1) ∧ Hid (∀ h : k - 1 < L.length, 0 < k → L[k - 1] = last) ∧ Hid (qr last (L.drop k) = V) ∧ Below w.heap.size w wr) (fun i _ => L.length - (intOf i).toNat)
  case atStart => exact ⟨0, -1, by omega, rfl, Lib.hid fun _ => rfl, Lib.hid fun _ h => absurd h (Nat.lt_irrefl 0), HV, Below.refl _ _⟩
  case round =>
    clear HV
    obtain ⟨k, last, hk, rfl, HA0, HA1, HQ, hb⟩ := hrel
    by_cases hlt : k < L.length
    · have hLw := hL.below hb (Nat.le_refl _)
      obtain ⟨a, rfl, hab, c0, _⟩ := hLw.2 k hlt
      have hlt' : (k : Int) < (L.length : Int) := by omega
      have hbad := Lib.hid (qr_bad (last := last) hlt)
      have hnext := Lib.hid (qr_next (last := last) hlt)
      obtain ⟨x, HX⟩ : ∃ x, Hid (L[k] = x) := ⟨_, Lib.hid rfl⟩
      have HL1 : Hid (∀ h : k + 1 - 1 < L.length, 0 < k + 1 → L[k + 1 - 1] = x) := Lib.hid fun h _ => by simpa using HX.out
      rw [HX.out] at hbad hnext c0
      rcases Bool.eq_false_or_eq_true (decide (0 ≤ x ∧ x ≤ 3)) with hr | hr
      · have hr' := of_decide_eq_true hr
        have WH := Lib.hid (fun W => whoQ_any hr W)
        rcases Nat.eq_zero_or_pos k with h0 | h0
        · subst h0
          have hl1 := HA0.out rfl
          have HN := Lib.hid ((hnext.out ⟨by omega, hr'.1, hr'.2⟩).symm.trans HQ.out)
          clear hbad hnext HA0 HA1
          have c1 : wr.cell? a = some (.int .i64 x) := by simpa [Addr.add] using c0
          go_wp2_with (fail)
          go_quiet ((go_at_call 87; (with_reducible exact Calls.quiet_of (WH.out _))))
          go_wp2
          exact ⟨⟨1, x, by omega, by go_num, Lib.hid (fun h => absurd h (by decide)), HL1, HN, below_drewN hb _⟩, by simp [intOf]; omega⟩
        · obtain ⟨j, hj⟩ : ∃ j, k = j + 1 := ⟨k - 1, by omega⟩
          have hjl : j < L.length := by omega
          obtain ⟨a', e', _, d0, _⟩ := hLw.2 j hjl
          injection e' with e'
          subst e'
          have hlast : L[j] = last := by have := HA1.out (by omega) h0; simp only [hj] at this; exact this
          rw [hlast] at d0
          have hjl' : (j : Int) < (L.length : Int) := by omega
          have hj0 : (0 : Int) ≤ (j : Int) := by omega
          have hk1 : IntKind.i64.wrap ((k : Int) - 1) = (j : Int) := by rw [IntWalk.i64_in _ (by omega)]; omega
          have h0' : (0 : Int) < (k : Int) := by omega
          have h0d : decide (0 < k) = true := by simp; exact h0
          clear hlast HA0 HA1 hj
          by_cases hle : last < x
          · have HN := Lib.hid ((hnext.out ⟨hle, hr'.1, hr'.2⟩).symm.trans HQ.out)
            have hd : decide (x ≤ last) = false := by simp; omega
            clear hbad hnext
            go_wp2_with (fail)
            go_quiet ((go_at_call 87; (with_reducible exact Calls.quiet_of (WH.out _))))
            go_wp2
            exact ⟨⟨k + 1, x, by omega, by go_num, Lib.hid (fun h => absurd h (by omega)), HL1, HN, below_drewN hb _⟩, by simp [intOf]; omega⟩
          · have hV : V = false := by rw [← HQ.out, hbad.out (fun h => hle h.1)]
            subst hV
            obtain rfl : R = false := by rw [HVR.out]; rfl
            have hd : decide (x ≤ last) = true := by simp; omega
            clear hbad hnext
            go_wp2_with (fail)
            go_quiet ((go_at_call 87; (with_reducible exact Calls.quiet_of (WH.out _))))
            go_wp2
            go_ret
            exact ⟨rfl, below_drewN hb _⟩
      · have hr' := of_decide_eq_false hr
        have WH := Lib.hid (fun W => whoQ_any hr W)
        have hV : V = false := by rw [← HQ.out, hbad.out (fun h => hr' h.2)]
        subst hV
        obtain rfl : R = false := by rw [HVR.out]; rfl
        clear hbad hnext HA0 HA1
        rcases Nat.eq_zero_or_pos k with h0 | h0
        · subst h0
          have c1 : wr.cell? a = some (.int .i64 x) := by simpa [Addr.add] using c0
          go_wp2_with (fail)
          go_quiet ((go_at_call 87; (with_reducible exact Calls.quiet_of (WH.out _))))
          go_wp2
          go_ret
          exact ⟨rfl, below_drewN hb _⟩
        · go_wp2_with (fail)
          go_quiet ((go_at_call 87; (with_reducible exact Calls.quiet_of (WH.out _))))
          go_wp2
          go_ret
          exact ⟨rfl, below_drewN hb _⟩
    · obtain rfl : k = L.length := by omega
      have hV : V = true := by rw [← HQ.out, qr_end (Nat.le_refl _)]
      subst hV
      go_wp2
      go_ret
      exact ⟨retB (by rw [HVR.out, Bool.true_and]; simp; omega), hb⟩
end Go.Proofs.Ytjnbhppnchmeoaa

namespace Go.Proofs.Ytjnbhppnchmeoaa
open Go.RowKit
set_option linter.unusedVariables false
set_option maxRecDepth 1000000

/-- The numbers of a slice, between block lo and block B. -/
def Ints (w : World) (lo B : Nat) (A : Option Addr) (L : List Int) : Prop :=
  L.length ≤ maxLen ∧ ∀ i (h : i < L.length), ∃ a, A = some a ∧ lo ≤ a.block ∧ a.block < B ∧ w.cell? (a.add i) = some (.int .i64 L[i]) ∧ -9223372036854775808 ≤ L[i] ∧ L[i] ≤ 9223372036854775807
theorem Ints.of_blk {w w' : World} {lo B : Nat} {A : Option Addr} {L : List Int} (h : Ints w lo B A L) (hb : ∀ k, lo ≤ k → k < B → w'.heap[k]? = w.heap[k]?) : Ints w' lo B A L :=
  ⟨h.1, fun i hi => by
    obtain ⟨a, e, h0, h1, h2, h3⟩ := h.2 i hi
    exact ⟨a, e, h0, h1, by rw [World.cell?_of_block (a := a.add _) (hb _ (by rw [add_blk]; exact h0) (by rw [add_blk]; exact h1))]; exact h2, h3⟩⟩
theorem Ints.mono {w : World} {lo lo' B B' : Nat} {A : Option Addr} {L : List Int} (h : Ints w lo B A L) (hl : lo' ≤ lo) (hb : B ≤ B') : Ints w lo' B' A L :=
  ⟨h.1, fun i hi => by
    obtain ⟨a, e, h0, h1, h2⟩ := h.2 i hi
    exact ⟨a, e, by omega, by omega, h2⟩⟩
theorem Ints.nms {w : World} {lo B : Nat} {A : Option Addr} {L : List Int} (h : Ints w lo B A L) : Nms w B A L :=
  ⟨h.1, fun i hi => by
    obtain ⟨a, e, h0, h1, h2⟩ := h.2 i hi
    exact ⟨a, e, h1, h2⟩⟩
theorem Nms.ints {w : World} {B : Nat} {A : Option Addr} {L : List Int} (h : Nms w B A L) : Ints w 0 B A L :=
  ⟨h.1, fun i hi => by
    obtain ⟨a, e, h1, h2⟩ := h.2 i hi
    exact ⟨a, e, Nat.zero_le _, h1, h2⟩⟩
theorem Rw.ints {w : World} {lo hi n c : Nat} {A : Option Addr} {L : List Int} (h : Rw w lo hi 2 1 (.slice A n c) L.length (L.map (Value.int .i64))) (hf : ∀ x ∈ L, -9223372036854775808 ≤ x ∧ x ≤ 9223372036854775807) : Ints w lo w.heap.size A L := by
  rcases h.1.2 with ⟨hv, hz⟩ | ⟨g, cap, cur, hv, hb, hg, hl, hm, hs, ht⟩
  · have : L = [] := List.eq_nil_of_length_eq_zero hz
    subst this
    exact ⟨by simp [maxLen], fun i h => absurd h (by simp)⟩
  · cases hv
    refine ⟨by omega, fun i hi => ?_⟩
    have hc := World.ownsRow.cells h.1 (g := g) rfl i (.int .i64 L[i]) (by simp [hi])
    have := hf _ (List.getElem_mem hi)
    exact ⟨⟨g, 0, none⟩, rfl, hb, (Array.getElem?_eq_some_iff.1 hg).1, hc, this.1, this.2⟩
theorem Ints.below {w w' : World} {lo B C : Nat} {A : Option Addr} {L : List Int} (h : Ints w lo B A L) (hb : Below C w w') (hC : B ≤ C) : Ints w' lo B A L := h.of_blk fun k _ hk => hb.block k (by omega)
theorem Ints.on {w w' : World} {lo : Nat} {A : Option Addr} {L : List Int} (h : Ints w lo w.heap.size A L) (hb : Below w.heap.size w w') : Ints w' lo w'.heap.size A L := (h.below hb (Nat.le_refl _)).mono (Nat.le_refl _) hb.size
theorem Ints.set {w : World} {lo B : Nat} {A : Option Addr} {L : List Int} (h : Ints w lo B A L) {q : Addr} (hq : q.block < lo) (u : Value) : Ints (w.setCell q u) lo B A L :=
  h.of_blk fun k hk _ => Below.heap_setCell w q u k (by omega)
structure Prf where
  view : Int
  seq : Int
  op : ByteArray
  who : List Int
  deriving Inhabited
def Prf.fits (t : Prf) : Prop := (-9223372036854775808 ≤ t.view ∧ t.view ≤ 9223372036854775807) ∧ (-9223372036854775808 ≤ t.seq ∧ t.seq ≤ 9223372036854775807) ∧ t.op.size ≤ maxLen
/-- Of no great size. -/
def Prf.small (t : Prf) : Prop := t.op.size ≤ 1048576 ∧ t.who.length ≤ 1048576
/-- The value, with the slice that it holds. -/
abbrev prfV (t : Prf) (x : Value) : Value := .agg #[.int .i64 t.view, .int .i64 t.seq, .string t.op, x]
/-- Values of a slice, between block lo and block B. -/
def Prs (w : World) (lo B : Nat) (A : Option Addr) (L : List Prf) : Prop :=
  L.length ≤ maxLen ∧ ∀ i (h : i < L.length), ∃ a, A = some a ∧ lo ≤ a.block ∧ a.block < B ∧ ∃ C c, w.cell? (a.add (i * 4)) = some (.int .i64 L[i].view) ∧ w.cell? (a.add (i * 4 + 1)) = some (.int .i64 L[i].seq) ∧ w.cell? (a.add (i * 4 + 2)) = some (.string L[i].op) ∧ w.cell? (a.add (i * 4 + 3)) = some (.slice C L[i].who.length c) ∧ Ints w lo B C L[i].who
theorem Prs.of_blk {w w' : World} {lo B : Nat} {A : Option Addr} {L : List Prf} (h : Prs w lo B A L) (hb : ∀ k, lo ≤ k → k < B → w'.heap[k]? = w.heap[k]?) : Prs w' lo B A L :=
  ⟨h.1, fun i hi => by
    obtain ⟨a, e, h0, h1, C, c, c0, c1, c2, c3, h3⟩ := h.2 i hi
    refine ⟨a, e, h0, h1, C, c, ?_, ?_, ?_, ?_, h3.of_blk hb⟩
    · rw [World.cell?_of_block (a := a.add _) (hb _ (by rw [add_blk]; exact h0) (by rw [add_blk]; exact h1))]; exact c0
    · rw [World.cell?_of_block (a := a.add _) (hb _ (by rw [add_blk]; exact h0) (by rw [add_blk]; exact h1))]; exact c1
    · rw [World.cell?_of_block (a := a.add _) (hb _ (by rw [add_blk]; exact h0) (by rw [add_blk]; exact h1))]; exact c2
    · rw [World.cell?_of_block (a := a.add _) (hb _ (by rw [add_blk]; exact h0) (by rw [add_blk]; exact h1))]; exact c3⟩
theorem Prs.mono {w : World} {lo lo' B B' : Nat} {A : Option Addr} {L : List Prf} (h : Prs w lo B A L) (hl : lo' ≤ lo) (hb : B ≤ B') : Prs w lo' B' A L :=
  ⟨h.1, fun i hi => by
    obtain ⟨a, e, h0, h1, C, c, c0, c1, c2, c3, h3⟩ := h.2 i hi
    exact ⟨a, e, by omega, by omega, C, c, c0, c1, c2, c3, h3.mono hl hb⟩⟩
theorem Prs.at {w : World} {lo B : Nat} {A : Option Addr} {L : List Prf} (h : Prs w lo B A L) (i : Nat) (hi : i < L.length) :
    ∃ a, A = some a ∧ a.block < B ∧ ∃ C c, w.cell? (a.add (i * 4)) = some (.int .i64 L[i].view) ∧ w.cell? ⟨(a.add (i * 4)).block, (a.add (i * 4)).off + 1, none⟩ = some (.int .i64 L[i].seq) ∧ w.cell? ⟨(a.add (i * 4)).block, (a.add (i * 4)).off + 2, none⟩ = some (.string L[i].op) ∧ w.cell? ⟨(a.add (i * 4)).block, (a.add (i * 4)).off + 3, none⟩ = some (.slice C L[i].who.length c) ∧ Ints w lo B C L[i].who := by
  obtain ⟨a, e, h0, h1, C, c, c0, c1, c2, c3, h3⟩ := h.2 i hi
  exact ⟨a, e, h1, C, c, c0, by rw [add_far]; exact c1, by rw [add_far]; exact c2, by rw [add_far]; exact c3, h3⟩
theorem Prs.below {w w' : World} {lo B C : Nat} {A : Option Addr} {L : List Prf} (h : Prs w lo B A L) (hb : Below C w w') (hC : B ≤ C) : Prs w' lo B A L := h.of_blk fun k _ hk => hb.block k (by omega)
theorem Prs.on {w w' : World} {lo : Nat} {A : Option Addr} {L : List Prf} (h : Prs w lo w.heap.size A L) (hb : Below w.heap.size w w') : Prs w' lo w'.heap.size A L := (h.below hb (Nat.le_refl _)).mono (Nat.le_refl _) hb.size
theorem Prs.set {w : World} {lo B : Nat} {A : Option Addr} {L : List Prf} (h : Prs w lo B A L) {q : Addr} (hq : q.block < lo) (u : Value) : Prs (w.setCell q u) lo B A L :=
  h.of_blk fun k hk _ => Below.heap_setCell w q u k (by omega)
/-- With the slice. -/
structure PrfA where
  t : Prf
  A : Option Addr
  c : Nat
  deriving Inhabited
def PrfA.cells (m : PrfA) : List Value := [.int .i64 m.t.view, .int .i64 m.t.seq, .string m.t.op, .slice m.A m.t.who.length m.c]
def pflat (L : List PrfA) : List Value := L.flatMap PrfA.cells
theorem pflat_cons (f : PrfA) (L : List PrfA) : pflat (f :: L) = .int .i64 f.t.view :: .int .i64 f.t.seq :: .string f.t.op :: .slice f.A f.t.who.length f.c :: pflat L := rfl
theorem pflat_append (L M : List PrfA) : pflat (L ++ M) = pflat L ++ pflat M := by simp [pflat]
theorem pflat_len (L : List PrfA) : (pflat L).length = L.length * 4 := by
  induction L with
  | nil => rfl
  | cons f L ih => rw [pflat_cons]; simp only [List.length_cons, ih]; omega
theorem pflat_get (L : List PrfA) : ∀ (i : Nat) (hi : i < L.length) (r : Nat), r < 4 → (pflat L)[i * 4 + r]? = L[i].cells[r]? := by
  induction L with
  | nil => intro i hi; simp at hi
  | cons f L ih =>
    intro i hi r hr
    rw [pflat_cons]
    cases i with
    | zero =>
      match r, hr with
      | 0, _ => rfl
      | 1, _ => rfl
      | 2, _ => rfl
      | 3, _ => rfl
    | succ i =>
      rw [show (i + 1) * 4 + r = (i * 4 + r) + 1 + 1 + 1 + 1 by omega]
      simp only [List.getElem?_cons_succ, List.getElem_cons_succ]
      exact ih i (by simpa using hi) r hr
theorem pflat_set (f : PrfA) : ∀ (L : List PrfA) (i : Nat), (((((pflat L).set (i * 4) (.int .i64 f.t.view)).set (i * 4 + 1) (.int .i64 f.t.seq)).set (i * 4 + 2) (.string f.t.op)).set (i * 4 + 3) (.slice f.A f.t.who.length f.c)) = pflat (L.set i f) := by
  intro L
  induction L with
  | nil => intro i; simp [pflat]
  | cons g L ih =>
    intro i
    cases i with
    | zero => rfl
    | succ i =>
      rw [pflat_cons, show (i + 1) * 4 = i * 4 + 1 + 1 + 1 + 1 by omega]
      simp only [List.set_cons_succ]
      rw [pflat_cons, ← ih i]
def zeroPrf : PrfA := ⟨⟨0, 0, ⟨#[]⟩, []⟩, none, 0⟩
theorem pflat_made (n : Nat) : (madeCells #[.int .i64 0, .int .i64 0, .string ⟨#[]⟩, .slice none 0 0] (n * 4)).toList = pflat (List.replicate n zeroPrf) := by
  apply List.ext_getElem?
  intro j
  by_cases hj : j < n * 4
  · have h := pflat_get (List.replicate n zeroPrf) (j / 4) (by simp; omega) (j % 4) (by omega)
    rw [show j / 4 * 4 + j % 4 = j by omega] at h
    rw [h]
    have : j % 4 = 0 ∨ j % 4 = 1 ∨ j % 4 = 2 ∨ j % 4 = 3 := by omega
    rcases this with e | e | e | e <;> simp [madeCells, hj, e, zeroPrf, PrfA.cells]
  · rw [List.getElem?_eq_none (l := pflat _) (by rw [pflat_len]; simp; omega)]
    simp [madeCells]
    omega
theorem infoPrf : (Try.prog.info? 49).map (fun i => (i.zero, i.size, i.bytes)) = some (some (.agg #[.int .i64 0, .int .i64 0, .string ⟨#[]⟩, .slice none 0 0]), 4, 56) := by kernel_rfl
/-- The cells of one of an owned row, as a store asks for them. -/
theorem row_p {w : World} {base g n c : Nat} {M : List PrfA} (h : w.ownsRow base 49 4 (.slice (some ⟨g, 0, none⟩) n c) n (pflat M)) {k : Nat} (hk : k < M.length) :
    w.cell? ⟨g, k * 4, none⟩ = some (.int .i64 M[k].t.view) ∧ w.cell? ⟨g, k * 4 + 1, none⟩ = some (.int .i64 M[k].t.seq) ∧ w.cell? ⟨g, k * 4 + 2, none⟩ = some (.string M[k].t.op) ∧ w.cell? ⟨g, k * 4 + 3, none⟩ = some (.slice M[k].A M[k].t.who.length M[k].c) ∧
      w.frozen? ⟨g, k * 4, none⟩ = false ∧ w.frozen? ⟨g, k * 4 + 1, none⟩ = false ∧ w.frozen? ⟨g, k * 4 + 2, none⟩ = false ∧ w.frozen? ⟨g, k * 4 + 3, none⟩ = false := by
  have hl := h.1
  rw [pflat_len] at hl
  refine ⟨?_, ?_, ?_, ?_, h.frozenAt _, h.frozenAt _, h.frozenAt _, h.frozenAt _⟩
  · rw [h.cellAt _ (by omega), show k * 4 = k * 4 + 0 from rfl, pflat_get M k hk 0 (by omega)]; rfl
  · rw [h.cellAt _ (by omega), pflat_get M k hk 1 (by omega)]; rfl
  · rw [h.cellAt _ (by omega), pflat_get M k hk 2 (by omega)]; rfl
  · rw [h.cellAt _ (by omega), pflat_get M k hk 3 (by omega)]; rfl
theorem row_pput {w : World} {base g n c : Nat} {M : List PrfA} (h : w.ownsRow base 49 4 (.slice (some ⟨g, 0, none⟩) n c) n (pflat M)) (k : Nat) (f : PrfA) :
    ((((w.setCell ⟨g, k * 4, none⟩ (.int .i64 f.t.view)).setCell ⟨g, k * 4 + 1, none⟩ (.int .i64 f.t.seq)).setCell ⟨g, k * 4 + 2, none⟩ (.string f.t.op)).setCell ⟨g, k * 4 + 3, none⟩ (.slice f.A f.t.who.length f.c)).ownsRow base 49 4 (.slice (some ⟨g, 0, none⟩) n c) n (pflat (M.set k f)) := by
  have h1 := (h.stored (k * 4) (.int .i64 f.t.view)).1
  have h2 := (h1.stored (k * 4 + 1) (.int .i64 f.t.seq)).1
  have h3 := (h2.stored (k * 4 + 2) (.string f.t.op)).1
  have h4 := (h3.stored (k * 4 + 3) (.slice f.A f.t.who.length f.c)).1
  rw [pflat_set] at h4
  exact h4
/-- What the values of a row hold lies between lo and B. -/
def PrfAs (w : World) (lo B : Nat) (M : List PrfA) : Prop := ∀ i (h : i < M.length), Ints w lo B M[i].A M[i].t.who
theorem PrfAs.on {w w' : World} {lo : Nat} {M : List PrfA} (h : PrfAs w lo w.heap.size M) (hb : Below w.heap.size w w') : PrfAs w' lo w'.heap.size M := fun i hi => (h i hi).on hb
theorem PrfAs.set {w : World} {lo B : Nat} {M : List PrfA} (h : PrfAs w lo B M) {q : Addr} (hq : q.block < lo) (u : Value) : PrfAs (w.setCell q u) lo B M := fun i hi => (h i hi).set hq u
theorem PrfAs.snoc {w : World} {lo B : Nat} {M : List PrfA} (h : PrfAs w lo B M) {m : PrfA} (hm : Ints w lo B m.A m.t.who) : PrfAs w lo B (M ++ [m]) := fun i hi => by
  by_cases e : i < M.length
  · rw [List.getElem_append_left e]; exact h i e
  · have : i = M.length := by simp at hi; omega
    subst this
    rw [List.getElem_append_right (Nat.le_refl _)]
    simpa using hm
theorem PrfAs.rd {w : World} {base lo B n c : Nat} {A : Option Addr} {M : List PrfA} (h : w.ownsRow base 49 4 (.slice A n c) n (pflat M)) (hM : M.length = n) (hs : PrfAs w lo B M) (h0 : base ≤ lo) (h1 : B ≤ w.heap.size) : Prs w base w.heap.size A (M.map (·.t)) := by
  rcases h.2 with ⟨hv, hz⟩ | ⟨g, cap, cur, hv, hb, hg, hl', hm, hs', ht⟩
  · have : M = [] := List.eq_nil_of_length_eq_zero (by omega)
    subst this
    exact ⟨by simp [maxLen], fun i h => absurd h (by simp)⟩
  · have hv' := hv
    injection hv with e1 e2 e3
    subst e1
    refine ⟨by simp; omega, fun i hi => ?_⟩
    have hi' : i < M.length := by simpa using hi
    have hc := World.ownsRow.cells h (g := g) (by rw [hv']; rfl)
    have k0 := hc (i * 4 + 0) _ (by rw [pflat_get M i hi' 0 (by omega)]; rfl)
    have k1 := hc (i * 4 + 1) _ (by rw [pflat_get M i hi' 1 (by omega)]; rfl)
    have k2 := hc (i * 4 + 2) _ (by rw [pflat_get M i hi' 2 (by omega)]; rfl)
    have k3 := hc (i * 4 + 3) _ (by rw [pflat_get M i hi' 3 (by omega)]; rfl)
    simp only [List.getElem_map]
    exact ⟨⟨g, 0, none⟩, rfl, hb, (Array.getElem?_eq_some_iff.1 hg).1, _, _, k0, k1, k2, k3, (hs i hi').mono h0 h1⟩
structure Cng where
  frm : Int
  view : Int
  proofs : List Prf
  deriving Inhabited
def Cng.fits (t : Cng) : Prop := (-9223372036854775808 ≤ t.frm ∧ t.frm ≤ 9223372036854775807) ∧ (-9223372036854775808 ≤ t.view ∧ t.view ≤ 9223372036854775807) ∧ ∀ x ∈ t.proofs, x.fits
/-- Of no great size. -/
def Cng.small (t : Cng) : Prop := t.proofs.length ≤ 1048576 ∧ ∀ i (h : i < t.proofs.length), t.proofs[i].small
/-- The value, with the slice that it holds. -/
abbrev cngV (t : Cng) (x : Value) : Value := .agg #[.int .i64 t.frm, .int .i64 t.view, x]
/-- Values of a slice, between block lo and block B. -/
def Chs (w : World) (lo B : Nat) (A : Option Addr) (L : List Cng) : Prop :=
  L.length ≤ maxLen ∧ ∀ i (h : i < L.length), ∃ a, A = some a ∧ lo ≤ a.block ∧ a.block < B ∧ ∃ C c, w.cell? (a.add (i * 3)) = some (.int .i64 L[i].frm) ∧ w.cell? (a.add (i * 3 + 1)) = some (.int .i64 L[i].view) ∧ w.cell? (a.add (i * 3 + 2)) = some (.slice C L[i].proofs.length c) ∧ Prs w lo B C L[i].proofs
theorem Chs.of_blk {w w' : World} {lo B : Nat} {A : Option Addr} {L : List Cng} (h : Chs w lo B A L) (hb : ∀ k, lo ≤ k → k < B → w'.heap[k]? = w.heap[k]?) : Chs w' lo B A L :=
  ⟨h.1, fun i hi => by
    obtain ⟨a, e, h0, h1, C, c, c0, c1, c2, h3⟩ := h.2 i hi
    refine ⟨a, e, h0, h1, C, c, ?_, ?_, ?_, h3.of_blk hb⟩
    · rw [World.cell?_of_block (a := a.add _) (hb _ (by rw [add_blk]; exact h0) (by rw [add_blk]; exact h1))]; exact c0
    · rw [World.cell?_of_block (a := a.add _) (hb _ (by rw [add_blk]; exact h0) (by rw [add_blk]; exact h1))]; exact c1
    · rw [World.cell?_of_block (a := a.add _) (hb _ (by rw [add_blk]; exact h0) (by rw [add_blk]; exact h1))]; exact c2⟩
theorem Chs.mono {w : World} {lo lo' B B' : Nat} {A : Option Addr} {L : List Cng} (h : Chs w lo B A L) (hl : lo' ≤ lo) (hb : B ≤ B') : Chs w lo' B' A L :=
  ⟨h.1, fun i hi => by
    obtain ⟨a, e, h0, h1, C, c, c0, c1, c2, h3⟩ := h.2 i hi
    exact ⟨a, e, by omega, by omega, C, c, c0, c1, c2, h3.mono hl hb⟩⟩
theorem Chs.at {w : World} {lo B : Nat} {A : Option Addr} {L : List Cng} (h : Chs w lo B A L) (i : Nat) (hi : i < L.length) :
    ∃ a, A = some a ∧ a.block < B ∧ ∃ C c, w.cell? (a.add (i * 3)) = some (.int .i64 L[i].frm) ∧ w.cell? ⟨(a.add (i * 3)).block, (a.add (i * 3)).off + 1, none⟩ = some (.int .i64 L[i].view) ∧ w.cell? ⟨(a.add (i * 3)).block, (a.add (i * 3)).off + 2, none⟩ = some (.slice C L[i].proofs.length c) ∧ Prs w lo B C L[i].proofs := by
  obtain ⟨a, e, h0, h1, C, c, c0, c1, c2, h3⟩ := h.2 i hi
  exact ⟨a, e, h1, C, c, c0, by rw [add_far]; exact c1, by rw [add_far]; exact c2, h3⟩
theorem Chs.below {w w' : World} {lo B C : Nat} {A : Option Addr} {L : List Cng} (h : Chs w lo B A L) (hb : Below C w w') (hC : B ≤ C) : Chs w' lo B A L := h.of_blk fun k _ hk => hb.block k (by omega)
theorem Chs.on {w w' : World} {lo : Nat} {A : Option Addr} {L : List Cng} (h : Chs w lo w.heap.size A L) (hb : Below w.heap.size w w') : Chs w' lo w'.heap.size A L := (h.below hb (Nat.le_refl _)).mono (Nat.le_refl _) hb.size
theorem Chs.set {w : World} {lo B : Nat} {A : Option Addr} {L : List Cng} (h : Chs w lo B A L) {q : Addr} (hq : q.block < lo) (u : Value) : Chs (w.setCell q u) lo B A L :=
  h.of_blk fun k hk _ => Below.heap_setCell w q u k (by omega)
/-- With the slice. -/
structure CngA where
  t : Cng
  A : Option Addr
  c : Nat
  deriving Inhabited
def CngA.cells (m : CngA) : List Value := [.int .i64 m.t.frm, .int .i64 m.t.view, .slice m.A m.t.proofs.length m.c]
def cflat (L : List CngA) : List Value := L.flatMap CngA.cells
theorem cflat_cons (f : CngA) (L : List CngA) : cflat (f :: L) = .int .i64 f.t.frm :: .int .i64 f.t.view :: .slice f.A f.t.proofs.length f.c :: cflat L := rfl
theorem cflat_append (L M : List CngA) : cflat (L ++ M) = cflat L ++ cflat M := by simp [cflat]
theorem cflat_len (L : List CngA) : (cflat L).length = L.length * 3 := by
  induction L with
  | nil => rfl
  | cons f L ih => rw [cflat_cons]; simp only [List.length_cons, ih]; omega
theorem cflat_get (L : List CngA) : ∀ (i : Nat) (hi : i < L.length) (r : Nat), r < 3 → (cflat L)[i * 3 + r]? = L[i].cells[r]? := by
  induction L with
  | nil => intro i hi; simp at hi
  | cons f L ih =>
    intro i hi r hr
    rw [cflat_cons]
    cases i with
    | zero =>
      match r, hr with
      | 0, _ => rfl
      | 1, _ => rfl
      | 2, _ => rfl
    | succ i =>
      rw [show (i + 1) * 3 + r = (i * 3 + r) + 1 + 1 + 1 by omega]
      simp only [List.getElem?_cons_succ, List.getElem_cons_succ]
      exact ih i (by simpa using hi) r hr
theorem cflat_set (f : CngA) : ∀ (L : List CngA) (i : Nat), ((((cflat L).set (i * 3) (.int .i64 f.t.frm)).set (i * 3 + 1) (.int .i64 f.t.view)).set (i * 3 + 2) (.slice f.A f.t.proofs.length f.c)) = cflat (L.set i f) := by
  intro L
  induction L with
  | nil => intro i; simp [cflat]
  | cons g L ih =>
    intro i
    cases i with
    | zero => rfl
    | succ i =>
      rw [cflat_cons, show (i + 1) * 3 = i * 3 + 1 + 1 + 1 by omega]
      simp only [List.set_cons_succ]
      rw [cflat_cons, ← ih i]
def zeroCng : CngA := ⟨⟨0, 0, []⟩, none, 0⟩
theorem cflat_made (n : Nat) : (madeCells #[.int .i64 0, .int .i64 0, .slice none 0 0] (n * 3)).toList = cflat (List.replicate n zeroCng) := by
  apply List.ext_getElem?
  intro j
  by_cases hj : j < n * 3
  · have h := cflat_get (List.replicate n zeroCng) (j / 3) (by simp; omega) (j % 3) (by omega)
    rw [show j / 3 * 3 + j % 3 = j by omega] at h
    rw [h]
    have : j % 3 = 0 ∨ j % 3 = 1 ∨ j % 3 = 2 := by omega
    rcases this with e | e | e <;> simp [madeCells, hj, e, zeroCng, CngA.cells]
  · rw [List.getElem?_eq_none (l := cflat _) (by rw [cflat_len]; simp; omega)]
    simp [madeCells]
    omega
theorem infoCng : (Try.prog.info? 60).map (fun i => (i.zero, i.size, i.bytes)) = some (some (.agg #[.int .i64 0, .int .i64 0, .slice none 0 0]), 3, 40) := by kernel_rfl
/-- The cells of one of an owned row, as a store asks for them. -/
theorem row_c {w : World} {base g n c : Nat} {M : List CngA} (h : w.ownsRow base 60 3 (.slice (some ⟨g, 0, none⟩) n c) n (cflat M)) {k : Nat} (hk : k < M.length) :
    w.cell? ⟨g, k * 3, none⟩ = some (.int .i64 M[k].t.frm) ∧ w.cell? ⟨g, k * 3 + 1, none⟩ = some (.int .i64 M[k].t.view) ∧ w.cell? ⟨g, k * 3 + 2, none⟩ = some (.slice M[k].A M[k].t.proofs.length M[k].c) ∧
      w.frozen? ⟨g, k * 3, none⟩ = false ∧ w.frozen? ⟨g, k * 3 + 1, none⟩ = false ∧ w.frozen? ⟨g, k * 3 + 2, none⟩ = false := by
  have hl := h.1
  rw [cflat_len] at hl
  refine ⟨?_, ?_, ?_, h.frozenAt _, h.frozenAt _, h.frozenAt _⟩
  · rw [h.cellAt _ (by omega), show k * 3 = k * 3 + 0 from rfl, cflat_get M k hk 0 (by omega)]; rfl
  · rw [h.cellAt _ (by omega), cflat_get M k hk 1 (by omega)]; rfl
  · rw [h.cellAt _ (by omega), cflat_get M k hk 2 (by omega)]; rfl
theorem row_cput {w : World} {base g n c : Nat} {M : List CngA} (h : w.ownsRow base 60 3 (.slice (some ⟨g, 0, none⟩) n c) n (cflat M)) (k : Nat) (f : CngA) :
    (((w.setCell ⟨g, k * 3, none⟩ (.int .i64 f.t.frm)).setCell ⟨g, k * 3 + 1, none⟩ (.int .i64 f.t.view)).setCell ⟨g, k * 3 + 2, none⟩ (.slice f.A f.t.proofs.length f.c)).ownsRow base 60 3 (.slice (some ⟨g, 0, none⟩) n c) n (cflat (M.set k f)) := by
  have h1 := (h.stored (k * 3) (.int .i64 f.t.frm)).1
  have h2 := (h1.stored (k * 3 + 1) (.int .i64 f.t.view)).1
  have h3 := (h2.stored (k * 3 + 2) (.slice f.A f.t.proofs.length f.c)).1
  rw [cflat_set] at h3
  exact h3
/-- What the values of a row hold lies between lo and B. -/
def CngAs (w : World) (lo B : Nat) (M : List CngA) : Prop := ∀ i (h : i < M.length), Prs w lo B M[i].A M[i].t.proofs
theorem CngAs.on {w w' : World} {lo : Nat} {M : List CngA} (h : CngAs w lo w.heap.size M) (hb : Below w.heap.size w w') : CngAs w' lo w'.heap.size M := fun i hi => (h i hi).on hb
theorem CngAs.set {w : World} {lo B : Nat} {M : List CngA} (h : CngAs w lo B M) {q : Addr} (hq : q.block < lo) (u : Value) : CngAs (w.setCell q u) lo B M := fun i hi => (h i hi).set hq u
theorem CngAs.snoc {w : World} {lo B : Nat} {M : List CngA} (h : CngAs w lo B M) {m : CngA} (hm : Prs w lo B m.A m.t.proofs) : CngAs w lo B (M ++ [m]) := fun i hi => by
  by_cases e : i < M.length
  · rw [List.getElem_append_left e]; exact h i e
  · have : i = M.length := by simp at hi; omega
    subst this
    rw [List.getElem_append_right (Nat.le_refl _)]
    simpa using hm
theorem CngAs.rd {w : World} {base lo B n c : Nat} {A : Option Addr} {M : List CngA} (h : w.ownsRow base 60 3 (.slice A n c) n (cflat M)) (hM : M.length = n) (hs : CngAs w lo B M) (h0 : base ≤ lo) (h1 : B ≤ w.heap.size) : Chs w base w.heap.size A (M.map (·.t)) := by
  rcases h.2 with ⟨hv, hz⟩ | ⟨g, cap, cur, hv, hb, hg, hl', hm, hs', ht⟩
  · have : M = [] := List.eq_nil_of_length_eq_zero (by omega)
    subst this
    exact ⟨by simp [maxLen], fun i h => absurd h (by simp)⟩
  · have hv' := hv
    injection hv with e1 e2 e3
    subst e1
    refine ⟨by simp; omega, fun i hi => ?_⟩
    have hi' : i < M.length := by simpa using hi
    have hc := World.ownsRow.cells h (g := g) (by rw [hv']; rfl)
    have k0 := hc (i * 3 + 0) _ (by rw [cflat_get M i hi' 0 (by omega)]; rfl)
    have k1 := hc (i * 3 + 1) _ (by rw [cflat_get M i hi' 1 (by omega)]; rfl)
    have k2 := hc (i * 3 + 2) _ (by rw [cflat_get M i hi' 2 (by omega)]; rfl)
    simp only [List.getElem_map]
    exact ⟨⟨g, 0, none⟩, rfl, hb, (Array.getElem?_eq_some_iff.1 hg).1, _, _, k0, k1, k2, (hs i hi').mono h0 h1⟩
structure Sy where
  kind : Int
  frm : Int
  view : Int
  seq : Int
  op : ByteArray
  changes : List Cng
  deriving Inhabited
def Sy.fits (t : Sy) : Prop := (-9223372036854775808 ≤ t.kind ∧ t.kind ≤ 9223372036854775807) ∧ (-9223372036854775808 ≤ t.frm ∧ t.frm ≤ 9223372036854775807) ∧ (-9223372036854775808 ≤ t.view ∧ t.view ≤ 9223372036854775807) ∧ (-9223372036854775808 ≤ t.seq ∧ t.seq ≤ 9223372036854775807) ∧ t.op.size ≤ maxLen ∧ ∀ x ∈ t.changes, x.fits
/-- Of no great size. -/
def Sy.small (t : Sy) : Prop := t.op.size ≤ 1048576 ∧ t.changes.length ≤ 1048576 ∧ ∀ i (h : i < t.changes.length), t.changes[i].small
/-- The value, with the slice that it holds. -/
abbrev syV (t : Sy) (x : Value) : Value := .agg #[.int .i64 t.kind, .int .i64 t.frm, .int .i64 t.view, .int .i64 t.seq, .string t.op, x]
theorem sput_mid {α : Type} (M : List α) (z m : α) {n k : Nat} (hM : M.length = k) (hk : k < n) : (M ++ List.replicate (n - k) z).set k m = (M ++ [m]) ++ List.replicate (n - (k + 1)) z := by
  subst hM
  rw [show n - M.length = (n - (M.length + 1)) + 1 by omega, List.replicate_succ, List.set_append_right _ _ (Nat.le_refl _), Nat.sub_self, List.set_cons_zero, List.append_assoc]
  rfl
theorem below_bx (w : World) (o : Obj) : Below w.heap.size w (w.alloc o) := (Below.refl _ _).alloc (Nat.le_refl _) _
end Go.Proofs.Ytjnbhppnchmeoaa

namespace Go.Proofs.Ytjnbhppnchmeoaa
open Go.RowKit
set_option linter.unusedVariables false

/-- ProofRight. -/
def prfB (p : Prf) : Bool := decide (0 ≤ p.view ∧ p.view ≤ 7) && (decide (1 ≤ p.seq ∧ p.seq ≤ 6) && (decide (p.op.size ≤ 120) && quorum p.who))
theorem prfB_seq {p : Prf} (h : prfB p = true) : 0 < p.seq := by
  unfold prfB at h
  simp only [Bool.and_eq_true, decide_eq_true_eq] at h
  omega
/-- Are the proofs right, below a view, their numbers rising from above last? -/
def pr (v last : Int) : List Prf → Bool
  | [] => true
  | p :: t => decide (prfB p = true ∧ p.view < v ∧ last < p.seq) && pr v p.seq t
theorem pr_end {v last : Int} {L : List Prf} {k : Nat} (h : L.length ≤ k) : pr v last (L.drop k) = true := by rw [List.drop_eq_nil_of_le h]; rfl
theorem pr_bad {v last : Int} {L : List Prf} {k : Nat} (h : k < L.length) (hb : ¬ (prfB L[k] = true ∧ L[k].view < v ∧ last < L[k].seq)) : pr v last (L.drop k) = false := by
  rw [List.drop_eq_getElem_cons h]; unfold pr; rw [decide_eq_false hb]; rfl
theorem pr_next {v last : Int} {L : List Prf} {k : Nat} (h : k < L.length) (hb : prfB L[k] = true ∧ L[k].view < v ∧ last < L[k].seq) : pr v last (L.drop k) = pr v L[k].seq (L.drop (k + 1)) := by
  rw [List.drop_eq_getElem_cons h]; conv => lhs; unfold pr
  rw [decide_eq_true hb, Bool.true_and]
/-- The proofs of a change. -/
def chP (c : Cng) : Bool := pr c.view 0 c.proofs
/-- What a change has beside its proofs. -/
def balB (c : Cng) : Bool := decide (0 ≤ c.frm ∧ c.frm ≤ 3) && decide (1 ≤ c.view ∧ c.view ≤ 7)
/-- ChangeRight. -/
def cngB (c : Cng) : Bool := balB c && chP c
theorem balB_frm {c : Cng} (h : balB c = true) : 0 ≤ c.frm ∧ c.frm ≤ 3 := by
  unfold balB at h
  simp only [Bool.and_eq_true, decide_eq_true_eq] at h
  exact h.1
/-- Are the proofs of all changes right? -/
def allP : List Cng → Bool
  | [] => true
  | c :: t => chP c && allP t
theorem allP_end {L : List Cng} {k : Nat} (h : L.length ≤ k) : allP (L.drop k) = true := by rw [List.drop_eq_nil_of_le h]; rfl
theorem allP_at {L : List Cng} {k : Nat} (h : k < L.length) : allP (L.drop k) = (chP L[k] && allP (L.drop (k + 1))) := by
  rw [List.drop_eq_getElem_cons h]; rfl
/-- Are the changes of a view, rising from above last, right but for their proofs? -/
def br (v last : Int) : List Cng → Bool
  | [] => true
  | c :: t => decide (balB c = true ∧ c.view = v ∧ last < c.frm) && br v c.frm t
theorem br_end {v last : Int} {L : List Cng} {k : Nat} (h : L.length ≤ k) : br v last (L.drop k) = true := by rw [List.drop_eq_nil_of_le h]; rfl
theorem br_bad {v last : Int} {L : List Cng} {k : Nat} (h : k < L.length) (hb : ¬ (balB L[k] = true ∧ L[k].view = v ∧ last < L[k].frm)) : br v last (L.drop k) = false := by
  rw [List.drop_eq_getElem_cons h]; unfold br; rw [decide_eq_false hb]; rfl
theorem br_next {v last : Int} {L : List Cng} {k : Nat} (h : k < L.length) (hb : balB L[k] = true ∧ L[k].view = v ∧ last < L[k].frm) : br v last (L.drop k) = br v L[k].frm (L.drop (k + 1)) := by
  rw [List.drop_eq_getElem_cons h]; conv => lhs; unfold br
  rw [decide_eq_true hb, Bool.true_and]
/-- Are the changes of a view, rising from above last, right? -/
def cr (v last : Int) : List Cng → Bool
  | [] => true
  | c :: t => decide (cngB c = true ∧ c.view = v ∧ last < c.frm) && cr v c.frm t
theorem cr_end {v last : Int} {L : List Cng} {k : Nat} (h : L.length ≤ k) : cr v last (L.drop k) = true := by rw [List.drop_eq_nil_of_le h]; rfl
theorem cr_bad {v last : Int} {L : List Cng} {k : Nat} (h : k < L.length) (hb : ¬ (cngB L[k] = true ∧ L[k].view = v ∧ last < L[k].frm)) : cr v last (L.drop k) = false := by
  rw [List.drop_eq_getElem_cons h]; unfold cr; rw [decide_eq_false hb]; rfl
theorem cr_next {v last : Int} {L : List Cng} {k : Nat} (h : k < L.length) (hb : cngB L[k] = true ∧ L[k].view = v ∧ last < L[k].frm) : cr v last (L.drop k) = cr v L[k].frm (L.drop (k + 1)) := by
  rw [List.drop_eq_getElem_cons h]; conv => lhs; unfold cr
  rw [decide_eq_true hb, Bool.true_and]
theorem cr_br (v : Int) : ∀ (L : List Cng) (last : Int), cr v last L = (br v last L && allP L)
  | [], _ => rfl
  | c :: t, last => by
    unfold cr br allP
    rw [cr_br v t c.frm]
    unfold cngB
    cases balB c <;> cases chP c <;> by_cases h1 : c.view = v <;> by_cases h2 : last < c.frm <;> simp [h1, h2]
theorem br_len (v : Int) : ∀ (L : List Cng) (last : Int), br v last L = true → L = [] ∨ last + L.length ≤ 3
  | [], _, _ => .inl rfl
  | c :: t, last, h => by
    unfold br at h
    rw [Bool.and_eq_true, decide_eq_true_eq] at h
    obtain ⟨⟨h1, h2, h3⟩, h4⟩ := h
    have := balB_frm h1
    rcases br_len v t c.frm h4 with e | e
    · subst e; right; simp; omega
    · right; simp only [List.length_cons]; omega
def oneB (frm view : Int) : List Cng → Bool
  | [c] => cngB c && (decide (c.frm = frm) && decide (c.view = view))
  | _ => false
theorem oneB_len {frm view : Int} {L : List Cng} (h : ¬ L.length = 1) : oneB frm view L = false := by
  match L, h with
  | [], _ => rfl
  | [c], h => exact absurd rfl h
  | _ :: _ :: _, _ => rfl
theorem len_one {L : List Cng} (h : L.length = 1) : ∃ c, L = [c] := by
  match L, h with
  | [c], _ => exact ⟨c, rfl⟩
/-- A message about one number. -/
def numB (y : Sy) : Bool := decide (1 ≤ y.seq ∧ y.seq ≤ 6) && (decide (y.op.size ≤ 120) && (decide (y.changes.length = 0) && decide (y.kind ≠ 1 ∨ y.frm = leadI y.view)))
/-- A change. -/
def chgB (y : Sy) : Bool := decide (1 ≤ y.view) && (decide (y.seq = 0) && (decide (y.op.size = 0) && oneB y.frm y.view y.changes))
/-- A new view. -/
def newB (y : Sy) : Bool := decide (1 ≤ y.view) && (decide (y.frm = leadI y.view) && (decide (y.seq = 0) && (decide (y.op.size = 0) && (cr y.view (-1) y.changes && decide (3 ≤ y.changes.length)))))
def restB (y : Sy) : Bool := if y.kind = 1 ∨ y.kind = 2 ∨ y.kind = 3 then numB y else if y.kind = 4 then chgB y else if y.kind = 5 then newB y else false
/-- SayRight. -/
def sayB (y : Sy) : Bool := decide (0 ≤ y.frm ∧ y.frm ≤ 3) && (decide (0 ≤ y.view ∧ y.view ≤ 7) && restB y)
theorem rest_num {y : Sy} (h : y.kind = 1 ∨ y.kind = 2 ∨ y.kind = 3) : restB y = numB y := if_pos h
theorem rest_chg {y : Sy} (h : y.kind = 4) : restB y = chgB y := by unfold restB; rw [if_neg (by omega), if_pos h]
theorem rest_new {y : Sy} (h : y.kind = 5) : restB y = newB y := by unfold restB; rw [if_neg (by omega), if_neg (by omega), if_pos h]
theorem rest_no {y : Sy} (h1 : ¬ y.kind = 1) (h2 : ¬ y.kind = 2) (h3 : ¬ y.kind = 3) (h4 : ¬ y.kind = 4) (h5 : ¬ y.kind = 5) : restB y = false := by unfold restB; rw [if_neg (by omega), if_neg h4, if_neg h5]
/-- What impl asks of a change of a right replica, the one of its own. -/
theorem chg_impl {y : Sy} {c : Cng} (hc : y.changes = [c]) (hf : c.frm = y.frm) : (decide (0 ≤ y.view ∧ y.view ≤ 7) && chgB y) = (decide (1 ≤ y.view ∧ y.view ≤ 7) && (decide (y.seq = 0) && (decide (y.op.size = 0) && cr y.view (-1) y.changes))) := by
  unfold chgB
  rw [hc]
  unfold oneB cr cr
  rw [Bool.and_true]
  by_cases hb : cngB c = true
  · have h0 : -1 < c.frm := by
      have := balB_frm (c := c) (by unfold cngB at hb; rw [Bool.and_eq_true] at hb; exact hb.1)
      omega
    simp only [hb, hf, Bool.true_and, decide_true, true_and]
    rw [← hf]
    simp only [h0, and_true]
    by_cases h1 : 1 ≤ y.view
    · have : 0 ≤ y.view := by omega
      simp [h1, this]
    · simp [h1]
  · simp [hb]
theorem new_impl {y : Sy} (hl : y.frm = leadI y.view) : (decide (0 ≤ y.view ∧ y.view ≤ 7) && newB y) = (decide (3 ≤ (y.changes.length : Int) ∧ (y.changes.length : Int) ≤ 4) && (decide (1 ≤ y.view ∧ y.view ≤ 7) && (decide (y.seq = 0) && (decide (y.op.size = 0) && cr y.view (-1) y.changes)))) := by
  unfold newB
  simp only [hl, decide_true, Bool.true_and]
  by_cases hc : cr y.view (-1) y.changes = true
  · have h4 : y.changes.length ≤ 4 := by
      have h := cr_br y.view y.changes (-1)
      rw [hc] at h
      have h' := h.symm
      rw [Bool.and_eq_true] at h'
      rcases br_len _ _ _ h'.1 with e | e
      · rw [e]; simp
      · omega
    have h4' : (y.changes.length : Int) ≤ 4 := by omega
    have h3' : decide (3 ≤ (y.changes.length : Int)) = decide (3 ≤ y.changes.length) := by simp; omega
    simp only [hc, h4', Bool.true_and, and_true, h3', Bool.and_true]
    by_cases h1 : 1 ≤ y.view
    · have : 0 ≤ y.view := by omega
      simp only [h1, this, true_and, decide_true, Bool.true_and]
      cases decide (y.view ≤ 7) <;> cases decide (y.seq = 0) <;> cases decide (y.op.size = 0) <;> simp
    · simp [h1]
  · simp [hc]
end Go.Proofs.Ytjnbhppnchmeoaa

namespace Go.Proofs.Ytjnbhppnchmeoaa
open Go.RowKit
set_option linter.unusedVariables false
set_option maxRecDepth 1000000

theorem is_any {n a b : Int} {r : Bool} (h : decide (a ≤ n ∧ n ≤ b) = r) (w : World) : Calls Try.prog 69 #[.int .i64 n, .int .i64 a, .int .i64 b] w fun e w' => e = .returned (.bool r) ∧ w = w' :=
  (l03Is_any n a b w).mono fun e w' h' => ⟨by rw [h'.1, ← Bool.decide_and, h], h'.2.symm⟩
theorem view_any {n : Int} {r : Bool} (h : decide (0 ≤ n ∧ n ≤ 7) = r) (w : World) : Calls Try.prog 80 #[.int .i64 n] w fun e w' => e = .returned (.bool r) ∧ w = w' := by
  go_enter Try.func80, Try.ntmps80
  go_wp2_with (go_at_call 69; refine (is_any h _).mono ?_; rintro e w1 ⟨rfl, rfl⟩)
  go_ret
  exact ⟨rfl, rfl⟩
theorem seq_any {n : Int} {r : Bool} (h : decide (1 ≤ n ∧ n ≤ 6) = r) (w : World) : Calls Try.prog 81 #[.int .i64 n] w fun e w' => e = .returned (.bool r) ∧ w = w' := by
  go_enter Try.func81, Try.ntmps81
  go_wp2_with (go_at_call 69; refine (is_any h _).mono ?_; rintro e w1 ⟨rfl, rfl⟩)
  go_ret
  exact ⟨rfl, rfl⟩
theorem specOp_any {s : ByteArray} {r : Bool} (hs : s.size ≤ maxLen) (h : decide (s.size ≤ 120) = r) (w : World) : Calls Try.prog 30 #[.string s] w fun e w' => e = .returned (.bool r) ∧ w = w' := by
  unfold maxLen at hs
  have e9 : decide ((s.size : Int) ≤ 120) = r := by rw [← h]; simp; omega
  go_enter Try.func30, Try.ntmps30
  go_wp2
  go_ret
  exact ⟨rfl, rfl⟩
theorem implOp_any {s : ByteArray} {r : Bool} (hs : s.size ≤ maxLen) (h : decide (s.size ≤ 120) = r) (w : World) : Calls Try.prog 31 #[.string s] w fun e w' => e = .returned (.bool r) ∧ w = w' := by
  unfold maxLen at hs
  have e9 : decide ((s.size : Int) ≤ 120) = r := by rw [← h]; simp; omega
  go_enter Try.func31, Try.ntmps31
  go_wp2
  go_ret
  exact ⟨rfl, rfl⟩
set_option maxHeartbeats 2000000 in
theorem specProofRight_any (t : Prf) (A : Option Addr) (c : Nat) (w : World) {lo : Nat} (hf : t.fits) (hA : Ints w lo w.heap.size A t.who) :
    Calls Try.prog 33 #[prfV t (.slice A t.who.length c)] w fun e w' => e = .returned (.bool (prfB t)) ∧ Below w.heap.size w w' := by
  obtain ⟨view, seq, op, L⟩ := t
  obtain ⟨f0, f1, f2⟩ := hf
  simp only at f0 f1 f2 hA ⊢
  have HR : Hid (prfB ⟨view, seq, op, L⟩ = (decide (0 ≤ view ∧ view ≤ 7) && (decide (1 ≤ seq ∧ seq ≤ 6) && (decide (op.size ≤ 120) && quorum L)))) := Lib.hid rfl
  generalize prfB ⟨view, seq, op, L⟩ = Z at HR ⊢
  have hb0 := below_bx w (.cells #[.int .i64 view, .int .i64 seq, .string op, .slice A L.length c] 49)
  have hK := Blk.fresh w 49 [.int .i64 view, .int .i64 seq, .string op, .slice A L.length c]
  simp only [List.toArray] at hK
  have QR := Lib.hid (fun W (h : Below w.heap.size w W) => specQuorum_any A L c W (hA.on h).nms)
  rcases Bool.eq_false_or_eq_true (decide (0 ≤ view ∧ view ≤ 7)) with h1 | h1
  rotate_left
  · have I1 := Lib.hid (fun W => view_any h1 W)
    rw [h1] at HR
    obtain rfl : Z = false := by rw [HR.out]; rfl
    clear HR
    go_enter Try.func33, Try.ntmps33
    go_wp2_with (first | (go_at_call 80; (with_reducible refine (I1.out _).mono ?_); rintro e w1 ⟨rfl, rfl⟩))
    go_ret
    exact ⟨rfl, hb0⟩
  have I1 := Lib.hid (fun W => view_any h1 W)
  rcases Bool.eq_false_or_eq_true (decide (1 ≤ seq ∧ seq ≤ 6)) with h2 | h2
  rotate_left
  · have I2 := Lib.hid (fun W => seq_any h2 W)
    rw [h1, h2] at HR
    obtain rfl : Z = false := by rw [HR.out]; rfl
    clear HR
    go_enter Try.func33, Try.ntmps33
    go_wp2_with (first | (go_at_call 80; (with_reducible refine (I1.out _).mono ?_); rintro e w1 ⟨rfl, rfl⟩) | (go_at_call 81; (with_reducible refine (I2.out _).mono ?_); rintro e w1 ⟨rfl, rfl⟩))
    go_ret
    exact ⟨rfl, hb0⟩
  have I2 := Lib.hid (fun W => seq_any h2 W)
  rcases Bool.eq_false_or_eq_true (decide (op.size ≤ 120)) with h3 | h3
  rotate_left
  · have I3 := Lib.hid (fun W => specOp_any f2 h3 W)
    rw [h1, h2, h3] at HR
    obtain rfl : Z = false := by rw [HR.out]; rfl
    clear HR
    go_enter Try.func33, Try.ntmps33
    go_wp2_with (first | (go_at_call 80; (with_reducible refine (I1.out _).mono ?_); rintro e w1 ⟨rfl, rfl⟩) | (go_at_call 81; (with_reducible refine (I2.out _).mono ?_); rintro e w1 ⟨rfl, rfl⟩) | (go_at_call 30; (with_reducible refine (I3.out _).mono ?_); rintro e w1 ⟨rfl, rfl⟩))
    go_ret
    exact ⟨rfl, hb0⟩
  have I3 := Lib.hid (fun W => specOp_any f2 h3 W)
  rw [h1, h2, h3] at HR
  have HR2 : Hid (Z = quorum L) := Lib.hid (by rw [HR.out]; rfl)
  clear HR
  generalize quorum L = q at HR2 QR
  obtain rfl := HR2.out
  go_enter Try.func33, Try.ntmps33
  go_wp2_with (first | (go_at_call 80; (with_reducible refine (I1.out _).mono ?_); rintro e w1 ⟨rfl, rfl⟩) | (go_at_call 81; (with_reducible refine (I2.out _).mono ?_); rintro e w1 ⟨rfl, rfl⟩) | (go_at_call 30; (with_reducible refine (I3.out _).mono ?_); rintro e w1 ⟨rfl, rfl⟩) | (go_at_call 82; (with_reducible refine (QR.out _ hb0).mono ?_); rintro e w1 ⟨rfl, hb1⟩))
  go_ret
  exact ⟨rfl, hb0.trans (hb1.mono hb0.size)⟩
set_option maxHeartbeats 2000000 in
theorem implProofRight_any (t : Prf) (A : Option Addr) (c : Nat) (w : World) {lo : Nat} (hf : t.fits) (hA : Ints w lo w.heap.size A t.who) :
    Calls Try.prog 35 #[prfV t (.slice A t.who.length c)] w fun e w' => e = .returned (.bool (prfB t)) ∧ Below w.heap.size w w' := by
  obtain ⟨view, seq, op, L⟩ := t
  obtain ⟨f0, f1, f2⟩ := hf
  simp only at f0 f1 f2 hA ⊢
  have HR : Hid (prfB ⟨view, seq, op, L⟩ = (decide (0 ≤ view ∧ view ≤ 7) && (decide (1 ≤ seq ∧ seq ≤ 6) && (decide (op.size ≤ 120) && quorum L)))) := Lib.hid rfl
  generalize prfB ⟨view, seq, op, L⟩ = Z at HR ⊢
  have hb0 := below_bx w (.cells #[.int .i64 view, .int .i64 seq, .string op, .slice A L.length c] 49)
  have hK := Blk.fresh w 49 [.int .i64 view, .int .i64 seq, .string op, .slice A L.length c]
  simp only [List.toArray] at hK
  have QR := Lib.hid (fun W (h : Below w.heap.size w W) => implQuorum_any A L c W (hA.on h).nms)
  rcases Bool.eq_false_or_eq_true (decide (0 ≤ view ∧ view ≤ 7)) with h1 | h1
  rotate_left
  · have I1 := Lib.hid (fun W => inQ_any h1 W)
    rw [h1] at HR
    obtain rfl : Z = false := by rw [HR.out]; rfl
    clear HR
    go_enter Try.func35, Try.ntmps35
    go_wp2_with (first | (go_at_call 64; (with_reducible refine (I1.out _).mono ?_); rintro e w1 ⟨rfl, rfl⟩))
    go_ret
    exact ⟨rfl, hb0⟩
  have I1 := Lib.hid (fun W => inQ_any h1 W)
  rcases Bool.eq_false_or_eq_true (decide (1 ≤ seq ∧ seq ≤ 6)) with h2 | h2
  rotate_left
  · have I2 := Lib.hid (fun W => inQ_any h2 W)
    rw [h1, h2] at HR
    obtain rfl : Z = false := by rw [HR.out]; rfl
    clear HR
    go_enter Try.func35, Try.ntmps35
    go_wp2_with (first | (go_at_call 64; (with_reducible refine (I1.out _).mono ?_); rintro e w1 ⟨rfl, rfl⟩) | (go_at_call 64; (with_reducible refine (I2.out _).mono ?_); rintro e w1 ⟨rfl, rfl⟩))
    go_ret
    exact ⟨rfl, hb0⟩
  have I2 := Lib.hid (fun W => inQ_any h2 W)
  rcases Bool.eq_false_or_eq_true (decide (op.size ≤ 120)) with h3 | h3
  rotate_left
  · have I3 := Lib.hid (fun W => implOp_any f2 h3 W)
    rw [h1, h2, h3] at HR
    obtain rfl : Z = false := by rw [HR.out]; rfl
    clear HR
    go_enter Try.func35, Try.ntmps35
    go_wp2_with (first | (go_at_call 64; (with_reducible refine (I1.out _).mono ?_); rintro e w1 ⟨rfl, rfl⟩) | (go_at_call 64; (with_reducible refine (I2.out _).mono ?_); rintro e w1 ⟨rfl, rfl⟩) | (go_at_call 31; (with_reducible refine (I3.out _).mono ?_); rintro e w1 ⟨rfl, rfl⟩))
    go_ret
    exact ⟨rfl, hb0⟩
  have I3 := Lib.hid (fun W => implOp_any f2 h3 W)
  rw [h1, h2, h3] at HR
  have HR2 : Hid (Z = quorum L) := Lib.hid (by rw [HR.out]; rfl)
  clear HR
  generalize quorum L = q at HR2 QR
  obtain rfl := HR2.out
  go_enter Try.func35, Try.ntmps35
  go_wp2_with (first | (go_at_call 64; (with_reducible refine (I1.out _).mono ?_); rintro e w1 ⟨rfl, rfl⟩) | (go_at_call 64; (with_reducible refine (I2.out _).mono ?_); rintro e w1 ⟨rfl, rfl⟩) | (go_at_call 31; (with_reducible refine (I3.out _).mono ?_); rintro e w1 ⟨rfl, rfl⟩) | (go_at_call 84; (with_reducible refine (QR.out _ hb0).mono ?_); rintro e w1 ⟨rfl, hb1⟩))
  go_ret
  exact ⟨rfl, hb0.trans (hb1.mono hb0.size)⟩
theorem bothProofRight (t : Prf) (hf : t.fits) (hs : t.small) : ∃ r : Bool,
    (∀ A c W, Ints W 0 W.heap.size A t.who → Calls Try.prog 33 #[prfV t (.slice A t.who.length c)] W fun e w' => e = .returned (.bool r) ∧ Below W.heap.size W w') ∧
    (∀ A c W, Ints W 0 W.heap.size A t.who → Calls Try.prog 35 #[prfV t (.slice A t.who.length c)] W fun e w' => e = .returned (.bool r) ∧ Below W.heap.size W w') :=
  ⟨prfB t, fun A c W h => specProofRight_any t A c W hf h, fun A c W h => implProofRight_any t A c W hf h⟩
theorem lawOpRight (s : ByteArray) (hs : s.size ≤ maxLen) (w : World) : Calls Try.prog 5 #[.string s] w fun e w' => e = .returned (.bool true) ∧ Below w.heap.size w w' := by
  obtain ⟨r, Hr⟩ : ∃ r, Hid (decide (s.size ≤ 120) = r) := ⟨_, Lib.hid rfl⟩
  have h8 := hs
  unfold maxLen at h8
  have SO := Lib.hid (fun W => specOp_any hs Hr.out W)
  have IO := Lib.hid (fun W => implOp_any hs Hr.out W)
  by_cases hb : 1048576 < s.size
  · go_enter Try.func5, Try.ntmps5
    go_wp2
    go_ret
    exact ⟨rfl, Below.refl _ _⟩
  · go_enter Try.func5, Try.ntmps5
    go_wp2_with (first
      | (go_at_call 30; (with_reducible refine (SO.out _).mono ?_); rintro e w1 ⟨rfl, rfl⟩)
      | (go_at_call 31; (with_reducible refine (IO.out _).mono ?_); rintro e w1 ⟨rfl, rfl⟩))
    go_ret
    exact ⟨rfl, Below.refl _ _⟩
end Go.Proofs.Ytjnbhppnchmeoaa
