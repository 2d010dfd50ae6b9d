/- Contracts: spec.FsRight and impl.FsRight both answer fsOK of their files. When a log is valid, as impl asks it and as spec asks it. -/
import Derived.Test.YtebkblmejkkhfaaDoorFilOwnW
import Derived.Laws.Cover1
import Derived.BigQuiet
import Derived.Deep.RegionHeld3
import Derived.RegionTactic
import Derived.Test.YtebkblmejkkhfaaDoorRdW
import Derived.Test.YtebkblmejkkhfaaDoorBlkW
namespace Go.Proofs.YtebkblmejkkhfaaDoor
open Go.RowKit
set_option linter.unusedVariables false

def lessB (a b : ByteArray) : Bool := Op.bytesLess a.toList b.toList
/-- A file that is right by itself. -/
noncomputable def okF (f : Fil) : Bool := nameB f.name && (decide (f.data.size ≤ 3000) && (decide (0 ≤ f.sync) && decide (f.sync ≤ f.data.size)))
/-- A file that is right in its place. -/
def okIn (L : List Fil) (i : Nat) (h : i < L.length) : Prop := okF L[i] = true ∧ (0 < i → lessB (L[i - 1]'(by omega)).name L[i].name = true)
open Classical in
/-- FsRight. -/
noncomputable def fsOK (L : List Fil) : Bool := decide (L.length ≤ 12 ∧ ∀ i (h : i < L.length), okIn L i h)
theorem fsOK_true {L : List Fil} (h1 : L.length ≤ 12) (h2 : ∀ i (h : i < L.length), okIn L i h) : fsOK L = true := by simp [fsOK]; exact ⟨h1, h2⟩
theorem fsOK_at {L : List Fil} {i : Nat} (hi : i < L.length) (h : ¬ okIn L i hi) : fsOK L = false := by
  simp [fsOK]; exact fun _ => ⟨i, hi, h⟩
theorem fsOK_big {L : List Fil} (h : ¬ L.length ≤ 12) : fsOK L = false := by simp [fsOK]; omega
theorem fsOK_iff {L : List Fil} : fsOK L = true ↔ L.length ≤ 12 ∧ ∀ i (h : i < L.length), okIn L i h := by simp [fsOK]

theorem okIn_less {L : List Fil} {q k : Nat} (hq : q + 1 = k) (hlt : k < L.length) (hql : q < L.length) (hl : Op.bytesLess L[q].name.toList L[k].name.toList = true) : 0 < k → lessB (L[k - 1]'(by omega)).name L[k].name = true := by
  intro _
  obtain rfl : q = k - 1 := by omega
  exact hl
theorem not_okIn_less {L : List Fil} {q k : Nat} (hq : q + 1 = k) (hlt : k < L.length) (hql : q < L.length) (hl : Op.bytesLess L[q].name.toList L[k].name.toList = false) : ¬ okIn L k hlt := by
  intro h
  have h2 := h.2 (by omega)
  obtain rfl : q = k - 1 := by omega
  unfold lessB at h2
  rw [hl] at h2
  cases h2

theorem l03Is_any (n a b : Int) (w : World) : Calls Tryd.prog 21 #[.int .i64 n, .int .i64 a, .int .i64 b] w fun e w' => e = .returned (.bool (decide (a ≤ n) && decide (n ≤ b))) ∧ w' = w := by
  by_cases h : a ≤ n
  · go_enter Tryd.func21, Tryd.ntmps21
    go_wp2
    go_ret
    simp [h]
  · go_enter Tryd.func21, Tryd.ntmps21
    go_wp2
    go_ret
    have h' : n < a := by omega
    simp
    intro h2
    omega

set_option maxHeartbeats 4000000 in
set_option maxRecDepth 1000000 in
theorem specRight_any (A : Option Addr) (L : List Fil) (c : Nat) (w : World) (hL : Fls w w.heap.size A L) :
    Calls Tryd.prog 33 #[.agg #[.slice A L.length c]] w fun e w' => e = .returned (.bool (fsOK L)) ∧ Below w.heap.size w w' := by
  have hn := hL.1
  unfold maxLen at hn
  have hB0 := Blk.fresh w 33 [.slice A L.length c]
  go_enter Tryd.func33, Tryd.ntmps33
  go_wp2
  go_loopw [3, 4] (fun i _ wr => ∃ k : Nat, k ≤ L.length ∧ i = .int .i64 k ∧ (∀ j (h : j < L.length), j < k → okIn L j h) ∧ Blk wr w.heap.size 33 [.slice A L.length c] ∧ Below w.heap.size w wr) (fun i _ _ => L.length - (intOf i).toNat)
  case atStart => exact ⟨0, by omega, rfl, fun j _ h => by omega, hB0, (Below.refl _ _).alloc (Nat.le_refl _) _⟩
  case round =>
    obtain ⟨k, hk, rfl, hok, hB, hb⟩ := hrel
    have b0 := hB.cell (i := 0) rfl
    by_cases hlt : k < L.length
    · obtain ⟨a, rfl, hab, c0, c1, c2, hff⟩ := (hL.below hb (Nat.le_refl _)).at k hlt
      have n1 : L[k].name.size ≤ maxLen := hff.1
      have n2 := hff.2.1
      have n3 := hff.2.2
      unfold maxLen at n2
      have hW := Blk.fresh wr 56 [.string L[k].name, .string L[k].data, .int .i64 L[k].sync]
      have hB3 := hB.alloc (.cells #[.string L[k].name, .string L[k].data, .int .i64 L[k].sync] 56)
      have hb3 := hb.alloc hb.size (.cells #[.string L[k].name, .string L[k].data, .int .i64 L[k].sync] 56)
      have hp : ∀ q, (h : q + 1 = k) → (wr.alloc (.cells #[.string L[k].name, .string L[k].data, .int .i64 L[k].sync] 56)).cell? (a.add (q * 3)) = some (.string (L[q]'(by omega)).name) := by
        intro q h
        obtain ⟨a', e, _, h2, _⟩ := (hL.below hb3 (Nat.le_refl _)).at q (by omega)
        cases e
        exact h2
      go_wp2
      generalize wr.alloc (.cells #[.string L[k].name, .string L[k].data, .int .i64 L[k].sync] 56) = w3 at hW hB3 hb3 hp ⊢
      have x0 := hW.cell (i := 0) rfl
      have x1 := hW.cell (i := 1) rfl
      have x2 := hW.cell (i := 2) rfl
      have y0 := hB3.cell (i := 0) rfl
      clear c0 c1 c2 b0
      have hnot : ∀ e : okF L[k] = false, fsOK L = false := fun e => fsOK_at hlt (fun h => by rw [h.1] at e; cases e)
      rcases Bool.eq_false_or_eq_true (nameB L[k].name) with hN | hN
      · have NR : ∀ W, Calls Tryd.prog 49 #[.string L[k].name] W fun e w' => e = .returned (.bool true) ∧ W = w' := fun W => by have := specNameRight_any L[k].name W n1; rw [hN] at this; exact this
        by_cases hk0 : 0 < k
        · obtain ⟨q, hq⟩ : ∃ q, q + 1 = k := ⟨k - 1, by omega⟩
          have p0 := hp q hq
          have hd : decide ((0 : Int) < (k : Int)) = true := by simp; omega
          have e1 : IntKind.i64.wrap ((k : Int) - 1) = (q : Int) := by rw [IntWalk.i64_in _ (by omega)]; omega
          have e2 : (q : Int) < (L.length : Int) := by omega
          have hql : q < L.length := by omega
          rcases Bool.eq_false_or_eq_true (Op.bytesLess L[q].name.toList L[k].name.toList) with hl | hl
          · clear hp
            by_cases hz : 3000 < L[k].data.size
            · have z1 : decide ((3000 : Int) < (L[k].data.size : Int)) = true := by simp; omega
              have R := Lib.hid (hnot (by simp [okF]; omega))
              go_quiet (first | (go_at_call 49; exact quiet_eq (NR _)) | (go_at_call 21; exact Calls.quiet_of_same (IS _)))
              go_wp2
              go_ret
              exact ⟨by rw [R.out]; rfl, below_drewN hb3 _⟩
            · have z1 : decide ((3000 : Int) < (L[k].data.size : Int)) = false := by simp; omega
              rcases Bool.eq_false_or_eq_true (decide ((0 : Int) ≤ L[k].sync) && decide (L[k].sync ≤ (L[k].data.size : Int))) with hI | hI
              · have IS : ∀ W, Calls Tryd.prog 21 #[.int .i64 L[k].sync, .int .i64 0, .int .i64 L[k].data.size] W fun e w' => e = .returned (.bool true) ∧ w' = W := fun W => by have := l03Is_any L[k].sync 0 L[k].data.size W; rw [hI] at this; exact this
                go_quiet (first | (go_at_call 49; exact quiet_eq (NR _)) | (go_at_call 21; exact Calls.quiet_of_same (IS _)))
                go_wp2
                refine ⟨⟨k + 1, by omega, by go_num, fun j hj hjk => ?_, hB3.drewN _, below_drewN hb3 _⟩, by simp [intOf]; omega⟩
                by_cases e : j = k
                · subst e
                  exact ⟨by simp only [Bool.and_eq_true, decide_eq_true_eq] at hI; simp [okF, hN, hI.1, hI.2]; omega, okIn_less hq hlt hql hl⟩
                · exact hok j hj (by omega)
              · have IS : ∀ W, Calls Tryd.prog 21 #[.int .i64 L[k].sync, .int .i64 0, .int .i64 L[k].data.size] W fun e w' => e = .returned (.bool false) ∧ w' = W := fun W => by have := l03Is_any L[k].sync 0 L[k].data.size W; rw [hI] at this; exact this
                have R := Lib.hid (hnot (by simp [okF, hI]))
                go_quiet (first | (go_at_call 49; exact quiet_eq (NR _)) | (go_at_call 21; exact Calls.quiet_of_same (IS _)))
                go_wp2
                go_ret
                exact ⟨by rw [R.out]; rfl, below_drewN hb3 _⟩
          · clear hp
            have R := Lib.hid (fsOK_at hlt (not_okIn_less hq hlt hql hl))
            go_quiet (first | (go_at_call 49; exact quiet_eq (NR _)) | (go_at_call 21; exact Calls.quiet_of_same (IS _)))
            go_wp2
            go_ret
            exact ⟨by rw [R.out]; rfl, below_drewN hb3 _⟩
        · have hd : decide ((0 : Int) < (k : Int)) = false := by simp; omega
          by_cases hz : 3000 < L[k].data.size
          · have z1 : decide ((3000 : Int) < (L[k].data.size : Int)) = true := by simp; omega
            have R := Lib.hid (hnot (by simp [okF]; omega))
            go_quiet (first | (go_at_call 49; exact quiet_eq (NR _)) | (go_at_call 21; exact Calls.quiet_of_same (IS _)))
            go_wp2
            go_ret
            exact ⟨by rw [R.out]; rfl, below_drewN hb3 _⟩
          · have z1 : decide ((3000 : Int) < (L[k].data.size : Int)) = false := by simp; omega
            rcases Bool.eq_false_or_eq_true (decide ((0 : Int) ≤ L[k].sync) && decide (L[k].sync ≤ (L[k].data.size : Int))) with hI | hI
            · have IS : ∀ W, Calls Tryd.prog 21 #[.int .i64 L[k].sync, .int .i64 0, .int .i64 L[k].data.size] W fun e w' => e = .returned (.bool true) ∧ w' = W := fun W => by have := l03Is_any L[k].sync 0 L[k].data.size W; rw [hI] at this; exact this
              go_quiet (first | (go_at_call 49; exact quiet_eq (NR _)) | (go_at_call 21; exact Calls.quiet_of_same (IS _)))
              go_wp2
              refine ⟨⟨k + 1, by omega, by go_num, fun j hj hjk => ?_, hB3.drewN _, below_drewN hb3 _⟩, by simp [intOf]; omega⟩
              by_cases e : j = k
              · subst e
                exact ⟨by simp only [Bool.and_eq_true, decide_eq_true_eq] at hI; simp [okF, hN, hI.1, hI.2]; omega, fun h => absurd h hk0⟩
              · exact hok j hj (by omega)
            · have IS : ∀ W, Calls Tryd.prog 21 #[.int .i64 L[k].sync, .int .i64 0, .int .i64 L[k].data.size] W fun e w' => e = .returned (.bool false) ∧ w' = W := fun W => by have := l03Is_any L[k].sync 0 L[k].data.size W; rw [hI] at this; exact this
              have R := Lib.hid (hnot (by simp [okF, hI]))
              go_quiet (first | (go_at_call 49; exact quiet_eq (NR _)) | (go_at_call 21; exact Calls.quiet_of_same (IS _)))
              go_wp2
              go_ret
              exact ⟨by rw [R.out]; rfl, below_drewN hb3 _⟩
      · have NR : ∀ W, Calls Tryd.prog 49 #[.string L[k].name] W fun e w' => e = .returned (.bool false) ∧ W = w' := fun W => by have := specNameRight_any L[k].name W n1; rw [hN] at this; exact this
        have R := Lib.hid (hnot (by simp [okF, hN]))
        go_quiet (first | (go_at_call 49; exact quiet_eq (NR _)) | (go_at_call 21; exact Calls.quiet_of_same (IS _)))
        go_wp2
        go_ret
        exact ⟨by rw [R.out]; rfl, below_drewN hb3 _⟩
    · obtain rfl : k = L.length := by omega
      by_cases h12 : L.length ≤ 12
      · have R := Lib.hid (fsOK_true h12 fun i h => hok i h h)
        go_wp2
        go_ret
        exact ⟨by rw [R.out]; simp; omega, hb⟩
      · have R := Lib.hid (fsOK_big h12)
        go_wp2
        go_ret
        exact ⟨by rw [R.out]; simp; omega, hb⟩
end Go.Proofs.YtebkblmejkkhfaaDoor

namespace Go.Proofs.YtebkblmejkkhfaaDoor
open Go.RowKit
set_option linter.unusedVariables false

theorem str_beq_t {a b : ByteArray} (h : a = b) : (a.toList == b.toList) = true := by rw [h]; simp
theorem str_beq_f {a b : ByteArray} (h : ¬ a = b) : (a.toList == b.toList) = false := by
  rw [beq_eq_false_iff_ne]; intro e; rw [Lib.toList_data, Lib.toList_data] at e; exact h (ByteArray.ext (Array.toList_inj.1 e))
theorem str_bne_f {a b : ByteArray} (h : a = b) : (a.toList != b.toList) = false := by rw [bne, str_beq_t h]; rfl
theorem str_bne_t {a b : ByteArray} (h : ¬ a = b) : (a.toList != b.toList) = true := by rw [bne, str_beq_f h]; rfl
/-- The strings of a file's frames, and where they end. -/
noncomputable def tx (x : Fil) : List ByteArray := (frs x.data 0).map Prod.fst
noncomputable def en (x : Fil) : Nat := endOf (frs x.data 0)
noncomputable def allT (L : List Fil) : List ByteArray := L.flatMap tx
def numOK (f m : Int) : Bool := decide (0 ≤ f ∧ f ≤ 900000 ∧ f % 4 = 0 ∧ 0 ≤ m ∧ m ≤ 60 ∧ f + m ≤ 900000)
theorem numOK_iff {f m : Int} : numOK f m = true ↔ 0 ≤ f ∧ f ≤ 900000 ∧ f % 4 = 0 ∧ 0 ≤ m ∧ m ≤ 60 ∧ f + m ≤ 900000 := by simp [numOK]
/-- A file is the segment that it has to be. -/
def goodI (L : List Fil) (f m : Int) (i : Nat) (h : i < L.length) : Prop := L[i].name = segN (f + (i : Int) * 4) ∧ en L[i] = L[i].data.size ∧ ((tx L[i]).length : Int) = min 4 (m - (i : Int) * 4)
def goodS (L : List Fil) (f : Int) (i : Nat) (h : i < L.length) : Prop := L[i].name = segN (f + (i : Int) * 4) ∧ en L[i] = L[i].data.size ∧ (tx L[i]).length ≤ 4 ∧ (i + 1 < L.length → (tx L[i]).length = 4) ∧ (i + 1 = L.length → (tx L[i]).length ≠ 4)
open Classical in
/-- A log is valid. -/
noncomputable def logB (L : List Fil) (f m : Int) : Bool := decide (fsOK L = true ∧ numOK f m = true ∧ (L.length : Int) = m / 4 + 1 ∧ ∀ i (h : i < L.length), goodI L f m i h)
theorem logB_iff {L : List Fil} {f m : Int} : logB L f m = true ↔ fsOK L = true ∧ numOK f m = true ∧ (L.length : Int) = m / 4 + 1 ∧ ∀ i (h : i < L.length), goodI L f m i h := by simp [logB]
theorem allT_nil : allT [] = [] := rfl
theorem allT_take (L : List Fil) (k : Nat) (h : k < L.length) : allT (L.take (k + 1)) = allT (L.take k) ++ tx L[k] := by
  unfold allT
  rw [List.take_succ_eq_append_getElem h, List.flatMap_append, List.flatMap_cons, List.flatMap_nil, List.append_nil]
theorem allT_four (L : List Fil) : ∀ k, k ≤ L.length → (∀ i (h : i < L.length), i < k → (tx L[i]).length = 4) → (allT (L.take k)).length = 4 * k
  | 0, _, _ => rfl
  | k + 1, hk, h => by
    rw [allT_take L k (by omega), List.length_append, allT_four L k (by omega) (fun i hi hlt => h i hi (by omega)), h k (by omega) (by omega)]
    omega
theorem allT_len (L : List Fil) (h0 : 0 < L.length) (h : ∀ i (h : i < L.length), i + 1 < L.length → (tx L[i]).length = 4) : (allT L).length = 4 * (L.length - 1) + (tx (L[L.length - 1]'(by omega))).length := by
  have e := allT_take L (L.length - 1) (by omega)
  rw [List.take_of_length_le (by omega)] at e
  rw [e, List.length_append, allT_four L (L.length - 1) (by omega) (fun i hi hlt => h i hi (by omega))]
theorem log_spec {L : List Fil} {f m : Int} (h0 : 0 ≤ m) : ((∀ i (h : i < L.length), goodS L f i h) ∧ 0 < L.length ∧ ((allT L).length : Int) = m) ↔ ((L.length : Int) = m / 4 + 1 ∧ ∀ i (h : i < L.length), goodI L f m i h) := by
  constructor
  · rintro ⟨hs, hn, ht⟩
    have hl := allT_len L hn (fun i hi hlt => (hs i hi).2.2.2.1 hlt)
    obtain ⟨_, _, h4, _, h5⟩ := hs (L.length - 1) (by omega)
    have h5' := h5 (by omega)
    refine ⟨by omega, fun i hi => ?_⟩
    obtain ⟨a, b, c, d, e⟩ := hs i hi
    refine ⟨a, b, ?_⟩
    by_cases hlt : i + 1 < L.length
    · rw [d hlt]; omega
    · have : i = L.length - 1 := by omega
      subst this
      omega
  · rintro ⟨hn, hg⟩
    have key : ∀ i (hi : i < L.length), goodS L f i hi := fun i hi => by
      obtain ⟨a, b, c⟩ := hg i hi
      exact ⟨a, b, by omega, fun h => by omega, fun h => by omega⟩
    refine ⟨key, by omega, ?_⟩
    have hl := allT_len L (by omega) (fun i hi hlt => (key i hi).2.2.2.1 hlt)
    obtain ⟨_, _, c⟩ := hg (L.length - 1) (by omega)
    omega
theorem logB_not {L : List Fil} {f m : Int} {i : Nat} (hi : i < L.length) (h : ¬ goodI L f m i hi) : logB L f m = false := by
  cases e : logB L f m with
  | false => rfl
  | true => exact absurd ((logB_iff.1 e).2.2.2 i hi) h
theorem logB_spec {L : List Fil} {f m : Int} (h1 : fsOK L = true) (h2 : numOK f m = true) : logB L f m = true ↔ ((∀ i (h : i < L.length), goodS L f i h) ∧ 0 < L.length ∧ ((allT L).length : Int) = m) := by
  rw [logB_iff, log_spec (numOK_iff.1 h2).2.2.2.1]
  simp [h1, h2]
end Go.Proofs.YtebkblmejkkhfaaDoor
