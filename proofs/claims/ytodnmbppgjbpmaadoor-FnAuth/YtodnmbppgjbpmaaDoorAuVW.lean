/- Slices of strings as arguments of the exact laws. The codes of a text with some keys. The contract of tooLong. Vector of the program. -/
import Derived.Test.YtodnmbppgjbpmaaDoorStrW
import Derived.SliceStrings
import Derived.Test.YtodnmbppgjbpmaaDoorAdrW
import Derived.Test.YtodnmbppgjbpmaaDoorBlkW
namespace Go.Proofs.YtodnmbppgjbpmaaDoor
open Go.RowKit Go.ChangeShapes Go.WideShapes
set_option linter.unusedVariables false

theorem cellsStr1 : Tryd.prog.cellsOf 9 = 1 := by kernel_rfl
set_option maxRecDepth 1000000 in
theorem strs_arg {H : Type} {enc : TypeId × Value → H} {W : World} {r : Reach} {b0 : Nat} {v : Value} {d : DataW H} {p : List MemPlace} (hval : Value.okWide Tryd.prog W r b0 28 v) (h : DataW.Trod enc Tryd.prog W 0 (fun _ => true) true 28 v d p) :
    ∃ A L c, v = .slice A L.length c ∧ Strs W W.heap.size A L ∧ ∀ s ∈ L, s.size ≤ maxLen := by
  obtain ⟨A, n, c, rfl⟩ := okWide_slice Tryd.underlying28 hval
  obtain ⟨m, hm⟩ := h
  have hm' : DataW.trod enc Tryd.prog W 0 (fun _ => true) true m 28 [.slice A n c] = some (d, p) := hm
  rcases open_strings Tryd.underlying28 Tryd.underlying9 cellsStr1 hm' with ⟨h1, _⟩ | ⟨a, len, cap, zs, h1, _, hl, hc, hz, _, hcell, hwf⟩
  · injection h1 with h1 _
    cases h1
    exact ⟨none, [], 0, rfl, ⟨by simp [maxLen], fun i h => absurd h (by simp)⟩, fun s h => absurd h (by simp)⟩
  · injection h1 with h1 _
    cases h1
    have hzl : zs.length = c := by simpa using hz
    have htl : (zs.take n).length = n := by simp; omega
    refine ⟨some a, zs.take n, c, by rw [htl], ⟨by rw [htl]; omega, fun i hi => ?_⟩, fun s hs => hwf s (List.mem_of_mem_take hs)⟩
    have hi' : i < zs.length := by rw [htl] at hi; omega
    have hc1 := hcell i hi'
    have hg : zs.getD i ByteArray.empty = (zs.take n)[i] := by rw [List.getElem_take]; simp [List.getD, hi']
    rw [hg] at hc1
    exact ⟨a, rfl, by have := World.block_lt_of_cell? W _ hc1; rw [add_blk] at this; exact this, hc1⟩
theorem Rw.strs {w : World} {lo hi n c : Nat} {A : Option Addr} {L : List ByteArray} (h : Rw w lo hi 9 1 (.slice A n c) L.length (L.map Value.string)) : Strs w w.heap.size A L := (OwnS.strs (base := lo) (c := c) (n := n) h.1).2

theorem markS_rw (A : Option Addr) (L : List ByteArray) (c lo hi k : Nat) (w : World) (h : Rw w lo hi 9 1 (.slice A L.length c) L.length (L.map Value.string)) (h0 : 1 ≤ k) (h1 : k + L.length ≤ 4000000) :
    Calls Tryd.prog 25 #[.slice A L.length c, .int .i64 k] w fun e w' => e = .returned (.int .i64 ((k + L.length : Nat) : Int)) ∧
      Rw w' lo hi 9 1 (.slice A L.length c) (markN L.length k).length ((markN L.length k).map Value.string) ∧ w.grownBy w' (A.map (·.block)) :=
  (markStringS_any A L c lo k w h.1 h0 h1).mono fun e w' ⟨he, h2, h3⟩ => ⟨he, ⟨h2, h.2⟩, h3⟩

set_option maxHeartbeats 1000000 in
theorem szStringS_any (A : Option Addr) (L : List ByteArray) (c : Nat) (w : World) (hL : Strs w w.heap.size A L) (hf : ∀ s ∈ L, s.size ≤ maxLen) :
    Calls Tryd.prog 27 #[.slice A L.length c, .int .i64 1048576] w fun e w' => ∃ r : Int, e = .returned (.int .i64 r) ∧ -1 ≤ r ∧ r ≤ 1048576 ∧ (0 ≤ r → L.length ≤ 1048576 ∧ ∀ i (h : i < L.length), L[i].size ≤ 1048576) ∧ Below w.heap.size w w' := by
  have hn := hL.1
  unfold maxLen at hn hf
  by_cases hbig : (1048576 : Int) - L.length < 0
  · go_enter Tryd.func27, Tryd.ntmps27
    go_wp2
    go_ret
    exact ⟨-1, rfl, by omega, by omega, fun h => by omega, Below.refl _ _⟩
  · have hn2 : L.length ≤ 1048576 := by omega
    go_enter Tryd.func27, Tryd.ntmps27
    go_wp2
    go_loopw [1, 5] (fun l i wr => ∃ (k : Nat) (left : Int), k ≤ L.length ∧ i = .int .i64 k ∧ l = .int .i64 left ∧ 0 ≤ left ∧ left ≤ 1048576 ∧ (∀ j (h : j < L.length), j < k → L[j].size ≤ 1048576) ∧ Below w.heap.size w wr) (fun _ i _ => L.length - (intOf i).toNat)
    case atStart => exact ⟨0, _, by omega, rfl, rfl, by omega, by omega, fun j _ h => by omega, Below.refl _ _⟩
    case round =>
      obtain ⟨k, left, hk, rfl, rfl, l0, l1, hS, hb⟩ := hrel
      by_cases hlt : k < L.length
      · obtain ⟨a, rfl, hab, c0⟩ := (hL.below hb (Nat.le_refl _)).2 k hlt
        have hsz := hf _ (List.getElem_mem hlt)
        have hlt' : (k : Int) < (L.length : Int) := by omega
        by_cases h0 : 0 ≤ left - L[k].size
        · go_wp2
          refine ⟨⟨k + 1, _, by omega, by go_num, rfl, h0, by omega, fun j hj hjk => ?_, hb⟩, by simp [intOf]; omega⟩
          by_cases e : j = k
          · subst e; omega
          · exact hS j hj (by omega)
        · go_wp2
          go_ret
          exact ⟨-1, rfl, by omega, by omega, fun h => by omega, hb⟩
      · obtain rfl : k = L.length := by omega
        go_wp2
        go_ret
        exact ⟨left, rfl, by omega, l1, fun _ => ⟨hn2, fun i h => hS i h h⟩, hb⟩

set_option maxHeartbeats 1000000 in
theorem toStringS_any (A : Option Addr) (L : List ByteArray) (c : Nat) (w : World) (hL : Strs w w.heap.size A L) (hn : L.length ≤ 1048576) :
    Calls Tryd.prog 28 #[.slice A L.length c] w fun e w' => ∃ g c', e = .returned (.slice (some ⟨g, 0, none⟩) L.length c') ∧ Rw w' w.heap.size w'.heap.size 9 1 (.slice (some ⟨g, 0, none⟩) L.length c') L.length (L.map Value.string) ∧ Below w.heap.size w w' := by
  obtain ⟨i0, hi, hz0, hz1, hz2⟩ := info_parts infoStr
  have hn1 : (L.length : Int) ≤ 1048576 := by omega
  go_enter Tryd.func28, Tryd.ntmps28
  go_wp2_with (at_make; refine wpList_make_full _ rfl _ _ 28 rfl w.heap.size 9 i0 (.string ⟨#[]⟩) 1 Tryd.underlying28 hi hz0 hz1 _ _ _ _ L.length rfl rfl rfl rfl (by rw [hz2]; omega) (by unfold maxLen; omega) (Nat.le_refl _) ?_; intro w1 hrow hg1)
  have hrow' : w1.ownsRow w.heap.size 9 1 (.slice (some ⟨w.heap.size, 0, none⟩) L.length L.length) L.length ((List.replicate L.length (⟨#[]⟩ : ByteArray)).map Value.string) := by
    have h2 := hrow
    rw [show (Value.string ⟨#[]⟩).cells = #[.string ⟨#[]⟩] from rfl, toList_madeCells_one, Nat.mul_one] at h2
    simpa using h2
  clear hrow
  have hb0 : Below w.heap.size w w1 := ⟨hg1.os, hg1.tape, hg1.output, hg1.size, fun k hk => hg1.block k hk (by simp)⟩
  go_loopw [4] (fun i wr => ∃ k : Nat, k ≤ L.length ∧ i = .int .i64 k ∧ wr.ownsRow w.heap.size 9 1 (.slice (some ⟨w.heap.size, 0, none⟩) L.length L.length) L.length ((L.take k ++ List.replicate (L.length - k) (⟨#[]⟩ : ByteArray)).map Value.string) ∧ Below w.heap.size w wr) (fun i _ => L.length - (intOf i).toNat)
  case atStart => exact ⟨0, by omega, rfl, by simpa using hrow', hb0⟩
  case round =>
    obtain ⟨k, hk, rfl, hr, hb⟩ := hrel
    by_cases hlt : k < L.length
    · obtain ⟨a, rfl, hab, c0⟩ := (hL.below hb (Nat.le_refl _)).2 k hlt
      obtain ⟨u1, d0⟩ := row_cell hr (j := k) (by omega)
      have f0 := hr.frozenAt k
      have hp := (hr.stored k (.string L[k])).1
      rw [← List.map_set, take_put L ⟨#[]⟩ hlt] at hp
      have hlt' : (k : Int) < (L.length : Int) := by omega
      go_wp2
      exact ⟨⟨k + 1, by omega, by go_num, hp, hb.setCell (Nat.le_refl _) _⟩, by simp [intOf]; omega⟩
    · obtain rfl : k = L.length := by omega
      go_wp2
      go_ret
      rw [List.take_of_length_le (Nat.le_refl _), Nat.sub_self, List.replicate_zero, List.append_nil] at hr
      exact ⟨_, _, rfl, Rw.of hr, hb⟩
end Go.Proofs.YtodnmbppgjbpmaaDoor

namespace Go.Proofs.YtodnmbppgjbpmaaDoor
open Go.RowKit
set_option linter.unusedVariables false
set_option maxRecDepth 1000000

/-- The code of a text with a key, none with none. -/
noncomputable def encB (key t : ByteArray) : ByteArray := if key.size = 0 then ⟨#[]⟩ else cutB key t
noncomputable def encL (K : List ByteArray) (t : ByteArray) : List ByteArray := K.map fun k => encB k t
theorem encL_len (K : List ByteArray) (t : ByteArray) : (encL K t).length = K.length := by simp [encL]
theorem encL_get {K : List ByteArray} {t : ByteArray} {k : Nat} (h : k < K.length) : (encL K t)[k]'(by rw [encL_len]; exact h) = encB K[k] t := by simp [encL]
theorem empty_yes {s : ByteArray} (h : s.size = 0) : s.toList.isEmpty = true := by
  rw [Lib.toList_data]
  have : s.data.toList.length = 0 := by rw [Array.length_toList]; exact h
  rw [List.isEmpty_iff]; exact List.eq_nil_of_length_eq_zero this
theorem empty_no {s : ByteArray} (h : ¬ s.size = 0) : s.toList.isEmpty = false := by
  rw [Lib.toList_data]
  cases e : s.data.toList with
  | nil => exact absurd (by have h2 := congrArg List.length e; rw [Array.length_toList] at h2; exact h2) h
  | cons => rfl
theorem take_skip {α : Type} (L : List α) (z : α) {k : Nat} (h : k < L.length) (hz : L[k] = z) : L.take k ++ List.replicate (L.length - k) z = L.take (k + 1) ++ List.replicate (L.length - (k + 1)) z := by
  rw [show L.length - k = (L.length - (k + 1)) + 1 by omega, List.replicate_succ, List.take_succ_eq_append_getElem h, List.append_assoc, hz]; rfl

set_option maxHeartbeats 4000000 in
theorem codes_any (A : Option Addr) (K : List ByteArray) (c : Nat) (t : ByteArray) (w : World) (hL : Strs w w.heap.size A K) (hn : K.length ≤ 4) (hf : ∀ i (h : i < K.length), K[i].size ≤ 32) (ht : t.size ≤ 20000) (hK : Keys w) (hw : 2 < w.heap.size) :
    Calls Tryd.prog 48 #[.string t, .slice A K.length c] w fun e w' => ∃ g c', e = .returned (.slice (some ⟨g, 0, none⟩) K.length c') ∧ Rw w' w.heap.size w'.heap.size 9 1 (.slice (some ⟨g, 0, none⟩) K.length c') K.length ((encL K t).map Value.string) ∧ Below w.heap.size w w' := by
  obtain ⟨i0, hi, hz0, hz1, hz2⟩ := info_parts infoStr
  have hn1 : (K.length : Int) ≤ 4 := by omega
  have HG := Lib.hid (fun k (h : k < K.length) => encL_get (t := t) h)
  have HLn := Lib.hid (encL_len K t)
  obtain ⟨E, HE⟩ : ∃ E, Hid (encL K t = E) := ⟨_, Lib.hid rfl⟩
  rw [HE.out]
  have HG2 : Hid (∀ k (h : k < K.length) (h2 : k < E.length), E[k] = encB K[k] t) := Lib.hid fun k h h2 => by have := HG.out k h; simp only [HE.out] at this; exact this
  rw [HE.out] at HLn
  clear HG
  go_enter Tryd.func48, Tryd.ntmps48
  go_wp2_with (at_make; refine wpList_make_full _ rfl _ _ 28 rfl w.heap.size 9 i0 (.string ⟨#[]⟩) 1 Tryd.underlying28 hi hz0 hz1 _ _ _ _ K.length rfl rfl rfl rfl (by rw [hz2]; omega) (by unfold maxLen; omega) (Nat.le_refl _) ?_; intro w1 hrow hg1)
  have hrow' : w1.ownsRow w.heap.size 9 1 (.slice (some ⟨w.heap.size, 0, none⟩) K.length K.length) K.length ((List.replicate K.length (⟨#[]⟩ : ByteArray)).map Value.string) := by
    have h2 := hrow
    rw [show (Value.string ⟨#[]⟩).cells = #[.string ⟨#[]⟩] from rfl, toList_madeCells_one, Nat.mul_one] at h2
    simpa using h2
  clear hrow
  have hb0 : Below w.heap.size w w1 := ⟨hg1.os, hg1.tape, hg1.output, hg1.size, fun k hk => hg1.block k hk (by simp)⟩
  go_loopw [13] (fun i wr => ∃ k : Nat, k ≤ K.length ∧ i = .int .i64 k ∧ wr.ownsRow w.heap.size 9 1 (.slice (some ⟨w.heap.size, 0, none⟩) K.length K.length) K.length ((E.take k ++ List.replicate (E.length - k) (⟨#[]⟩ : ByteArray)).map Value.string) ∧ Below w.heap.size w wr) (fun i _ => K.length - (intOf i).toNat)
  case atStart => exact ⟨0, by omega, rfl, by simpa [HLn.out] using hrow', hb0⟩
  case round =>
    clear hrow' hb0 hg1
    obtain ⟨k, hk, rfl, hr, hb⟩ := hrel
    by_cases hlt : k < K.length
    · obtain ⟨a, rfl, hab, c0⟩ := (hL.below hb (Nat.le_refl _)).2 k hlt
      have hlE : k < E.length := by rw [HLn.out]; exact hlt
      have hEk := Lib.hid (HG2.out k hlt hlE)
      have hsz := hf k hlt
      obtain ⟨key, HKy⟩ : ∃ x, Hid (K[k] = x) := ⟨_, Lib.hid rfl⟩
      rw [HKy.out] at hEk c0 hsz
      have hlt' : (k : Int) < (K.length : Int) := by omega
      by_cases h0 : key.size = 0
      · have hfe := empty_yes h0
        have hz : Hid (E[k] = ⟨#[]⟩) := Lib.hid (by rw [hEk.out]; unfold encB; rw [if_pos h0])
        rw [take_skip E ⟨#[]⟩ hlE hz.out] at hr
        go_wp2
        exact ⟨⟨k + 1, by omega, by go_num, hr, hb⟩, by simp [intOf]; omega⟩
      · have hfe := empty_no h0
        obtain ⟨m, HM⟩ : ∃ m, Hid (mac key t = m) := ⟨_, Lib.hid rfl⟩
        have hm : m.size = 32 := by rw [← HM.out, mac_size]
        have hm8 : (8 : Int) ≤ (m.size : Int) := by omega
        have hz : Hid (E[k] = m.extract 0 8) := Lib.hid (by rw [hEk.out]; unfold encB cutB; rw [if_neg h0, HM.out])
        clear hEk
        have HMC := Lib.hid (implMac_any key t wr (by omega) ht (hK.below hb hw) (by have := hb.size; omega))
        rw [HM.out] at HMC
        go_wp2_with (go_at_call 74; refine HMC.out.mono ?_; rintro e w2 ⟨rfl, hb2⟩; have hr2 := row_below hr hb2 (Nat.le_refl _); obtain ⟨u1, d0⟩ := row_cell hr2 (j := k) (by omega); have f0 := hr2.frozenAt k; have hp := (hr2.stored k (.string (m.extract 0 8))).1; rw [← hz.out, ← List.map_set, take_put E ⟨#[]⟩ hlE] at hp; rw [hz.out] at hp)
        exact ⟨⟨k + 1, by omega, by go_num, hp, (hb.trans (hb2.mono hb.size)).setCell (Nat.le_refl _) _⟩, by simp [intOf]; omega⟩
    · obtain rfl : k = K.length := by omega
      go_wp2
      go_ret
      rw [List.take_of_length_le (by rw [HLn.out]; exact Nat.le_refl _), HLn.out, Nat.sub_self, List.replicate_zero, List.append_nil] at hr
      exact ⟨_, _, rfl, Rw.of hr, hb⟩
end Go.Proofs.YtodnmbppgjbpmaaDoor

namespace Go.Proofs.YtodnmbppgjbpmaaDoor
open Go.RowKit
set_option linter.unusedVariables false
theorem tooLong_any (s : ByteArray) (w : World) (hs : s.size ≤ maxLen) : Calls Tryd.prog 46 #[.string s] w fun e w' => e = .returned (.bool (decide (20000 < s.size))) ∧ w' = w := by
  unfold maxLen at hs
  go_enter Tryd.func46, Tryd.ntmps46
  go_wp2
  go_ret
  exact ⟨retB (by simp; omega), rfl⟩
end Go.Proofs.YtodnmbppgjbpmaaDoor

namespace Go.Proofs.YtodnmbppgjbpmaaDoor
open Go.RowKit
set_option linter.unusedVariables false
set_option maxRecDepth 1000000

/-- The key for each replica, none for oneself. -/
noncomputable def keyE (k : ByteArray) (f i : Nat) : ByteArray := if i = f then ⟨#[]⟩ else pairB k i f
noncomputable def keyL4 (k : ByteArray) (f : Nat) : List ByteArray := (List.range 4).map (keyE k f)
theorem keyE_size (k : ByteArray) (f i : Nat) : (keyE k f i).size ≤ 32 := by
  unfold keyE; split
  · exact Nat.zero_le _
  · rw [pairB_size]; omega
theorem encE (k : ByteArray) (f i : Nat) (t : ByteArray) : encB (keyE k f i) t = codeB k f i t := by
  unfold keyE codeB encB
  by_cases h : i = f
  · rw [if_pos h, if_pos h]; rfl
  · rw [if_neg h, if_neg h, if_neg (by rw [pairB_size]; omega)]
theorem encL4 (k : ByteArray) (f : Nat) (t : ByteArray) : encL (keyL4 k f) t = vecB k f t 4 := by
  unfold encL keyL4 vecB
  rw [List.map_map]
  exact List.map_congr_left fun i _ => encE k f i t
theorem keyL4_len (k : ByteArray) (f : Nat) : (keyL4 k f).length = 4 := by simp [keyL4]
theorem vecO_in {k : ByteArray} {f : Int} {t : ByteArray} (h : t.size ≤ 20000 ∧ Sec k ∧ Who f) : vecO k f t = vecB k f.toNat t 4 := if_pos h
theorem vecO_out {k : ByteArray} {f : Int} {t : ByteArray} (h : ¬ (t.size ≤ 20000 ∧ Sec k ∧ Who f)) : vecO k f t = [] := if_neg h
/-- A whole block of strings. -/
theorem Blk.strs {w : World} {g : Nat} {T : TypeId} {L : List ByteArray} (h : Blk w g T (L.map Value.string)) (hl : L.length ≤ maxLen) : Strs w w.heap.size (some ⟨g, 0, none⟩) L :=
  ⟨hl, fun i hi => ⟨⟨g, 0, none⟩, rfl, h.lt, by
    have := h.cell (i := i) (v := .string L[i]) (by rw [List.getElem?_map, List.getElem?_eq_getElem hi]; rfl)
    by_cases h0 : i = 0
    · subst h0; exact this
    · unfold Addr.add; rw [if_neg h0]; simpa using this⟩⟩

set_option maxHeartbeats 4000000 in
theorem implVector_any (k : ByteArray) (f : Int) (t : ByteArray) (w : World) (hk : k.size ≤ maxLen) (ht : t.size ≤ maxLen) (hK : Keys w) (hw : 2 < w.heap.size) :
    Calls Tryd.prog 12 #[.string k, .int .i64 f, .string t] w fun e w' => ∃ A c, e = .returned (.slice A (vecO k f t).length c) ∧ OwnS w' w.heap.size (.slice A (vecO k f t).length c) (vecO k f t) ∧ Below w.heap.size w w' := by
  have HI := Lib.hid (vecO_in (k := k) (f := f) (t := t))
  have HO := Lib.hid (vecO_out (k := k) (f := f) (t := t))
  have nil_ok : OwnS w w.heap.size (.slice none ([] : List ByteArray).length 0) [] := World.ownsRow_nil _ _ _ _
  have TL : ∀ W, Calls Tryd.prog 46 #[.string t] W fun e w' => e = .returned (.bool (decide (20000 < t.size))) ∧ W = w' := fun W => (tooLong_any t W ht).mono fun e w' h => ⟨h.1, h.2.symm⟩
  generalize vecO k f t = R at HI HO ⊢
  rcases Bool.eq_false_or_eq_true (decide (20000 < t.size)) with hl | hl
  · have hl' := of_decide_eq_true hl
    obtain rfl := HO.out (fun h => by omega)
    rw [hl] at TL
    go_enter Tryd.func12, Tryd.ntmps12
    go_wp2_with (go_at_call 46; refine (TL _).mono ?_; rintro e w1 ⟨rfl, rfl⟩)
    go_ret
    exact ⟨none, 0, rfl, nil_ok, Below.refl _ _⟩
  · have hl' : t.size ≤ 20000 := by have := of_decide_eq_false hl; omega
    rw [hl] at TL
    rcases Bool.eq_false_or_eq_true (decide (Sec k)) with hs | hs
    · rcases Bool.eq_false_or_eq_true (decide (Who f)) with ha | ha
      · have hs' := of_decide_eq_true hs
        have ha' := of_decide_eq_true ha
        have HE := Lib.hid (HI.out ⟨hl', hs', ha'⟩)
        clear HI HO nil_ok
        unfold Who at ha'
        obtain ⟨n, rfl⟩ : ∃ n : Nat, f = n := ⟨f.toNat, by omega⟩
        have hn : n ≤ 3 := by omega
        have HB0 := Lib.hid (Blk.fresh w 61 (List.replicate 4 (.string ⟨#[]⟩)))
        obtain ⟨E, HK4⟩ : ∃ E, Hid (keyL4 k n = E) := ⟨_, Lib.hid rfl⟩
        have HG : Hid (∀ j (h : j < E.length), E[j] = keyE k n j) := Lib.hid (by rw [← HK4.out]; intro j h; simp [keyL4])
        have HLn : Hid (E.length = 4) := Lib.hid (by rw [← HK4.out]; exact keyL4_len k n)
        have HV : Hid (encL E t = R) := Lib.hid (by rw [← HK4.out, encL4, HE.out]; rfl)
        have HRl : Hid (R.length = E.length) := Lib.hid (by rw [← HV.out, encL_len])
        clear HE
        go_enter Tryd.func12, Tryd.ntmps12
        go_wp2_with (first
          | (go_at_call 46; refine (TL _).mono ?_; rintro e w1 ⟨rfl, rfl⟩)
          | (go_at_call 37; refine (secret_any hs _ hk).mono ?_; rintro e w1 ⟨rfl, rfl⟩)
          | (go_at_call 38; refine (replica_any ha _).mono ?_; rintro e w1 ⟨rfl, rfl⟩))
        go_loopw [21] (fun i wr => ∃ j : Nat, j ≤ 4 ∧ i = .int .i64 j ∧ Blk wr w.heap.size 61 ((E.take j ++ List.replicate (E.length - j) (⟨#[]⟩ : ByteArray)).map Value.string) ∧ Below w.heap.size w wr) (fun i _ => 4 - (intOf i).toNat)
        case atStart => exact ⟨0, by omega, rfl, by rw [HLn.out]; exact HB0.out, (Below.refl _ _).alloc (Nat.le_refl _) _⟩
        case round =>
          clear HB0
          obtain ⟨j, hj, rfl, hB, hb⟩ := hrel
          by_cases hlt : j < 4
          · have hlE : j < E.length := by rw [HLn.out]; exact hlt
            have hlt' : (j : Int) < 4 := by omega
            have hEj := Lib.hid (HG.out j hlE)
            by_cases hjn : j = n
            · have hc : ((j : Int) != (n : Int)) = false := by simp; omega
              have hz : Hid (E[j] = ⟨#[]⟩) := Lib.hid (by rw [hEj.out]; unfold keyE; rw [if_pos hjn])
              rw [take_skip E ⟨#[]⟩ hlE hz.out] at hB
              clear hjn
              go_wp2
              exact ⟨⟨j + 1, by omega, by go_num, hB, hb⟩, by simp [intOf]; omega⟩
            · have hc : ((j : Int) != (n : Int)) = true := by simp; omega
              obtain ⟨key, HKy⟩ : ∃ x, Hid (pairB k j n = x) := ⟨_, Lib.hid rfl⟩
              have hz : Hid (E[j] = key) := Lib.hid (by rw [hEj.out]; unfold keyE; rw [if_neg hjn]; exact HKy.out)
              have KO := Lib.hid (keyOfI_any k j n wr hs'.2 (by omega) hn (hK.below hb hw) (by have := hb.size; omega))
              rw [HKy.out] at KO
              clear hEj hjn
              have hlw := hB.lt
              go_wp2_with (go_at_call 47; refine KO.out.mono ?_; rintro e w2 ⟨rfl, hb2⟩; have hB2 := hB.below hb2 hlw; have d0 := hB2.cell (i := j) (v := ((E.take j ++ List.replicate (E.length - j) (⟨#[]⟩ : ByteArray)).map Value.string)[j]'(by simp; omega)) (List.getElem?_eq_getElem _); have f0 := hB2.froz j; have hp := hB2.put j (.string key); rw [← hz.out, ← List.map_set, take_put E ⟨#[]⟩ hlE] at hp; rw [hz.out] at hp)
              exact ⟨⟨j + 1, by omega, by go_num, hp, (hb.trans (hb2.mono hb.size)).setCell (Nat.le_refl _) _⟩, by simp [intOf]; omega⟩
          · obtain rfl : j = 4 := by omega
            rw [List.take_of_length_le (by rw [HLn.out]; exact Nat.le_refl _), HLn.out, Nat.sub_self, List.replicate_zero, List.append_nil] at hB
            have hS := hB.strs (by rw [HLn.out]; simp [maxLen])
            have HC := Lib.hid (codes_any (some ⟨w.heap.size, 0, none⟩) E 4 t wr hS (by rw [HLn.out]; exact Nat.le_refl _) (fun i h => by rw [HG.out i h]; exact keyE_size k n i) hl' (hK.below hb hw) (by have := hb.size; omega))
            rw [HV.out, HLn.out] at HC
            go_wp2_with (go_at_call 48; refine HC.out.mono ?_; rintro e w2 ⟨g2, c2, rfl, hR2, hb2⟩)
            go_ret
            refine ⟨some ⟨g2, 0, none⟩, c2, by rw [HRl.out, HLn.out]; rfl, ?_, hb.trans (hb2.mono hb.size)⟩
            have h1 := ownS_base (base' := w.heap.size) (show OwnS w2 wr.heap.size (.slice (some ⟨g2, 0, none⟩) 4 c2) R by unfold OwnS; rw [HRl.out, HLn.out]; exact hR2.1) hb.size
            rw [HRl.out, HLn.out]
            exact h1
      · obtain rfl := HO.out (fun h => by have := decide_eq_true h.2.2; rw [ha] at this; cases this)
        go_enter Tryd.func12, Tryd.ntmps12
        go_wp2_with (first
          | (go_at_call 46; refine (TL _).mono ?_; rintro e w1 ⟨rfl, rfl⟩)
          | (go_at_call 37; refine (secret_any hs _ hk).mono ?_; rintro e w1 ⟨rfl, rfl⟩)
          | (go_at_call 38; refine (replica_any ha _).mono ?_; rintro e w1 ⟨rfl, rfl⟩))
        go_ret
        exact ⟨none, 0, rfl, nil_ok, Below.refl _ _⟩
    · obtain rfl := HO.out (fun h => by have := decide_eq_true h.2.1; rw [hs] at this; cases this)
      go_enter Tryd.func12, Tryd.ntmps12
      go_wp2_with (first
        | (go_at_call 46; refine (TL _).mono ?_; rintro e w1 ⟨rfl, rfl⟩)
        | (go_at_call 37; refine (secret_any hs _ hk).mono ?_; rintro e w1 ⟨rfl, rfl⟩))
      go_ret
      exact ⟨none, 0, rfl, nil_ok, Below.refl _ _⟩
end Go.Proofs.YtodnmbppgjbpmaaDoor
