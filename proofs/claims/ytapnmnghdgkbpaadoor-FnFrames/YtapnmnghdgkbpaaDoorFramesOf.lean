/- Contracts of FramesOf: spec and impl answer the same string; the walk of its law. -/
import Derived.Test.YtapnmnghdgkbpaaDoorFrame
import Derived.Test.YtapnmnghdgkbpaaDoorStrArg
import Derived.Lib.AppendStr
import Derived.BigRegion
namespace Go.Proofs.YtapnmnghdgkbpaaDoor
open Go.RowKit
set_option linter.unusedVariables false
set_option maxRecDepth 1000000

/-- The frames of a list behind others. -/
noncomputable def frL : List ByteArray → ByteArray → ByteArray
  | [], acc => acc
  | t :: r, acc => if 1000 < t.size then ⟨#[]⟩ else if 20000 < acc.size + (frameS t).size then ⟨#[]⟩ else frL r (acc ++ frameS t)
noncomputable def framesOf (L : List ByteArray) : ByteArray := if 400 < L.length then ⟨#[]⟩ else frL L ⟨#[]⟩
theorem frL_end {L : List ByteArray} {k : Nat} {acc : ByteArray} (h : L.length ≤ k) : frL (L.drop k) acc = acc := by rw [List.drop_eq_nil_of_le h]; rfl
theorem frL_long {L : List ByteArray} {k : Nat} {acc : ByteArray} (h : k < L.length) (h1 : 1000 < L[k].size) : frL (L.drop k) acc = ⟨#[]⟩ := by rw [List.drop_eq_getElem_cons h, frL, if_pos h1]
theorem frL_full {L : List ByteArray} {k : Nat} {acc : ByteArray} (h : k < L.length) (h1 : ¬ 1000 < L[k].size) (h2 : 20000 < acc.size + (frameS L[k]).size) : frL (L.drop k) acc = ⟨#[]⟩ := by rw [List.drop_eq_getElem_cons h, frL, if_neg h1, if_pos h2]
theorem frL_next {L : List ByteArray} {k : Nat} {acc : ByteArray} (h : k < L.length) (h1 : ¬ 1000 < L[k].size) (h2 : ¬ 20000 < acc.size + (frameS L[k]).size) : frL (L.drop k) acc = frL (L.drop (k + 1)) (acc ++ frameS L[k]) := by rw [List.drop_eq_getElem_cons h, frL, if_neg h1, if_neg h2]
theorem own_some {w : World} {base size n : Nat} {e : TypeId} {v : Value} {xs : List Value} (h : w.ownsRow base e size v n xs) : ∃ A c, v = .slice A n c := by
  rcases h.2 with ⟨rfl, hz⟩ | ⟨g, cap, cur, rfl, _⟩
  · exact ⟨none, 0, by rw [hz]⟩
  · exact ⟨_, _, rfl⟩
theorem toList_some {f : ByteArray} (h : 0 < f.size) : f.toList.isEmpty = false := by
  rw [ByteArray.toList_eq]
  cases e : f.data.toList with
  | nil => have : f.size = 0 := (by have h2 := congrArg List.length e; rw [Array.length_toList] at h2; exact h2); omega
  | cons => rfl
theorem strCells_bytes (s : ByteArray) : Lib.strCells s = Lib.byteCells s.data.toList := rfl

set_option maxHeartbeats 2000000 in
theorem implFramesOf_any (A : Option Addr) (L : List ByteArray) (c : Nat) (w : World) (hL : Strs w w.heap.size A L) (hf : ∀ i (h : i < L.length), L[i].size ≤ 1048576) :
    Calls Tryd.prog 12 #[.slice A L.length c] w fun e w' => e = .returned (.string (framesOf L)) ∧ Below w.heap.size w w' := by
  obtain ⟨i0, hi, hz0, hz1, hz2⟩ := info_parts infoU8
  have hn := hL.1
  unfold maxLen at hn
  unfold framesOf
  by_cases h400 : 400 < L.length
  · rw [if_pos h400]
    go_enter Tryd.func12, Tryd.ntmps12
    go_wp2
    go_ret
    exact ⟨rfl, Below.refl _ _⟩
  · rw [if_neg h400]
    obtain ⟨V, HV⟩ : ∃ V, Hid (frL L ⟨#[]⟩ = V) := ⟨_, rfl⟩
    rw [HV.out]
    go_enter Tryd.func12, Tryd.ntmps12
    go_wp2
    go_loopw [3, 12] (fun o i wr => ∃ (k : Nat) (acc : ByteArray), k ≤ L.length ∧ i = .int .i64 k ∧ wr.ownsRow w.heap.size 5 1 o acc.size (Lib.byteCells acc.data.toList) ∧ acc.size ≤ 20000 ∧ Hid (frL (L.drop k) acc = V) ∧ Below w.heap.size w wr) (fun _ i _ => L.length - (intOf i).toNat)
    case atStart => exact ⟨0, ⟨#[]⟩, by omega, rfl, World.ownsRow_nil w _ _ _, by decide, HV, Below.refl _ _⟩
    case round =>
      obtain ⟨k, acc, hk, rfl, hr, ha, hV, hb⟩ := hrel
      by_cases hlt : k < L.length
      · obtain ⟨a, rfl, hab, c0⟩ := (hL.below hb (Nat.le_refl _)).2 k hlt
        have hsz := hf k hlt
        have hlt' : (k : Int) < (L.length : Int) := by omega
        by_cases h1 : 1000 < L[k].size
        · go_wp2_with (go_at_call 23; refine (implFrameOf_out L[k] _ (by unfold maxLen; omega) h1).mono ?_; rintro e w1 ⟨rfl, hb1⟩)
          go_ret
          exact ⟨retS (by rw [← hV.out, frL_long hlt h1]), hb.trans (hb1.mono hb.size)⟩
        · have hfs := frameS_size L[k] (by omega)
          have HF := Lib.hid (fun w => implFrameOf_any L[k] w (by omega))
          have hV2 := Lib.hid (fun h2 => frL_full (acc := acc) hlt h1 h2)
          have hV3 := Lib.hid (fun h2 => frL_next (acc := acc) hlt h1 h2)
          obtain ⟨f, HE⟩ : ∃ f, Hid (frameS L[k] = f) := ⟨frameS L[k], Lib.hid rfl⟩
          rw [HE.out] at HF hV2 hV3 hfs
          by_cases h2 : 20000 < acc.size + f.size
          · have h2' : (20000 : Int) < (acc.size : Int) + (f.size : Int) := by omega
            have hfe : f.toList.isEmpty = false := toList_some (by omega)
            obtain ⟨A1, c1, rfl⟩ := own_some hr
            go_wp2_with (go_at_call 23; refine (HF.out _).mono ?_; rintro e w1 ⟨rfl, hb1⟩)
            go_ret
            exact ⟨retS (by rw [← hV.out, hV2.out h2]), hb.trans (hb1.mono hb.size)⟩
          · have h2' : ¬ (20000 : Int) < (acc.size : Int) + (f.size : Int) := by omega
            have hfe : f.toList.isEmpty = false := toList_some (by omega)
            obtain ⟨A1, c1, rfl⟩ := own_some hr
            have hs := hb.size
            go_wp2_with (first
              | (go_at_call 23; refine (HF.out _).mono ?_; rintro e w1 ⟨rfl, hb1⟩; have hs1 := hb1.size)
              | (at_builtin; refine Lib.wpList_append_own_string _ rfl _ _ 22 9 rfl w.heap.size 5 i0 Tryd.underlying22 Tryd.underlying9 hi hz0 hz1 hz2 _ _ _ rfl (row_below hr hb1 (Nat.le_refl _)) f rfl (by unfold maxLen; omega) (by omega) (by omega) ?_; intro v' w' hown' hgrow' hne; clear hne))
            rw [strCells_bytes, byteCells_append] at hown'
            refine ⟨⟨k + 1, acc ++ f, by omega, by go_num, ?_, by rw [ByteArray.size_append]; omega, Lib.hid (by rw [← hV3.out h2]; exact hV.out), ?_⟩, by simp [intOf]; omega⟩
            · rw [ByteArray.size_append]
              have : (acc ++ f).data.toList = acc.data.toList ++ f.data.toList := by simp
              rw [this]
              exact hown'
            · exact (hb.trans (hb1.mono hb.size)).grown hgrow' (by omega) (fun k e => (hr.lt k e).1)
      · obtain rfl : k = L.length := by omega
        have hcv := own_bytes hr
        go_wp2
        go_ret
        exact ⟨retS (by rw [← hV.out, frL_end (Nat.le_refl _)]), hb⟩

set_option maxHeartbeats 2000000 in
theorem specFramesOf_any (A : Option Addr) (L : List ByteArray) (c : Nat) (w : World) (hL : Strs w w.heap.size A L) (hf : ∀ i (h : i < L.length), L[i].size ≤ 1048576) :
    Calls Tryd.prog 13 #[.slice A L.length c] w fun e w' => e = .returned (.string (framesOf L)) ∧ Below w.heap.size w w' := by
  have hn := hL.1
  unfold maxLen at hn
  unfold framesOf
  by_cases h400 : 400 < L.length
  · rw [if_pos h400]
    go_enter Tryd.func13, Tryd.ntmps13
    go_wp2
    go_ret
    exact ⟨rfl, Below.refl _ _⟩
  · rw [if_neg h400]
    obtain ⟨V, HV⟩ : ∃ V, Hid (frL L ⟨#[]⟩ = V) := ⟨_, rfl⟩
    rw [HV.out]
    go_enter Tryd.func13, Tryd.ntmps13
    go_wp2
    go_loopw [3, 4] (fun o i wr => ∃ (k : Nat) (acc : ByteArray), k ≤ L.length ∧ i = .int .i64 k ∧ o = .string acc ∧ ((acc.size ≤ 20000 ∧ Hid (frL (L.drop k) acc = V)) ∨ (20000 < acc.size ∧ acc.size ≤ 30000 ∧ V = ⟨#[]⟩)) ∧ Below w.heap.size w wr) (fun _ i _ => L.length - (intOf i).toNat)
    case atStart => exact ⟨0, ⟨#[]⟩, by omega, rfl, rfl, .inl ⟨by decide, HV⟩, Below.refl _ _⟩
    case round =>
      obtain ⟨k, acc, hk, rfl, rfl, hcase, hb⟩ := hrel
      by_cases hlt : k < L.length
      · obtain ⟨a, rfl, hab, c0⟩ := (hL.below hb (Nat.le_refl _)).2 k hlt
        have hsz := hf k hlt
        have hlt' : (k : Int) < (L.length : Int) := by omega
        by_cases h1 : 1000 < L[k].size
        · have hv : V = ⟨#[]⟩ := by
            rcases hcase with ⟨_, hV⟩ | ⟨_, _, hV⟩
            · rw [← hV.out, frL_long hlt h1]
            · exact hV
          have ha : acc.size ≤ 30000 := by rcases hcase with h | h <;> omega
          clear hcase
          go_wp2
          go_ret
          first | exact ⟨retS hv.symm, hb⟩ | exact ⟨rfl, hb⟩
        · rcases hcase with ⟨ha, hV⟩ | ⟨ha, ha2, hv⟩
          · have hfs := frameS_size L[k] (by omega)
            have HF := Lib.hid (fun w => specFrameOf_any L[k] w (by omega))
            have hV2 := Lib.hid (fun h2 => frL_full (acc := acc) hlt h1 h2)
            have hV3 := Lib.hid (fun h2 => frL_next (acc := acc) hlt h1 h2)
            obtain ⟨f, HE⟩ : ∃ f, Hid (frameS L[k] = f) := ⟨frameS L[k], Lib.hid rfl⟩
            rw [HE.out] at HF hV2 hV3 hfs
            go_wp2_with (go_at_call 24; refine (HF.out _).mono ?_; rintro e w1 ⟨rfl, hb1⟩)
            refine ⟨⟨k + 1, acc ++ f, by omega, by go_num, rfl, ?_, hb.trans (hb1.mono hb.size)⟩, by simp [intOf]; omega⟩
            by_cases h2 : 20000 < acc.size + f.size
            · exact .inr ⟨by rw [ByteArray.size_append]; exact h2, by rw [ByteArray.size_append]; omega, by rw [← hV.out, hV2.out h2]⟩
            · exact .inl ⟨by rw [ByteArray.size_append]; omega, Lib.hid (by rw [← hV3.out h2]; exact hV.out)⟩
          · go_wp2
            go_ret
            first | exact ⟨retS hv.symm, hb⟩ | exact ⟨rfl, hb⟩
      · obtain rfl : k = L.length := by omega
        rcases hcase with ⟨ha, hV⟩ | ⟨ha, ha2, hv⟩
        · go_wp2
          go_ret
          exact ⟨retS (by rw [← hV.out, frL_end (Nat.le_refl _)]), hb⟩
        · go_wp2
          go_ret
          first | exact ⟨retS hv.symm, hb⟩ | exact ⟨rfl, hb⟩

end Go.Proofs.YtapnmnghdgkbpaaDoor
