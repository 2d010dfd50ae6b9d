/- Contracts of FsNames: both answer the names of right files. -/
import Derived.Test.YtmdjfgnmjelmhaaFilRightI
import Derived.Test.YtmdjfgnmjelmhaaStr
import Derived.Test.YtmdjfgnmjelmhaaClone
namespace Go.Proofs.Ytmdjfgnmjelmhaa
open Go.RowKit
set_option linter.unusedVariables false

/-- FsNames. -/
noncomputable def namesOf (L : List Fil) : List ByteArray := if fsOK L = true then L.map (·.name) else []
theorem infoStr : (Try.prog.info? 9).map (fun i => (i.zero, i.size, i.bytes)) = some (some (.string ⟨#[]⟩), 1, 16) := by kernel_rfl
theorem below_apps {B base : Nat} {w wr w1 : World} {e : TypeId} {size n : Nat} {v : Value} {xs : List Value} {o : Obj} (hb : Below B w wr) (hB : B ≤ w.heap.size) (hown : wr.ownsRow base e size v n xs) (hBb : B ≤ base) (hg : (wr.alloc o).grownBy w1 v.ownBlock) : Below B w w1 :=
  (hb.alloc (Nat.le_trans hB hb.size) o).grown hg (by have := hb.size; simp; omega) (fun k e => Nat.le_trans hBb (hown.lt k e).1)
theorem one_str (s : ByteArray) : ∀ u ∈ [Value.string s], u.oneCell' = true := by intro u hu; simp at hu; subst hu; rfl
theorem ownS_snoc {w : World} {base : Nat} {v : Value} {L : List ByteArray} {x : ByteArray} (h : w.ownsRow base 9 1 v (L.length + 1) (L.map Value.string ++ [.string x])) : OwnS w base v (L ++ [x]) := by
  unfold OwnS
  simpa using h
theorem ownS_base {w : World} {base base' : Nat} {v : Value} {L : List ByteArray} (h : OwnS w base v L) (hb : base' ≤ base) : OwnS w base' v L := by
  obtain ⟨h0, h1⟩ := h
  refine ⟨h0, ?_⟩
  rcases h1 with h1 | ⟨g, cap, cur, r1, r2, r3⟩
  · exact .inl h1
  · exact .inr ⟨g, cap, cur, r1, by omega, r3⟩
theorem ownS_some {w : World} {base : Nat} {v : Value} {L : List ByteArray} (h : OwnS w base v L) : ∃ A c, v = .slice A L.length c := by
  rcases h.2 with ⟨rfl, hz⟩ | ⟨g, cap, cur, rfl, _⟩
  · exact ⟨none, 0, by rw [hz]⟩
  · exact ⟨_, _, rfl⟩

set_option maxHeartbeats 2000000 in
theorem specNames_any (A : Option Addr) (L : List Fil) (c : Nat) (w : World) (hL : Fls w w.heap.size A L) (hS : Small L) :
    Calls Try.prog 11 #[.agg #[.slice A L.length c]] w fun e w' => ∃ B d, e = .returned (.slice B (namesOf L).length d) ∧ OwnS w' w.heap.size (.slice B (namesOf L).length d) (namesOf L) ∧ Below w.heap.size w w' := by
  obtain ⟨i0, hi, hz0, hz1, hz2⟩ := info_parts infoStr
  have hn := hS.1
  have HL : Hid (∀ W, Below w.heap.size w W → Fls W W.heap.size A L) := Lib.hid fun W h => (hL.below h (Nat.le_refl _)).mono h.size
  have hB0 := (Blk.fresh w 29 [.slice A L.length c]).alloc (.cells #[] 9)
  have hb0 : Below w.heap.size w ((w.alloc (.cells #[.slice A L.length c] 29)).alloc (.cells #[] 9)) := ((Below.refl _ _).alloc (Nat.le_refl _) _).alloc (by simp) _
  have HO0 : Hid (OwnS ((w.alloc (.cells #[.slice A L.length c] 29)).alloc (.cells #[] 9)) (w.heap.size + 1) (.slice (some ⟨w.heap.size + 1, 0, none⟩) 0 0) []) :=
    ⟨rfl, .inr ⟨w.heap.size + 1, 0, #[], rfl, Nat.le_refl _, by have := heap_alloc_new (w.alloc (.cells #[.slice A L.length c] 29)) (.cells #[] 9); simpa using this, Nat.le_refl _, by simp [maxLen], rfl, rfl⟩⟩
  rcases Bool.eq_false_or_eq_true (fsOK L) with hok | hok
  · have RN : ∀ W, Below w.heap.size w W → Calls Try.prog 7 #[.agg #[.slice A L.length c]] W fun e w' => e = .returned (.bool true) ∧ Below W.heap.size W w' := fun W h => by have := specRight_any A L c W (HL.out W h); rw [hok] at this; exact this
    go_enter Try.func11, Try.ntmps11
    go_wp2
    go_loopw [3, 4] (fun v i wr => ∃ k : Nat, k ≤ L.length ∧ i = .int .i64 k ∧ OwnS wr (w.heap.size + 1) v ((L.take k).map (·.name)) ∧ Blk wr w.heap.size 29 [.slice A L.length c] ∧ Below w.heap.size w wr) (fun _ i _ => L.length - (intOf i).toNat)
    case atStart => exact ⟨0, by omega, rfl, by simpa [OwnS] using HO0.out, hB0, hb0⟩
    case round =>
      obtain ⟨k, hk, rfl, hO, hB, hb⟩ := hrel
      have b0 := hB.cell (i := 0) rfl
      by_cases hlt : k < L.length
      · have hlt' : (k : Int) < (L.length : Int) := by omega
        go_wp2_with (fail)
        refine (RN _ hb).mono ?_
        rintro e w1 ⟨rfl, hb1⟩
        have hO1 := row_below hO hb1 (Nat.le_refl _)
        have hB1 := hB.below hb1 hB.lt
        have b1 := hB1.cell (i := 0) rfl
        have hb01 := hb.trans (hb1.mono hb.size)
        obtain ⟨a, rfl, hab, c0, c1, c2, hff⟩ := (HL.out _ hb01).at k hlt
        clear b0
        go_wp2_with (at_builtin; refine wpList_append_own _ rfl _ _ 33 rfl (w.heap.size + 1) 9 i0 (.string ⟨#[]⟩) 1 16 Try.underlying33 hi hz0 hz1 hz2 rfl (by decide) _ _ _ rfl (World.ownsRow.alloc hO1 _) ⟨w1.heap.size, 0, none⟩ 1 1 [.string L[k].name] rfl rfl (one_cell _ _ _) (one_str _) (by simp [maxLen]; omega) (by simp; omega) (by have := hB1.lt; simp; omega) ?_)
        intro v' w2 hO2 hg2 _
        have hb2 := below_apps hb01 (Nat.le_refl _) hO1 (Nat.le_succ _) hg2
        have hB2 := (hB1.alloc _).grown hg2 (fun e => by have := (hO1.lt _ e.symm).1; omega)
        have hO3 : OwnS w2 (w.heap.size + 1) v' ((L.take (k + 1)).map (·.name)) := by
          unfold OwnS
          have e1 : ((L.take (k + 1)).map (·.name)).length = k + 1 := by simp; omega
          have e2 : ((L.take (k + 1)).map (·.name)).map Value.string = List.take k (L.map (Value.string ∘ fun x => x.name)) ++ [.string L[k].name] := by rw [List.take_succ_eq_append_getElem hlt, List.map_append, List.map_append, List.map_map, List.map_take]; rfl
          rw [e1, e2]
          exact hO2
        clear hO2
        go_wp2
        exact ⟨⟨k + 1, by omega, by go_num, hO3, hB2, hb2⟩, by simp [intOf]; omega⟩
      · obtain rfl : k = L.length := by omega
        have e1 : namesOf L = L.map (·.name) := by unfold namesOf; rw [if_pos hok]
        rw [List.take_of_length_le (Nat.le_refl _), ← e1] at hO
        obtain ⟨B, d, rfl⟩ := ownS_some hO
        go_wp2
        go_ret
        exact ⟨B, d, rfl, ownS_base hO (Nat.le_succ _), hb⟩
  · have RN : ∀ W, Below w.heap.size w W → Calls Try.prog 7 #[.agg #[.slice A L.length c]] W fun e w' => e = .returned (.bool false) ∧ Below W.heap.size W w' := fun W h => by have := specRight_any A L c W (HL.out W h); rw [hok] at this; exact this
    have e1 : namesOf L = [] := by unfold namesOf; rw [if_neg (by rw [hok]; simp)]
    rw [e1]
    go_enter Try.func11, Try.ntmps11
    go_wp2
    go_loopw [3, 4] (fun v i wr => v = .slice (some ⟨w.heap.size + 1, 0, none⟩) 0 0 ∧ i = .int .i64 0 ∧ wr = (w.alloc (.cells #[.slice A L.length c] 29)).alloc (.cells #[] 9)) (fun _ _ _ => 0)
    case atStart => exact ⟨rfl, rfl, rfl⟩
    case round =>
      obtain ⟨rfl, rfl, rfl⟩ := hrel
      by_cases hlt : 0 < L.length
      · have hlt' : (0 : Int) < (L.length : Int) := by omega
        go_wp2_with (fail)
        refine (RN _ hb0).mono ?_
        rintro e w1 ⟨rfl, hb1⟩
        go_wp2
        go_ret
        exact ⟨_, _, rfl, ownS_base (row_below HO0.out hb1 (Nat.le_refl _)) (Nat.le_succ _), hb0.trans (hb1.mono hb0.size)⟩
      · have hlt' : ¬ (0 : Int) < (L.length : Int) := by omega
        go_wp2
        go_ret
        exact ⟨_, _, rfl, ownS_base HO0.out (Nat.le_succ _), hb0⟩

set_option maxHeartbeats 2000000 in
theorem implNames_any (A : Option Addr) (L : List Fil) (c : Nat) (w : World) (hL : Fls w w.heap.size A L) (hS : Small L) :
    Calls Try.prog 12 #[.agg #[.slice A L.length c]] w fun e w' => ∃ B d, e = .returned (.slice B (namesOf L).length d) ∧ OwnS w' w.heap.size (.slice B (namesOf L).length d) (namesOf L) ∧ Below w.heap.size w w' := by
  obtain ⟨i0, hi, hz0, hz1, hz2⟩ := info_parts infoStr
  have hn := hS.1
  have HL : Hid (∀ W, Below w.heap.size w W → Fls W W.heap.size A L) := Lib.hid fun W h => (hL.below h (Nat.le_refl _)).mono h.size
  have hB0 := Blk.fresh w 29 [.slice A L.length c]
  have hb0 : Below w.heap.size w (w.alloc (.cells #[.slice A L.length c] 29)) := (Below.refl _ _).alloc (Nat.le_refl _) _
  rcases Bool.eq_false_or_eq_true (fsOK L) with hok | hok
  · have RN : ∀ W, Below w.heap.size w W → Calls Try.prog 9 #[.agg #[.slice A L.length c]] W fun e w' => e = .returned (.bool true) ∧ Below W.heap.size W w' := fun W h => by have := implRight_any A L c W (HL.out W h); rw [hok] at this; exact this
    have h12 := (fsOK_iff.1 hok).1
    go_enter Try.func12, Try.ntmps12
    go_wp2_with (fail)
    refine (RN _ hb0).mono ?_
    rintro e w0 ⟨rfl, hb01⟩
    have hB01 := hB0.below hb01 hB0.lt
    have hb00 := hb0.trans (hb01.mono hb0.size)
    have b00 := hB01.cell (i := 0) rfl
    go_wp2
    go_loopw [3, 5, 12] (fun v _ i wr => ∃ k : Nat, k ≤ L.length ∧ i = .int .i64 k ∧ OwnS wr (w.heap.size + 1) v ((L.take k).map (·.name)) ∧ Blk wr w.heap.size 29 [.slice A L.length c] ∧ Below w.heap.size w wr) (fun _ _ i _ => L.length - (intOf i).toNat)
    case atStart => exact ⟨0, by omega, rfl, World.ownsRow_nil _ _ _ _, hB01, hb00⟩
    case round =>
      obtain ⟨k, hk, rfl, hO, hB, hb⟩ := hrel
      have b0 := hB.cell (i := 0) rfl
      by_cases hlt : k < L.length
      · have hlt' : (k : Int) < (L.length : Int) := by omega
        obtain ⟨a, rfl, hab, c0, c1, c2, hff⟩ := (HL.out _ hb).at k hlt
        have hss := (hS.2 k hlt).1
        have hbf : Below w.heap.size w (wr.alloc (.cells #[.string L[k].name, .string L[k].data, .int .i64 L[k].sync] 46)) := hb.alloc hb.size _
        have hOf := World.ownsRow.alloc hO (.cells #[.string L[k].name, .string L[k].data, .int .i64 L[k].sync] 46)
        have hBf := hB.alloc (.cells #[.string L[k].name, .string L[k].data, .int .i64 L[k].sync] 46)
        go_wp2_with (fail)
        refine (clone_any L[k].name _ hss).mono ?_
        rintro e w1 ⟨rfl, hb1⟩
        have hO1 := row_below hOf hb1 (Nat.le_refl _)
        have hB1 := hBf.below hb1 hBf.lt
        have hb01 := hbf.trans (hb1.mono hbf.size)
        clear b0 c0 c1 c2 b00
        go_wp2_with (at_builtin; refine wpList_append_own _ rfl _ _ 33 rfl (w.heap.size + 1) 9 i0 (.string ⟨#[]⟩) 1 16 Try.underlying33 hi hz0 hz1 hz2 rfl (by decide) _ _ _ rfl (World.ownsRow.alloc hO1 _) ⟨w1.heap.size, 0, none⟩ 1 1 [.string L[k].name] rfl rfl (one_cell _ _ _) (one_str _) (by simp [maxLen]; omega) (by simp; omega) (by have := hB1.lt; simp; omega) ?_)
        intro v' w2 hO2 hg2 _
        have hb2 := below_apps hb01 (Nat.le_refl _) hO1 (Nat.le_succ _) hg2
        have hB2 := (hB1.alloc _).grown hg2 (fun e => by have := (hO1.lt _ e.symm).1; omega)
        have hO3 : OwnS w2 (w.heap.size + 1) v' ((L.take (k + 1)).map (·.name)) := by
          unfold OwnS
          have e1 : ((L.take (k + 1)).map (·.name)).length = k + 1 := by simp; omega
          have e2 : ((L.take (k + 1)).map (·.name)).map Value.string = List.take k (L.map (Value.string ∘ fun x => x.name)) ++ [.string L[k].name] := by rw [List.take_succ_eq_append_getElem hlt, List.map_append, List.map_append, List.map_map, List.map_take]; rfl
          rw [e1, e2]
          exact hO2
        clear hO2
        go_wp2
        exact ⟨⟨k + 1, by omega, by go_num, hO3, hB2, hb2⟩, by simp [intOf]; omega⟩
      · obtain rfl : k = L.length := by omega
        have e1 : namesOf L = L.map (·.name) := by unfold namesOf; rw [if_pos hok]
        rw [List.take_of_length_le (Nat.le_refl _), ← e1] at hO
        obtain ⟨B, d, rfl⟩ := ownS_some hO
        go_wp2
        go_ret
        exact ⟨B, d, rfl, ownS_base hO (Nat.le_succ _), hb⟩
  · have RN : ∀ W, Below w.heap.size w W → Calls Try.prog 9 #[.agg #[.slice A L.length c]] W fun e w' => e = .returned (.bool false) ∧ Below W.heap.size W w' := fun W h => by have := implRight_any A L c W (HL.out W h); rw [hok] at this; exact this
    have e1 : namesOf L = [] := by unfold namesOf; rw [if_neg (by rw [hok]; simp)]
    rw [e1]
    go_enter Try.func12, Try.ntmps12
    go_wp2_with (fail)
    refine (RN _ hb0).mono ?_
    rintro e w1 ⟨rfl, hb1⟩
    go_wp2
    go_ret
    exact ⟨_, _, rfl, World.ownsRow_nil _ _ _ _, hb0.trans (hb1.mono hb0.size)⟩
end Go.Proofs.Ytmdjfgnmjelmhaa
