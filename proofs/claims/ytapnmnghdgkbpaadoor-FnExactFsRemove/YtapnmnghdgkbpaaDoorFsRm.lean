/- FsRemove: spec and impl answer alike. -/
import Derived.Test.YtapnmnghdgkbpaaDoorFsSyn
import Derived.Test.YtapnmnghdgkbpaaDoorFOut
import Derived.Maps.OwnSet
namespace Go.Proofs.YtapnmnghdgkbpaaDoor
open Go.RowKit
set_option linter.unusedVariables false
set_option maxRecDepth 1000000

set_option maxHeartbeats 2000000 in
theorem remove_some (b n : Nat) (L : List Fil) (s : ByteArray) (f : Fil) (w : World) (hM : MapF w b n L) (hs : s.size ≤ maxLen) (hf : findF L s = some f) :
    Calls Tryd.prog 79 #[.map (some b), .string s] w fun e w' => e = .returned .nilIface ∧ MapF w' b n (delL L s) ∧ w.grownBy w' (some b) := by
  have Fi := find_some b n L s f w hM hs hf
  obtain ⟨s0, s1, k⟩ := f
  unfold Fil.val at Fi
  simp only at Fi
  have hbl := World.ownsMap.lt hM
  go_enter Tryd.func79, Tryd.ntmps79
  go_wp2_with (fail)
  refine Fi.mono ?_
  rintro e w1 ⟨rfl, hb1⟩
  have hb3 := hb1.alloc hb1.size (.cells #[.string s0, .string s1, .int .i64 k] 84)
  have hM3 := hM.below hb3
  go_wp2_with (at_delete; refine wpList_delete_own _ rfl _ _ 88 9 rfl 84 keyed Tryd.underlying88 filElem b n _ rfl hM3 _ _ rfl (key_mk hs) ?_)
  intro w5 hM5 ht5
  have hg5 := ht5.grown
  rw [del_D] at hM5
  go_wp2
  go_ret
  exact ⟨rfl, hM5, ⟨hg5.os.trans hb3.os, hg5.tape.trans hb3.tape, hg5.output.trans hb3.output, Nat.le_trans hb3.size hg5.size, fun j hj hne => (hg5.block j (by have := hb3.size; omega) hne).trans (hb3.block j hj)⟩⟩
set_option maxHeartbeats 2000000 in
theorem remove_none (b n : Nat) (L : List Fil) (s : ByteArray) (a0 a1 a2 a3 a4 : Addr) (w : World) (hM : MapF w b n L) (hs : s.size ≤ maxLen) (hE : Errs w a0 a1 a2 a3 a4) (hf : findF L s = none) :
    Calls Tryd.prog 79 #[.map (some b), .string s] w fun e w' => e = .returned (errV a2) ∧ Below w.heap.size w w' := by
  have Fi := find_none b n L s a0 a1 a2 a3 a4 w hM hs hE hf
  unfold Fil.val zeroFil at Fi
  simp only at Fi
  go_enter Tryd.func79, Tryd.ntmps79
  go_wp2_with (fail)
  refine Fi.mono ?_
  rintro e w1 ⟨rfl, hb1⟩
  go_wp2
  go_ret
  exact ⟨rfl, hb1.alloc hb1.size _⟩

/-- The world behind FsRemove's boxes and its list of names. -/
def wFsRemove (A : Option Addr) (L : List Fil) (c : Nat) (s : ByteArray) (w : World) : World := (((w.alloc (.cells #[.slice A L.length c] 50)).alloc (.cells #[.string s] 9)).alloc (.cells #[.slice none 0 0, .int .i64 0] 52)).alloc (.cells #[.string s] 9)
theorem wFsRemove_size (A : Option Addr) (L : List Fil) (c : Nat) (s : ByteArray) (w : World) : (wFsRemove A L c s w).heap.size = w.heap.size + 4 := by unfold wFsRemove; simp
theorem wFsRemove_below (A : Option Addr) (L : List Fil) (c : Nat) (s : ByteArray) (w : World) : Below w.heap.size w (wFsRemove A L c s w) := by
  unfold wFsRemove
  exact (((((Below.refl _ _).alloc (Nat.le_refl _) _).alloc (by simp only [World.size_alloc]; omega) _).alloc (by simp only [World.size_alloc]; omega) _).alloc (by simp only [World.size_alloc]; omega) _)
theorem wFsRemove_names (A : Option Addr) (L : List Fil) (c : Nat) (s : ByteArray) (w : World) : StrA (wFsRemove A L c s w) (some ⟨w.heap.size + 3, 0, none⟩) [s] := by
  have h := Blk.fresh (((w.alloc (.cells #[.slice A L.length c] 50)).alloc (.cells #[.string s] 9)).alloc (.cells #[.slice none 0 0, .int .i64 0] 52)) 9 [.string s]
  have hz : (((w.alloc (.cells #[.slice A L.length c] 50)).alloc (.cells #[.string s] 9)).alloc (.cells #[.slice none 0 0, .int .i64 0] 52)).heap.size = w.heap.size + 3 := by simp
  rw [hz] at h
  intro i hi
  refine ⟨_, rfl, ?_⟩
  rw [addr_add0]
  refine Blk.cell (t := 9) (cs := [.string s]) h ?_
  have hi' : i < 1 := hi
  match i, hi' with
  | 0, _ => rfl

theorem wFsRemove_box0 (A : Option Addr) (L : List Fil) (c : Nat) (s : ByteArray) (w : World) : Blk (wFsRemove A L c s w) (w.heap.size + 1) 9 [.string s] := by
  have h := Blk.fresh (w.alloc (.cells #[.slice A L.length c] 50)) 9 [.string s]
  have hz : (w.alloc (.cells #[.slice A L.length c] 50)).heap.size = w.heap.size + 1 := by simp
  rw [hz] at h
  unfold wFsRemove
  exact (h.alloc _).alloc _
theorem wFsRemove_res (A : Option Addr) (L : List Fil) (c : Nat) (s : ByteArray) (w : World) : Blk (wFsRemove A L c s w) (w.heap.size + 2) 52 [.slice none 0 0, .int .i64 0] := by
  have h := Blk.fresh ((w.alloc (.cells #[.slice A L.length c] 50)).alloc (.cells #[.string s] 9)) 52 [.slice none 0 0, .int .i64 0]
  have hz : ((w.alloc (.cells #[.slice A L.length c] 50)).alloc (.cells #[.string s] 9)).heap.size = w.heap.size + 2 := by simp
  rw [hz] at h
  unfold wFsRemove
  exact h.alloc _

set_option maxHeartbeats 4000000 in
theorem implFsRemove_of (A : Option Addr) (L : List Fil) (c : Nat) (s : ByteArray) (w : World) (M : List Fil) (cd : Int)
    (H : Hid (Calls Tryd.prog 71 #[.agg #[.slice A L.length c], .func (.func 78) #[] #[.pointer (some ⟨w.heap.size + 1, 0, none⟩)], .slice (some ⟨w.heap.size + 3, 0, none⟩) 1 1] (wFsRemove A L c s w) fun e w' => ∃ C x, e = .returned (fsOut (.slice C M.length x) cd) ∧ OwnF w' (wFsRemove A L c s w).heap.size (.slice C M.length x) M ∧ Below (wFsRemove A L c s w).heap.size (wFsRemove A L c s w) w')) :
    Calls Tryd.prog 39 #[.agg #[.slice A L.length c], .string s] w fun e w' => ∃ C x, e = .returned (fsOut (.slice C M.length x) cd) ∧ OwnF w' w.heap.size (.slice C M.length x) M ∧ Below w.heap.size w w' := by
  have hsz := wFsRemove_size A L c s w
  have hbw := wFsRemove_below A L c s w
  have hT0 := wFsRemove_res A L c s w
  go_enter Tryd.func39, Tryd.ntmps39
  go_wp2_with (fail)
  refine H.out.mono ?_
  rintro e w1 ⟨C, x, rfl, hO, hb1⟩
  have hT1 := hT0.below hb1 hT0.lt
  have hz1 := hb1.size
  have hw1 := hbw.trans (hb1.mono hbw.size)
  have t0 := hT1.cell (i := 0) rfl
  have t1 := hT1.cell (i := 1) rfl
  have f0 := hT1.froz 0
  have f1 := hT1.froz 1
  go_wp2
  have hp := (hT1.put 0 (.slice C M.length x)).put 1 (.int .i64 cd)
  have k0 := hp.cell (i := 0) rfl
  have k1 := hp.cell (i := 1) rfl
  have hO4 := (OwnF.far (OwnF.far hO (p := ⟨w.heap.size + 2, 0, none⟩) (by rw [hsz]; simp) (.slice C M.length x)) (p := ⟨w.heap.size + 2, 1, none⟩) (by rw [hsz]; simp) (.int .i64 cd))
  refine bodyPost_ret (v := fsOut (.slice C M.length x) cd) (by simp only [results, Tryd.results39]; simp [go_sem, k0, k1]) rfl ⟨C, x, rfl, OwnF.base hO4 (by omega), ?_⟩
  exact (hw1.setCell (by simp only []; omega) _).setCell (by simp only []; omega) _

theorem enters_remove : Enters 78 := enters_of Tryd.func78 (by kernel_rfl) rfl
set_option maxHeartbeats 1000000 in
theorem removeC_ok (p b n : Nat) (L : List Fil) (s : ByteArray) (f : Fil) (w : World) (hp : w.cell? ⟨p, 0, none⟩ = some (.string s)) (hM : MapF w b n L) (hs : s.size ≤ maxLen) (hf : findF L s = some f) :
    Calls Tryd.prog 78 #[.map (some b), .pointer (some ⟨p, 0, none⟩)] w fun e w' => e = .returned .nilIface ∧ MapF w' b n (delL L s) ∧ w.grownBy w' (some b) := by
  go_enter Tryd.func78, Tryd.ntmps78
  go_wp2_with (fail)
  refine (remove_some b n L s f w hM hs hf).mono ?_
  rintro e w1 ⟨rfl, h1, h2⟩
  go_wp2
  go_ret
  exact ⟨rfl, h1, h2⟩
set_option maxHeartbeats 1000000 in
theorem removeC_none (p b n : Nat) (L : List Fil) (s : ByteArray) (a0 a1 a2 a3 a4 : Addr) (w : World) (hp : w.cell? ⟨p, 0, none⟩ = some (.string s)) (hM : MapF w b n L) (hs : s.size ≤ maxLen) (hE : Errs w a0 a1 a2 a3 a4) (hf : findF L s = none) :
    Calls Tryd.prog 78 #[.map (some b), .pointer (some ⟨p, 0, none⟩)] w fun e w' => e = .returned (errV a2) ∧ Below w.heap.size w w' := by
  go_enter Tryd.func78, Tryd.ntmps78
  go_wp2_with (fail)
  refine (remove_none b n L s a0 a1 a2 a3 a4 w hM hs hE hf).mono ?_
  rintro e w1 ⟨rfl, h1⟩
  go_wp2
  go_ret
  exact ⟨rfl, h1⟩

set_option maxHeartbeats 2000000 in
theorem specRemove_err (A : Option Addr) (L : List Fil) (c : Nat) (s : ByteArray) (cd : Int) (w : World) (hL : Fls w w.heap.size A L) (hs : s.size ≤ maxLen) (hc : codeOf L s = cd) (h0 : cd ≠ 0) :
    Calls Tryd.prog 38 #[.agg #[.slice A L.length c], .string s] w fun e w' => ∃ C x, e = .returned (fsOut (.slice C ([] : List Fil).length x) cd) ∧ OwnF w' w.heap.size (.slice C ([] : List Fil).length x) [] ∧ Below w.heap.size w w' := by
  have hT0 := Blk.fresh (w.alloc (.cells #[.slice A L.length c] 50)) 52 [.slice none 0 0, .int .i64 0]
  simp only [World.size_alloc] at hT0
  have hb0 : Below w.heap.size w ((w.alloc (.cells #[.slice A L.length c] 50)).alloc (.cells #[.slice none 0 0, .int .i64 0] 52)) := ((Below.refl _ _).alloc (Nat.le_refl _) _).alloc (by simp) _
  have Be := l03Begin_any A L c s _ ((hL.below hb0 (Nat.le_refl _)).mono hb0.size) hs
  rw [hc] at Be
  have hcb : (cd != 0) = true := by simpa using h0
  go_enter Tryd.func38, Tryd.ntmps38
  go_wp2_with (fail)
  refine Be.mono ?_
  rintro e w1 ⟨k, rfl, _, _, hb1⟩
  have hw1 := hb0.trans (hb1.mono hb0.size)
  have hT1 := hT0.below hb1 hT0.lt
  go_wp2_with (fail)
  refine (ill_any cd _).mono ?_
  rintro e w2 ⟨rfl, hb2⟩
  have hw2 := hw1.trans (hb2.mono hw1.size)
  have hT2 := hT1.below hb2 hT1.lt
  have t0 := hT2.cell (i := 0) rfl
  have t1 := hT2.cell (i := 1) rfl
  have f0 := hT2.froz 0
  have f1 := hT2.froz 1
  go_wp2
  have hp := (hT2.put 0 (.slice none 0 0)).put 1 (.int .i64 cd)
  have k0 := hp.cell (i := 0) rfl
  have k1 := hp.cell (i := 1) rfl
  refine bodyPost_ret (v := fsOut (.slice none 0 0) cd) (by simp only [results, Tryd.results38]; simp [go_sem, k0, k1]) rfl ⟨none, 0, rfl, ownF_nil _ _, ?_⟩
  exact (hw2.setCell (by simp) _).setCell (by simp) _

set_option maxHeartbeats 4000000 in
theorem specRemove_ok (A : Option Addr) (L : List Fil) (c : Nat) (s : ByteArray) (i : Nat) (hi : i < L.length) (w : World) (hL : Fls w w.heap.size A L) (hS : Small L) (hs : s.size ≤ maxLen) (hc : codeOf L s = 0) (hfi : findF L s = some L[i]) (hR : Rising L) (hcc : L.length ≤ c) (hcm : c ≤ maxLen) :
    Calls Tryd.prog 38 #[.agg #[.slice A L.length c], .string s] w fun e w' => ∃ C x, e = .returned (fsOut (.slice C (L.take i ++ L.drop (i + 1)).length x) 0) ∧ OwnF w' w.heap.size (.slice C (L.take i ++ L.drop (i + 1)).length x) (L.take i ++ L.drop (i + 1)) ∧ Below w.heap.size w w' := by
  have hT0 := Blk.fresh (w.alloc (.cells #[.slice A L.length c] 50)) 52 [.slice none 0 0, .int .i64 0]
  have hA0 := (Blk.fresh w 50 [.slice A L.length c]).alloc (.cells #[.slice none 0 0, .int .i64 0] 52)
  simp only [World.size_alloc] at hT0
  have hb0 : Below w.heap.size w ((w.alloc (.cells #[.slice A L.length c] 50)).alloc (.cells #[.slice none 0 0, .int .i64 0] 52)) := ((Below.refl _ _).alloc (Nat.le_refl _) _).alloc (by simp) _
  have hz0 : ((w.alloc (.cells #[.slice A L.length c] 50)).alloc (.cells #[.slice none 0 0, .int .i64 0] 52)).heap.size = w.heap.size + 2 := by simp
  have Be := l03Begin_any A L c s _ ((hL.below hb0 (Nat.le_refl _)).mono hb0.size) hs
  rw [hc] at Be
  have hf : ∀ f ∈ L, f.fits := fun f h => by obtain ⟨i, hi, rfl⟩ := List.getElem_of_mem h; exact (hL.2 i hi).choose_spec.2.2.2.2.2
  go_enter Tryd.func38, Tryd.ntmps38
  go_wp2_with (fail)
  refine Be.mono ?_
  rintro e w1 ⟨k, rfl, hk, _, hb1⟩
  obtain ⟨i', hi', rfl, hf', hn'⟩ := hk (by first | rfl | trivial)
  obtain rfl : i' = i := by
    rw [hfi] at hf'
    rcases Nat.decEq i' i with h | h
    · exact absurd (congrArg Fil.name (Option.some.inj hf')).symm (name_ne hR hi' hi h)
    · exact h
  have hw1 := hb0.trans (hb1.mono hb0.size)
  have hT1 := hT0.below hb1 hT0.lt
  have hA1 := hA0.below hb1 hA0.lt
  have b1 := hA1.cell (i := 0) rfl
  go_wp2_with (fail)
  refine (out_any A L c i' hi' _ ((hL.below hw1 (Nat.le_refl _)).mono hw1.size) hS hcc hcm).mono ?_
  rintro e w2 ⟨C, x, rfl, hO, hb2⟩
  obtain ⟨M, HM⟩ : ∃ M, Hid (L.take i' ++ L.drop (i' + 1) = M) := ⟨_, Lib.hid rfl⟩
  rw [HM.out] at hO ⊢
  clear b1
  have hz1 := hw1.size
  have hz2 := hb2.size
  have hw2 := hw1.trans (hb2.mono hw1.size)
  have hT2 := hT1.below hb2 hT1.lt
  have hTl := hT1.lt
  have t0 := hT2.cell (i := 0) rfl
  have t1 := hT2.cell (i := 1) rfl
  have f0 := hT2.froz 0
  have f1 := hT2.froz 1
  go_wp2
  have hp := (hT2.put 0 (.slice C M.length x)).put 1 (.int .i64 0)
  have k0 := hp.cell (i := 0) rfl
  have k1 := hp.cell (i := 1) rfl
  have hO7 := OwnF.far (OwnF.far hO (p := ⟨w.heap.size + 1, 0, none⟩) (by simp only []; omega) (.slice C M.length x)) (p := ⟨w.heap.size + 1, 1, none⟩) (by simp only []; omega) (.int .i64 0)
  refine bodyPost_ret (v := fsOut (.slice C M.length x) 0) (by simp only [results, Tryd.results38]; simp [go_sem, k0, k1]) rfl ⟨C, x, by rw [HM.out], by rw [HM.out]; exact OwnF.base hO7 (by omega), ?_⟩
  exact (hw2.setCell (by simp) _).setCell (by simp) _

/-- FsRemove: spec and impl answer alike. -/
theorem fsRemove_both (L : List Fil) (s : ByteArray) (a0 a1 a2 a3 a4 : Addr) (hf : ∀ f ∈ L, f.fits) (hS : Small L) (hs : s.size ≤ maxLen) (hs2 : s.size ≤ 1048576) :
    ∃ (M : List Fil) (cd : Int), (∀ f ∈ M, f.fits) ∧ M.length ≤ L.length + 1 ∧
      (∀ W A c, Fls W W.heap.size A L → L.length ≤ c → c ≤ maxLen → Calls Tryd.prog 38 #[.agg #[.slice A L.length c], .string s] W fun e w' => ∃ C x, e = .returned (fsOut (.slice C M.length x) cd) ∧ OwnF w' W.heap.size (.slice C M.length x) M ∧ Below W.heap.size W w') ∧
      (∀ W A c, Fls W W.heap.size A L → Errs W a0 a1 a2 a3 a4 → Calls Tryd.prog 39 #[.agg #[.slice A L.length c], .string s] W fun e w' => ∃ C x, e = .returned (fsOut (.slice C M.length x) cd) ∧ OwnF w' W.heap.size (.slice C M.length x) M ∧ Below W.heap.size W w') := by
  have hsN : ∀ x ∈ [s], x.size ≤ maxLen := by intro x hx; simp at hx; subst hx; exact hs
  have nil : ∀ {f : FuncId} {args : Array Value} {W : World} {cd : Int}, (Calls Tryd.prog f args W fun e w' => e = .returned (fsOut (.slice none 0 0) cd) ∧ Below W.heap.size W w') → Calls Tryd.prog f args W fun e w' => ∃ C x, e = .returned (fsOut (.slice C ([] : List Fil).length x) cd) ∧ OwnF w' W.heap.size (.slice C ([] : List Fil).length x) [] ∧ Below W.heap.size W w' :=
    fun h => h.mono fun e w' ⟨he, hb⟩ => ⟨none, 0, he, ownF_nil _ _, hb⟩
  rcases code_cases L s with ⟨h1, hc⟩ | ⟨h1, h2, hc⟩ | ⟨h1, h2, h3, h4, hc⟩ | ⟨h1, h2, h3, ⟨i, hi, h4, h5⟩, hc⟩
  · refine ⟨[], 2, by simp, by simp, fun W A c hL _ _ => specRemove_err A L c s 2 W hL hs hc (by decide), fun W A c hL hE => implFsRemove_of A L c s W [] 2 (Lib.hid (nil ?_))⟩
    have hb := wFsRemove_below A L c s W
    exact change_long A L c _ [s] 1 _ a0 a1 a2 a3 a4 _ (hE.below hb) (wFsRemove_names A L c s W) (by simp) hsN h1
  · refine ⟨[], 1, by simp, by simp, fun W A c hL _ _ => specRemove_err A L c s 1 W hL hs hc (by decide), fun W A c hL hE => implFsRemove_of A L c s W [] 1 (Lib.hid (nil ?_))⟩
    have hb := wFsRemove_below A L c s W
    exact change_bad A L c _ [s] 1 _ a0 a1 a2 a3 a4 _ (hE.below hb) ((hL.below hb (Nat.le_refl _)).mono hb.size) (wFsRemove_names A L c s W) (by simp) hsN h1 h2
  · refine ⟨[], 6, by simp, by simp, fun W A c hL _ _ => specRemove_err A L c s 6 W hL hs hc (by decide), fun W A c hL hE => implFsRemove_of A L c s W [] 6 (Lib.hid (nil ?_))⟩
    have hb := wFsRemove_below A L c s W
    exact change_err A L c _ [s] 1 78 _ 2 a2 a0 a1 a2 a3 a4 _ (hE.below hb) ((hL.below hb (Nat.le_refl _)).mono hb.size) (wFsRemove_names A L c s W) (by simp) hsN h1 h2 enters_remove rfl
      (Lib.hid fun W2 b n hW2 _ hM _ => removeC_none _ b n L s a0 a1 a2 a3 a4 W2 (((wFsRemove_box0 A L c s W).below hW2 (wFsRemove_box0 A L c s W).lt).cell (i := 0) rfl) hM hs ((hE.below hb).below hW2) h4)
  · have hR := rising_of_ok h3
    have hdel := del_at hR hi
    rw [h5] at hdel
    have hfx : ∀ f ∈ L.take i ++ L.drop (i + 1), f.fits := fun f h => by
      rw [← hdel] at h; exact hf f (del_mem h).1
    have hSx : Small (L.take i ++ L.drop (i + 1)) := by
      refine small_of (L := L) (by have := hS.1; simp; omega) fun g hg => ?_
      rw [← hdel] at hg; exact small_mem hS (del_mem hg).1
    refine ⟨L.take i ++ L.drop (i + 1), 0, hfx, by simp; omega, fun W A c hL h6 h7 => specRemove_ok A L c s i hi W hL hS hs hc h4 hR h6 h7, fun W A c hL hE => implFsRemove_of A L c s W _ 0 (Lib.hid ?_)⟩
    have hb := wFsRemove_below A L c s W
    refine change_ok A L c _ [s] 1 78 _ _ _ ((hL.below hb (Nat.le_refl _)).mono hb.size) (wFsRemove_names A L c s W) (by simp) hsN h1 h2 enters_remove (by rw [← hdel]; exact rising_del hR s) hfx hSx
      (Lib.hid fun W2 b n hW2 _ hM hn => (removeC_ok _ b n L s L[i] W2 (((wFsRemove_box0 A L c s W).below hW2 (wFsRemove_box0 A L c s W).lt).cell (i := 0) rfl) hM hs h4).mono fun e w' ⟨he, hm, hg⟩ => ⟨he, ⟨n, by omega, ?_⟩, hg⟩)
    rw [← hdel]
    exact hm

end Go.Proofs.YtapnmnghdgkbpaaDoor
