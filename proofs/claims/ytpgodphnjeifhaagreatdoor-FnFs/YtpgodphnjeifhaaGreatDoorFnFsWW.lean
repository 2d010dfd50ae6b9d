/- FsRemove: spec and impl answer alike. Contracts of FsRead. FnFs: what a draw of file systems shows of FsAppend, FsRename, FsRemove. -/
import Derived.Test.YtpgodphnjeifhaaGreatDoorFApW
import Derived.Test.YtpgodphnjeifhaaGreatDoorFsHowW
import Derived.Maps.OwnSet
import Derived.Test.YtpgodphnjeifhaaGreatDoorFOpenW
import Derived.Test.YtpgodphnjeifhaaGreatDoorFilCopyW
import Derived.Test.YtpgodphnjeifhaaGreatDoorFreshW
import Derived.Test.YtpgodphnjeifhaaGreatDoorLwFsW
import Derived.Test.YtpgodphnjeifhaaGreatDoorFsMathW
import Derived.Test.YtpgodphnjeifhaaGreatDoorFsRnW
import Derived.Deep.RegionLaw
namespace Go.Proofs.YtpgodphnjeifhaaGreatDoor
open Go.RowKit
set_option linter.unusedVariables false
set_option maxRecDepth 1000000

set_option maxHeartbeats 2000000 in
theorem remove_some (b n : Nat) (L : List Fil) (s : ByteArray) (f : Fil) (w : World) (hM : MapF w b n L) (hs : s.size ≤ maxLen) (hf : findF L s = some f) :
    Calls Tryz.prog 46 #[.map (some b), .string s] w fun e w' => e = .returned .nilIface ∧ MapF w' b n (delL L s) ∧ w.grownBy w' (some b) := by
  have Fi := find_some b n L s f w hM hs hf
  obtain ⟨s0, s1, k⟩ := f
  unfold Fil.val at Fi
  simp only at Fi
  have hbl := World.ownsMap.lt hM
  go_enter Tryz.func46, Tryz.ntmps46
  go_wp2_with (fail)
  refine Fi.mono ?_
  rintro e w1 ⟨rfl, hb1⟩
  have hb3 := hb1.alloc hb1.size (.cells #[.string s0, .string s1, .int .i64 k] 53)
  have hM3 := hM.below hb3
  go_wp2_with (at_delete; refine wpList_delete_own _ rfl _ _ 62 9 rfl 53 keyed Tryz.underlying62 filElem b n _ rfl hM3 _ _ rfl (key_mk hs) ?_)
  intro w5 hM5 ht5
  have hg5 := ht5.grown
  rw [del_D] at hM5
  go_wp2
  go_ret
  exact ⟨rfl, hM5, ⟨hg5.os.trans hb3.os, hg5.tape.trans hb3.tape, hg5.output.trans hb3.output, Nat.le_trans hb3.size hg5.size, fun j hj hne => (hg5.block j (by have := hb3.size; omega) hne).trans (hb3.block j hj)⟩⟩
set_option maxHeartbeats 2000000 in
theorem remove_none (b n : Nat) (L : List Fil) (s : ByteArray) (a0 a1 a2 a3 a4 : Addr) (w : World) (hM : MapF w b n L) (hs : s.size ≤ maxLen) (hE : Errs w a0 a1 a2 a3 a4) (hf : findF L s = none) :
    Calls Tryz.prog 46 #[.map (some b), .string s] w fun e w' => e = .returned (errV a2) ∧ Below w.heap.size w w' := by
  have Fi := find_none b n L s a0 a1 a2 a3 a4 w hM hs hE hf
  unfold Fil.val zeroFil at Fi
  simp only at Fi
  go_enter Tryz.func46, Tryz.ntmps46
  go_wp2_with (fail)
  refine Fi.mono ?_
  rintro e w1 ⟨rfl, hb1⟩
  go_wp2
  go_ret
  exact ⟨rfl, hb1.alloc hb1.size _⟩

/-- The world behind FsRemove's boxes and its list of names. -/
def wFsRemove (A : Option Addr) (L : List Fil) (c : Nat) (s : ByteArray) (w : World) : World := (((w.alloc (.cells #[.slice A L.length c] 25)).alloc (.cells #[.string s] 9)).alloc (.cells #[.slice none 0 0, .int .i64 0] 29)).alloc (.cells #[.string s] 9)
theorem wFsRemove_size (A : Option Addr) (L : List Fil) (c : Nat) (s : ByteArray) (w : World) : (wFsRemove A L c s w).heap.size = w.heap.size + 4 := by unfold wFsRemove; simp
theorem wFsRemove_below (A : Option Addr) (L : List Fil) (c : Nat) (s : ByteArray) (w : World) : Below w.heap.size w (wFsRemove A L c s w) := by
  unfold wFsRemove
  exact (((((Below.refl _ _).alloc (Nat.le_refl _) _).alloc (by simp only [World.size_alloc]; omega) _).alloc (by simp only [World.size_alloc]; omega) _).alloc (by simp only [World.size_alloc]; omega) _)
theorem wFsRemove_names (A : Option Addr) (L : List Fil) (c : Nat) (s : ByteArray) (w : World) : StrA (wFsRemove A L c s w) (some ⟨w.heap.size + 3, 0, none⟩) [s] := by
  have h := Blk.fresh (((w.alloc (.cells #[.slice A L.length c] 25)).alloc (.cells #[.string s] 9)).alloc (.cells #[.slice none 0 0, .int .i64 0] 29)) 9 [.string s]
  have hz : (((w.alloc (.cells #[.slice A L.length c] 25)).alloc (.cells #[.string s] 9)).alloc (.cells #[.slice none 0 0, .int .i64 0] 29)).heap.size = w.heap.size + 3 := by simp
  rw [hz] at h
  intro i hi
  refine ⟨_, rfl, ?_⟩
  rw [addr_add0]
  refine Blk.cell (t := 9) (cs := [.string s]) h ?_
  have hi' : i < 1 := hi
  match i, hi' with
  | 0, _ => rfl

theorem wFsRemove_box0 (A : Option Addr) (L : List Fil) (c : Nat) (s : ByteArray) (w : World) : Blk (wFsRemove A L c s w) (w.heap.size + 1) 9 [.string s] := by
  have h := Blk.fresh (w.alloc (.cells #[.slice A L.length c] 25)) 9 [.string s]
  have hz : (w.alloc (.cells #[.slice A L.length c] 25)).heap.size = w.heap.size + 1 := by simp
  rw [hz] at h
  unfold wFsRemove
  exact (h.alloc _).alloc _
theorem wFsRemove_res (A : Option Addr) (L : List Fil) (c : Nat) (s : ByteArray) (w : World) : Blk (wFsRemove A L c s w) (w.heap.size + 2) 29 [.slice none 0 0, .int .i64 0] := by
  have h := Blk.fresh ((w.alloc (.cells #[.slice A L.length c] 25)).alloc (.cells #[.string s] 9)) 29 [.slice none 0 0, .int .i64 0]
  have hz : ((w.alloc (.cells #[.slice A L.length c] 25)).alloc (.cells #[.string s] 9)).heap.size = w.heap.size + 2 := by simp
  rw [hz] at h
  unfold wFsRemove
  exact h.alloc _

set_option maxHeartbeats 4000000 in
theorem implFsRemove_of (A : Option Addr) (L : List Fil) (c : Nat) (s : ByteArray) (w : World) (M : List Fil) (cd : Int)
    (H : Hid (Calls Tryz.prog 39 #[.agg #[.slice A L.length c], .func (.func 45) #[] #[.pointer (some ⟨w.heap.size + 1, 0, none⟩)], .slice (some ⟨w.heap.size + 3, 0, none⟩) 1 1] (wFsRemove A L c s w) fun e w' => ∃ C x, e = .returned (fsOut (.slice C M.length x) cd) ∧ OwnF w' (wFsRemove A L c s w).heap.size (.slice C M.length x) M ∧ Below (wFsRemove A L c s w).heap.size (wFsRemove A L c s w) w')) :
    Calls Tryz.prog 10 #[.agg #[.slice A L.length c], .string s] w fun e w' => ∃ C x, e = .returned (fsOut (.slice C M.length x) cd) ∧ OwnF w' w.heap.size (.slice C M.length x) M ∧ Below w.heap.size w w' := by
  have hsz := wFsRemove_size A L c s w
  have hbw := wFsRemove_below A L c s w
  have hT0 := wFsRemove_res A L c s w
  go_enter Tryz.func10, Tryz.ntmps10
  go_wp2_with (fail)
  refine H.out.mono ?_
  rintro e w1 ⟨C, x, rfl, hO, hb1⟩
  have hT1 := hT0.below hb1 hT0.lt
  have hz1 := hb1.size
  have hw1 := hbw.trans (hb1.mono hbw.size)
  have t0 := hT1.cell (i := 0) rfl
  have t1 := hT1.cell (i := 1) rfl
  have f0 := hT1.froz 0
  have f1 := hT1.froz 1
  go_wp2
  have hp := (hT1.put 0 (.slice C M.length x)).put 1 (.int .i64 cd)
  have k0 := hp.cell (i := 0) rfl
  have k1 := hp.cell (i := 1) rfl
  have hO4 := (OwnF.far (OwnF.far hO (p := ⟨w.heap.size + 2, 0, none⟩) (by rw [hsz]; simp) (.slice C M.length x)) (p := ⟨w.heap.size + 2, 1, none⟩) (by rw [hsz]; simp) (.int .i64 cd))
  refine bodyPost_ret (v := fsOut (.slice C M.length x) cd) (by simp only [results, Tryz.results10]; simp [go_sem, k0, k1]) rfl ⟨C, x, rfl, OwnF.base hO4 (by omega), ?_⟩
  exact (hw1.setCell (by simp only []; omega) _).setCell (by simp only []; omega) _

theorem enters_remove : Enters 45 := enters_of Tryz.func45 (by kernel_rfl) rfl
set_option maxHeartbeats 1000000 in
theorem removeC_ok (p b n : Nat) (L : List Fil) (s : ByteArray) (f : Fil) (w : World) (hp : w.cell? ⟨p, 0, none⟩ = some (.string s)) (hM : MapF w b n L) (hs : s.size ≤ maxLen) (hf : findF L s = some f) :
    Calls Tryz.prog 45 #[.map (some b), .pointer (some ⟨p, 0, none⟩)] w fun e w' => e = .returned .nilIface ∧ MapF w' b n (delL L s) ∧ w.grownBy w' (some b) := by
  go_enter Tryz.func45, Tryz.ntmps45
  go_wp2_with (fail)
  refine (remove_some b n L s f w hM hs hf).mono ?_
  rintro e w1 ⟨rfl, h1, h2⟩
  go_wp2
  go_ret
  exact ⟨rfl, h1, h2⟩
set_option maxHeartbeats 1000000 in
theorem removeC_none (p b n : Nat) (L : List Fil) (s : ByteArray) (a0 a1 a2 a3 a4 : Addr) (w : World) (hp : w.cell? ⟨p, 0, none⟩ = some (.string s)) (hM : MapF w b n L) (hs : s.size ≤ maxLen) (hE : Errs w a0 a1 a2 a3 a4) (hf : findF L s = none) :
    Calls Tryz.prog 45 #[.map (some b), .pointer (some ⟨p, 0, none⟩)] w fun e w' => e = .returned (errV a2) ∧ Below w.heap.size w w' := by
  go_enter Tryz.func45, Tryz.ntmps45
  go_wp2_with (fail)
  refine (remove_none b n L s a0 a1 a2 a3 a4 w hM hs hE hf).mono ?_
  rintro e w1 ⟨rfl, h1⟩
  go_wp2
  go_ret
  exact ⟨rfl, h1⟩

set_option maxHeartbeats 2000000 in
theorem specRemove_err (A : Option Addr) (L : List Fil) (c : Nat) (s : ByteArray) (cd : Int) (w : World) (hL : Fls w w.heap.size A L) (hs : s.size ≤ maxLen) (hc : codeOf L s = cd) (h0 : cd ≠ 0) :
    Calls Tryz.prog 15 #[.agg #[.slice A L.length c], .string s] w fun e w' => ∃ C x, e = .returned (fsOut (.slice C ([] : List Fil).length x) cd) ∧ OwnF w' w.heap.size (.slice C ([] : List Fil).length x) [] ∧ Below w.heap.size w w' := by
  have hT0 := Blk.fresh (w.alloc (.cells #[.slice A L.length c] 25)) 29 [.slice none 0 0, .int .i64 0]
  simp only [World.size_alloc] at hT0
  have hb0 : Below w.heap.size w ((w.alloc (.cells #[.slice A L.length c] 25)).alloc (.cells #[.slice none 0 0, .int .i64 0] 29)) := ((Below.refl _ _).alloc (Nat.le_refl _) _).alloc (by simp) _
  have Be := l03Begin_any A L c s _ ((hL.below hb0 (Nat.le_refl _)).mono hb0.size) hs
  rw [hc] at Be
  have hcb : (cd != 0) = true := by simpa using h0
  go_enter Tryz.func15, Tryz.ntmps15
  go_wp2_with (fail)
  refine Be.mono ?_
  rintro e w1 ⟨k, rfl, _, _, hb1⟩
  have hw1 := hb0.trans (hb1.mono hb0.size)
  have hT1 := hT0.below hb1 hT0.lt
  go_wp2_with (fail)
  refine (ill_any cd _).mono ?_
  rintro e w2 ⟨rfl, hb2⟩
  have hw2 := hw1.trans (hb2.mono hw1.size)
  have hT2 := hT1.below hb2 hT1.lt
  have t0 := hT2.cell (i := 0) rfl
  have t1 := hT2.cell (i := 1) rfl
  have f0 := hT2.froz 0
  have f1 := hT2.froz 1
  go_wp2
  have hp := (hT2.put 0 (.slice none 0 0)).put 1 (.int .i64 cd)
  have k0 := hp.cell (i := 0) rfl
  have k1 := hp.cell (i := 1) rfl
  refine bodyPost_ret (v := fsOut (.slice none 0 0) cd) (by simp only [results, Tryz.results15]; simp [go_sem, k0, k1]) rfl ⟨none, 0, rfl, ownF_nil _ _, ?_⟩
  exact (hw2.setCell (by simp) _).setCell (by simp) _

set_option maxHeartbeats 4000000 in
theorem specRemove_ok (A : Option Addr) (L : List Fil) (c : Nat) (s : ByteArray) (i : Nat) (hi : i < L.length) (w : World) (hL : Fls w w.heap.size A L) (hS : Small L) (hs : s.size ≤ maxLen) (hc : codeOf L s = 0) (hfi : findF L s = some L[i]) (hR : Rising L) (hcc : L.length ≤ c) (hcm : c ≤ maxLen) :
    Calls Tryz.prog 15 #[.agg #[.slice A L.length c], .string s] w fun e w' => ∃ C x, e = .returned (fsOut (.slice C (L.take i ++ L.drop (i + 1)).length x) 0) ∧ OwnF w' w.heap.size (.slice C (L.take i ++ L.drop (i + 1)).length x) (L.take i ++ L.drop (i + 1)) ∧ Below w.heap.size w w' := by
  have hT0 := Blk.fresh (w.alloc (.cells #[.slice A L.length c] 25)) 29 [.slice none 0 0, .int .i64 0]
  have hA0 := (Blk.fresh w 25 [.slice A L.length c]).alloc (.cells #[.slice none 0 0, .int .i64 0] 29)
  simp only [World.size_alloc] at hT0
  have hb0 : Below w.heap.size w ((w.alloc (.cells #[.slice A L.length c] 25)).alloc (.cells #[.slice none 0 0, .int .i64 0] 29)) := ((Below.refl _ _).alloc (Nat.le_refl _) _).alloc (by simp) _
  have hz0 : ((w.alloc (.cells #[.slice A L.length c] 25)).alloc (.cells #[.slice none 0 0, .int .i64 0] 29)).heap.size = w.heap.size + 2 := by simp
  have Be := l03Begin_any A L c s _ ((hL.below hb0 (Nat.le_refl _)).mono hb0.size) hs
  rw [hc] at Be
  have hf : ∀ f ∈ L, f.fits := fun f h => by obtain ⟨i, hi, rfl⟩ := List.getElem_of_mem h; exact (hL.2 i hi).choose_spec.2.2.2.2.2
  go_enter Tryz.func15, Tryz.ntmps15
  go_wp2_with (fail)
  refine Be.mono ?_
  rintro e w1 ⟨k, rfl, hk, _, hb1⟩
  obtain ⟨i', hi', rfl, hf', hn'⟩ := hk (by first | rfl | trivial)
  obtain rfl : i' = i := by
    rw [hfi] at hf'
    rcases Nat.decEq i' i with h | h
    · exact absurd (congrArg Fil.name (Option.some.inj hf')).symm (name_ne hR hi' hi h)
    · exact h
  have hw1 := hb0.trans (hb1.mono hb0.size)
  have hT1 := hT0.below hb1 hT0.lt
  have hA1 := hA0.below hb1 hA0.lt
  have b1 := hA1.cell (i := 0) rfl
  go_wp2_with (fail)
  refine (out_any A L c i' hi' _ ((hL.below hw1 (Nat.le_refl _)).mono hw1.size) hS hcc hcm).mono ?_
  rintro e w2 ⟨C, x, rfl, hO, hb2⟩
  obtain ⟨M, HM⟩ : ∃ M, Hid (L.take i' ++ L.drop (i' + 1) = M) := ⟨_, Lib.hid rfl⟩
  rw [HM.out] at hO ⊢
  clear b1
  have hz1 := hw1.size
  have hz2 := hb2.size
  have hw2 := hw1.trans (hb2.mono hw1.size)
  have hT2 := hT1.below hb2 hT1.lt
  have hTl := hT1.lt
  have t0 := hT2.cell (i := 0) rfl
  have t1 := hT2.cell (i := 1) rfl
  have f0 := hT2.froz 0
  have f1 := hT2.froz 1
  go_wp2
  have hp := (hT2.put 0 (.slice C M.length x)).put 1 (.int .i64 0)
  have k0 := hp.cell (i := 0) rfl
  have k1 := hp.cell (i := 1) rfl
  have hO7 := OwnF.far (OwnF.far hO (p := ⟨w.heap.size + 1, 0, none⟩) (by simp only []; omega) (.slice C M.length x)) (p := ⟨w.heap.size + 1, 1, none⟩) (by simp only []; omega) (.int .i64 0)
  refine bodyPost_ret (v := fsOut (.slice C M.length x) 0) (by simp only [results, Tryz.results15]; simp [go_sem, k0, k1]) rfl ⟨C, x, by rw [HM.out], by rw [HM.out]; exact OwnF.base hO7 (by omega), ?_⟩
  exact (hw2.setCell (by simp) _).setCell (by simp) _

/-- FsRemove: spec and impl answer alike. -/
theorem fsRemove_bothH (L : List Fil) (s : ByteArray) (a0 a1 a2 a3 a4 : Addr) (hf : ∀ f ∈ L, f.fits) (hS : Small L) (hs : s.size ≤ maxLen) (hs2 : s.size ≤ 1048576) :
    ∃ (M : List Fil) (cd : Int), (∀ f ∈ M, f.fits) ∧ M.length ≤ L.length + 1 ∧ (Small M ∧ (cd = 0 → RmHow L s M)) ∧
      (∀ W A c, Fls W W.heap.size A L → L.length ≤ c → c ≤ maxLen → Calls Tryz.prog 15 #[.agg #[.slice A L.length c], .string s] W fun e w' => ∃ C x, e = .returned (fsOut (.slice C M.length x) cd) ∧ OwnF w' W.heap.size (.slice C M.length x) M ∧ Below W.heap.size W w') ∧
      (∀ W A c, Fls W W.heap.size A L → Errs W a0 a1 a2 a3 a4 → Calls Tryz.prog 10 #[.agg #[.slice A L.length c], .string s] W fun e w' => ∃ C x, e = .returned (fsOut (.slice C M.length x) cd) ∧ OwnF w' W.heap.size (.slice C M.length x) M ∧ Below W.heap.size W w') := by
  have hsN : ∀ x ∈ [s], x.size ≤ maxLen := by intro x hx; simp at hx; subst hx; exact hs
  have nil : ∀ {f : FuncId} {args : Array Value} {W : World} {cd : Int}, (Calls Tryz.prog f args W fun e w' => e = .returned (fsOut (.slice none 0 0) cd) ∧ Below W.heap.size W w') → Calls Tryz.prog f args W fun e w' => ∃ C x, e = .returned (fsOut (.slice C ([] : List Fil).length x) cd) ∧ OwnF w' W.heap.size (.slice C ([] : List Fil).length x) [] ∧ Below W.heap.size W w' :=
    fun h => h.mono fun e w' ⟨he, hb⟩ => ⟨none, 0, he, ownF_nil _ _, hb⟩
  rcases code_cases L s with ⟨h1, hc⟩ | ⟨h1, h2, hc⟩ | ⟨h1, h2, h3, h4, hc⟩ | ⟨h1, h2, h3, ⟨i, hi, h4, h5⟩, hc⟩
  · refine ⟨[], 2, by simp, by simp, ⟨small_nil, fun h => absurd h (by decide)⟩, fun W A c hL _ _ => specRemove_err A L c s 2 W hL hs hc (by decide), fun W A c hL hE => implFsRemove_of A L c s W [] 2 (Lib.hid (nil ?_))⟩
    have hb := wFsRemove_below A L c s W
    exact change_long A L c _ [s] 1 _ a0 a1 a2 a3 a4 _ (hE.below hb) (wFsRemove_names A L c s W) (by simp) hsN h1
  · refine ⟨[], 1, by simp, by simp, ⟨small_nil, fun h => absurd h (by decide)⟩, fun W A c hL _ _ => specRemove_err A L c s 1 W hL hs hc (by decide), fun W A c hL hE => implFsRemove_of A L c s W [] 1 (Lib.hid (nil ?_))⟩
    have hb := wFsRemove_below A L c s W
    exact change_bad A L c _ [s] 1 _ a0 a1 a2 a3 a4 _ (hE.below hb) ((hL.below hb (Nat.le_refl _)).mono hb.size) (wFsRemove_names A L c s W) (by simp) hsN h1 h2
  · refine ⟨[], 6, by simp, by simp, ⟨small_nil, fun h => absurd h (by decide)⟩, fun W A c hL _ _ => specRemove_err A L c s 6 W hL hs hc (by decide), fun W A c hL hE => implFsRemove_of A L c s W [] 6 (Lib.hid (nil ?_))⟩
    have hb := wFsRemove_below A L c s W
    exact change_err A L c _ [s] 1 45 _ 2 a2 a0 a1 a2 a3 a4 _ (hE.below hb) ((hL.below hb (Nat.le_refl _)).mono hb.size) (wFsRemove_names A L c s W) (by simp) hsN h1 h2 enters_remove rfl
      (Lib.hid fun W2 b n hW2 _ hM _ => removeC_none _ b n L s a0 a1 a2 a3 a4 W2 (((wFsRemove_box0 A L c s W).below hW2 (wFsRemove_box0 A L c s W).lt).cell (i := 0) rfl) hM hs ((hE.below hb).below hW2) h4)
  · have hR := rising_of_ok h3
    have hdel := del_at hR hi
    rw [h5] at hdel
    have hfx : ∀ f ∈ L.take i ++ L.drop (i + 1), f.fits := fun f h => by
      rw [← hdel] at h; exact hf f (del_mem h).1
    have hSx : Small (L.take i ++ L.drop (i + 1)) := by
      refine small_of (L := L) (by have := hS.1; simp; omega) fun g hg => ?_
      rw [← hdel] at hg; exact small_mem hS (del_mem hg).1
    refine ⟨L.take i ++ L.drop (i + 1), 0, hfx, by simp; omega, ⟨hSx, fun _ => ⟨h3, L[i], h4, hdel.symm⟩⟩, fun W A c hL h6 h7 => specRemove_ok A L c s i hi W hL hS hs hc h4 hR h6 h7, fun W A c hL hE => implFsRemove_of A L c s W _ 0 (Lib.hid ?_)⟩
    have hb := wFsRemove_below A L c s W
    refine change_ok A L c _ [s] 1 45 _ _ _ ((hL.below hb (Nat.le_refl _)).mono hb.size) (wFsRemove_names A L c s W) (by simp) hsN h1 h2 enters_remove (by rw [← hdel]; exact rising_del hR s) hfx hSx
      (Lib.hid fun W2 b n hW2 _ hM hn => (removeC_ok _ b n L s L[i] W2 (((wFsRemove_box0 A L c s W).below hW2 (wFsRemove_box0 A L c s W).lt).cell (i := 0) rfl) hM hs h4).mono fun e w' ⟨he, hm, hg⟩ => ⟨he, ⟨n, by omega, ?_⟩, hg⟩)
    rw [← hdel]
    exact hm
theorem fsRemove_both (L : List Fil) (s : ByteArray) (a0 a1 a2 a3 a4 : Addr) (hf : ∀ f ∈ L, f.fits) (hS : Small L) (hs : s.size ≤ maxLen) (hs2 : s.size ≤ 1048576) :
    ∃ (M : List Fil) (cd : Int), (∀ f ∈ M, f.fits) ∧ M.length ≤ L.length + 1 ∧ Small M ∧
      (∀ W A c, Fls W W.heap.size A L → L.length ≤ c → c ≤ maxLen → Calls Tryz.prog 15 #[.agg #[.slice A L.length c], .string s] W fun e w' => ∃ C x, e = .returned (fsOut (.slice C M.length x) cd) ∧ OwnF w' W.heap.size (.slice C M.length x) M ∧ Below W.heap.size W w') ∧
      (∀ W A c, Fls W W.heap.size A L → Errs W a0 a1 a2 a3 a4 → Calls Tryz.prog 10 #[.agg #[.slice A L.length c], .string s] W fun e w' => ∃ C x, e = .returned (fsOut (.slice C M.length x) cd) ∧ OwnF w' W.heap.size (.slice C M.length x) M ∧ Below W.heap.size W w') := by
  obtain ⟨M, cd, h1, h2, h3, h4⟩ := fsRemove_bothH L s a0 a1 a2 a3 a4 hf hS hs hs2
  exact ⟨M, cd, h1, h2, h3.1, h4⟩

end Go.Proofs.YtpgodphnjeifhaaGreatDoor

namespace Go.Proofs.YtpgodphnjeifhaaGreatDoor
open Go.RowKit
set_option linter.unusedVariables false
set_option maxRecDepth 1000000

/-- A TextOut. -/
def tout (t : ByteArray) (code : Int) : Value := .agg #[.string t, .int .i64 0, .int .i64 code]
/-- The text that FsRead answers. -/
noncomputable def readT (L : List Fil) (s : ByteArray) : ByteArray := if codeOf L s = 0 then (match findF L s with | some f => f.data | none => ⟨#[]⟩) else ⟨#[]⟩

set_option maxHeartbeats 1000000 in
set_option maxRecDepth 1000000 in
theorem specRead_any (A : Option Addr) (L : List Fil) (c : Nat) (s : ByteArray) (w : World) (hL : Fls w w.heap.size A L) (hs : s.size ≤ maxLen) :
    Calls Tryz.prog 16 #[.agg #[.slice A L.length c], .string s] w fun e w' => e = .returned (tout (readT L s) (codeOf L s)) ∧ Below w.heap.size w w' := by
  have hn := hL.1
  unfold maxLen at hn
  have hB0 := (Blk.fresh w 25 [.slice A L.length c]).alloc (.cells #[.string ⟨#[]⟩, .int .i64 0, .int .i64 0] 35)
  have hT0 := Blk.fresh (w.alloc (.cells #[.slice A L.length c] 25)) 35 [.string ⟨#[]⟩, .int .i64 0, .int .i64 0]
  simp only [World.size_alloc] at hT0
  have hb0 : Below w.heap.size w ((w.alloc (.cells #[.slice A L.length c] 25)).alloc (.cells #[.string ⟨#[]⟩, .int .i64 0, .int .i64 0] 35)) := ((Below.refl _ _).alloc (Nat.le_refl _) _).alloc (by simp) _
  have Bg := l03Begin_any A L c s _ ((hL.below hb0 (Nat.le_refl _)).mono hb0.size) hs
  obtain ⟨cd, HC⟩ : ∃ cd, Hid (codeOf L s = cd) := ⟨_, Lib.hid rfl⟩
  obtain ⟨T, HT⟩ : ∃ T, Hid (readT L s = T) := ⟨_, Lib.hid rfl⟩
  rw [HC.out] at Bg ⊢
  rw [HT.out]
  unfold tout
  go_enter Tryz.func16, Tryz.ntmps16
  go_wp2_with (fail)
  refine Bg.mono ?_
  rintro e w1 ⟨k, rfl, h0, _, hb1⟩
  have hw1 := hb0.trans (hb1.mono hb0.size)
  have hB1 := hB0.below hb1 hB0.lt
  have hT1 := hT0.below hb1 hT0.lt
  have b1 := hB1.cell (i := 0) rfl
  have t0 := hT1.cell (i := 0) rfl
  have t1 := hT1.cell (i := 1) rfl
  have t2 := hT1.cell (i := 2) rfl
  have f0 := hT1.froz 0
  have f1 := hT1.froz 1
  have f2 := hT1.froz 2
  by_cases hc : cd = 0
  · subst hc
    obtain ⟨i, hi, rfl, hf, hnm⟩ := h0 rfl
    obtain ⟨a, rfl, hab, c0, c1, c2, hff⟩ := (hL.below hw1 (Nat.le_refl _)).at i hi
    have HT2 : L[i].data = T := by rw [← HT.out]; unfold readT; rw [HC.out, if_pos rfl, hf]
    rw [HT2] at c1
    have hlt' : (i : Int) < (L.length : Int) := by omega
    go_wp2
    have hp := ((hT1.put 0 (.string T)).put 1 (.int .i64 0)).put 2 (.int .i64 0)
    have k0 := hp.cell (i := 0) rfl
    have k1 := hp.cell (i := 1) rfl
    have k2 := hp.cell (i := 2) rfl
    refine bodyPost_ret (v := .agg #[.string T, .int .i64 0, .int .i64 0]) (by simp only [results, Tryz.results16]; simp [go_sem, k0, k1, k2]) rfl ⟨rfl, ?_⟩
    exact ((hw1.setCell (by simp) _).setCell (by simp) _).setCell (by simp) _
  · have HT2 : T = ⟨#[]⟩ := by rw [← HT.out]; unfold readT; rw [HC.out, if_neg hc]
    subst HT2
    have hc' : (cd == 0) = false := by simpa using hc
    go_wp2
    have hp := ((hT1.put 0 (.string ⟨#[]⟩)).put 1 (.int .i64 0)).put 2 (.int .i64 cd)
    have k0 := hp.cell (i := 0) rfl
    have k1 := hp.cell (i := 1) rfl
    have k2 := hp.cell (i := 2) rfl
    refine bodyPost_ret (v := .agg #[.string ⟨#[]⟩, .int .i64 0, .int .i64 cd]) (by simp only [results, Tryz.results16]; simp [go_sem, k0, k1, k2]) rfl ⟨rfl, ?_⟩
    exact ((hw1.setCell (by simp) _).setCell (by simp) _).setCell (by simp) _

theorem strA_one (w : World) (s : ByteArray) : StrA (w.alloc (.cells #[.string s] 9)) (some ⟨w.heap.size, 0, none⟩) [s] := by
  intro i hi
  have : i = 0 := by simp at hi; omega
  subst this
  exact ⟨_, rfl, by have := (Blk.fresh w 9 [.string s]).cell (i := 0) rfl; exact this⟩


set_option maxHeartbeats 2000000 in
set_option maxRecDepth 1000000 in
theorem implRead_any (A : Option Addr) (L : List Fil) (c : Nat) (s : ByteArray) (a0 a1 a2 a3 a4 : Addr) (w : World) (hL : Fls w w.heap.size A L) (hS : Small L) (hs : s.size ≤ maxLen) (hE : Errs w a0 a1 a2 a3 a4) :
    Calls Tryz.prog 11 #[.agg #[.slice A L.length c], .string s] w fun e w' => e = .returned (tout (readT L s) (codeOf L s)) ∧ Below w.heap.size w w' := by
  have hn := hL.1
  unfold maxLen at hn
  have hT0 := (Blk.fresh (w.alloc (.cells #[.slice A L.length c] 25)) 35 [.string ⟨#[]⟩, .int .i64 0, .int .i64 0]).alloc (.cells #[.string s] 9)
  simp only [World.size_alloc] at hT0
  have hb0 : Below w.heap.size w (((w.alloc (.cells #[.slice A L.length c] 25)).alloc (.cells #[.string ⟨#[]⟩, .int .i64 0, .int .i64 0] 35)).alloc (.cells #[.string s] 9)) := (((Below.refl _ _).alloc (Nat.le_refl _) _).alloc (by simp) _).alloc (by simp; omega) _
  have hN := strA_one ((w.alloc (.cells #[.slice A L.length c] 25)).alloc (.cells #[.string ⟨#[]⟩, .int .i64 0, .int .i64 0] 35)) s
  simp only [World.size_alloc] at hN
  have hsN : ∀ x ∈ [s], x.size ≤ maxLen := by intro x hx; simp at hx; subst hx; exact hs
  have hL0 := (hL.below hb0 (Nat.le_refl _)).mono hb0.size
  have hE0 := hE.below hb0
  obtain ⟨cd, HC⟩ : ∃ cd, Hid (codeOf L s = cd) := ⟨_, Lib.hid rfl⟩
  obtain ⟨T, HT⟩ : ∃ T, Hid (readT L s = T) := ⟨_, Lib.hid rfl⟩
  rw [HC.out, HT.out]
  unfold tout
  rcases Bool.eq_false_or_eq_true (anyLong [s]) with hlong | hlong
  · have e1 : cd = 2 := by rw [← HC.out]; unfold codeOf; rw [any_one] at hlong; rw [if_pos (by simpa using hlong)]
    have e2 : T = ⟨#[]⟩ := by rw [← HT.out]; unfold readT; rw [HC.out, if_neg (by rw [e1]; decide)]
    subst e1 e2
    have O := open_long A L c (some ⟨w.heap.size + 1 + 1, 0, none⟩) [s] 1 a0 a1 a2 a3 a4 _ hE0 hN (by simp) hsN hlong
    go_enter Tryz.func11, Tryz.ntmps11
    go_wp2_with (fail)
    refine O.mono ?_
    rintro e w1 ⟨rfl, hb1⟩
    have hw1 := hb0.trans (hb1.mono hb0.size)
    have hT1 := hT0.below hb1 hT0.lt
    have F := fileCode_any a0 a1 a2 a3 a4 w1 (hE0.below hb1) 0 a0 rfl
    have t0 := hT1.cell (i := 0) rfl
    have t1 := hT1.cell (i := 1) rfl
    have t2 := hT1.cell (i := 2) rfl
    have f0 := hT1.froz 0
    have f1 := hT1.froz 1
    have f2 := hT1.froz 2
    go_wp2_with (fail)
    refine F.mono ?_
    rintro e w2 ⟨rfl, rfl⟩
    go_wp2
    have hp := ((hT1.put 0 (.string ⟨#[]⟩)).put 1 (.int .i64 0)).put 2 (.int .i64 2)
    have k0 := hp.cell (i := 0) rfl
    have k1 := hp.cell (i := 1) rfl
    have k2 := hp.cell (i := 2) rfl
    refine bodyPost_ret (v := .agg #[.string ⟨#[]⟩, .int .i64 0, .int .i64 2]) (by simp only [results, Tryz.results11]; simp [go_sem, k0, k1, k2]) rfl ⟨rfl, ?_⟩
    exact ((hw1.setCell (by simp) _).setCell (by simp) _).setCell (by simp) _
  · rcases Bool.eq_false_or_eq_true (openOK L [s]) with hgood | hbad
    · have hl2 : ¬ 20000 < s.size := by rw [any_one] at hlong; simpa using hlong
      have hg2 : (fsOK L && nameB s) = true := by rw [← open_one]; exact hgood
      have O := open_ok A L c (some ⟨w.heap.size + 1 + 1, 0, none⟩) [s] 1 _ hL0 hN (by simp) hsN hlong hgood
      go_enter Tryz.func11, Tryz.ntmps11
      go_wp2_with (fail)
      refine O.mono ?_
      rintro e w1 ⟨b, rfl, hM, hbb, hb1⟩
      have hw1 := hb0.trans (hb1.mono hb0.size)
      have hT1 := hT0.below hb1 hT0.lt
      have hE1 := hE0.below hb1
      cases hf : findF L s with
      | none =>
        have e1 : cd = 6 := by rw [← HC.out]; unfold codeOf; rw [if_neg hl2, if_neg (by rw [hg2]; simp), if_pos hf]
        have e2 : T = ⟨#[]⟩ := by rw [← HT.out]; unfold readT; rw [HC.out, if_neg (by rw [e1]; decide)]
        subst e1 e2
        go_wp2_with (fail)
        refine (find_none b _ L s a0 a1 a2 a3 a4 _ hM hs hE1 hf).mono ?_
        rintro e w2 ⟨rfl, hb2⟩
        have hw2 := hw1.trans (hb2.mono hw1.size)
        have hT2 := hT1.below hb2 hT1.lt
        have hb3 : Below w2.heap.size w2 (w2.alloc (.cells #[.string ⟨#[]⟩, .string ⟨#[]⟩, .int .i64 0] 53)) := (Below.refl _ _).alloc (Nat.le_refl _) _
        have hw3 := hw2.trans (hb3.mono hw2.size)
        have hT3 := hT2.below hb3 hT2.lt
        have F := fileCode_any a0 a1 a2 a3 a4 _ ((hE1.below hb2).below hb3) 2 a2 rfl
        have t0 := hT3.cell (i := 0) rfl
        have t1 := hT3.cell (i := 1) rfl
        have t2 := hT3.cell (i := 2) rfl
        have f0 := hT3.froz 0
        have f1 := hT3.froz 1
        have f2 := hT3.froz 2
        unfold Fil.val zeroFil
        go_wp2_with (fail)
        refine F.mono ?_
        rintro e w4 ⟨rfl, rfl⟩
        go_wp2
        have hp := ((hT3.put 0 (.string ⟨#[]⟩)).put 1 (.int .i64 0)).put 2 (.int .i64 6)
        have k0 := hp.cell (i := 0) rfl
        have k1 := hp.cell (i := 1) rfl
        have k2 := hp.cell (i := 2) rfl
        refine bodyPost_ret (v := .agg #[.string ⟨#[]⟩, .int .i64 0, .int .i64 6]) (by simp only [results, Tryz.results11]; simp [go_sem, k0, k1, k2]) rfl ⟨rfl, ?_⟩
        exact ((hw3.setCell (by simp) _).setCell (by simp) _).setCell (by simp) _
      | some g =>
        obtain ⟨i, hi, hig⟩ : ∃ (i : Nat) (h : i < L.length), L[i] = g := List.getElem_of_mem (List.mem_of_find?_eq_some hf)
        have hgd : g.data.size ≤ 1048576 := by rw [← hig]; exact (hS.2 i hi).2
        have e1 : cd = 0 := by rw [← HC.out]; unfold codeOf; rw [if_neg hl2, if_neg (by rw [hg2]; simp), hf, if_neg (by simp)]
        have e2 : T = g.data := by rw [← HT.out]; unfold readT; rw [HC.out, if_pos e1, hf]
        subst e1 e2
        go_wp2_with (fail)
        refine (find_some b _ L s g _ hM hs hf).mono ?_
        rintro e w2 ⟨rfl, hb2⟩
        have hw2 := hw1.trans (hb2.mono hw1.size)
        have hT2 := hT1.below hb2 hT1.lt
        have hb3 : Below w2.heap.size w2 (w2.alloc (.cells #[.string g.name, .string g.data, .int .i64 g.sync] 53)) := (Below.refl _ _).alloc (Nat.le_refl _) _
        have hw3 := hw2.trans (hb3.mono hw2.size)
        have hT3 := hT2.below hb3 hT2.lt
        unfold Fil.val
        go_wp2_with (fail)
        refine (clone_any g.data _ hgd).mono ?_
        rintro e w4 ⟨rfl, hb4⟩
        have hw4 := hw3.trans (hb4.mono hw3.size)
        have hT4 := hT3.below hb4 hT3.lt
        have t0 := hT4.cell (i := 0) rfl
        have t1 := hT4.cell (i := 1) rfl
        have t2 := hT4.cell (i := 2) rfl
        have f0 := hT4.froz 0
        have f1 := hT4.froz 1
        have f2 := hT4.froz 2
        go_wp2
        have hp := ((hT4.put 0 (.string g.data)).put 1 (.int .i64 0)).put 2 (.int .i64 0)
        have k0 := hp.cell (i := 0) rfl
        have k1 := hp.cell (i := 1) rfl
        have k2 := hp.cell (i := 2) rfl
        refine bodyPost_ret (v := .agg #[.string g.data, .int .i64 0, .int .i64 0]) (by simp only [results, Tryz.results11]; simp [go_sem, k0, k1, k2]) rfl ⟨rfl, ?_⟩
        exact ((hw4.setCell (by simp) _).setCell (by simp) _).setCell (by simp) _
    · have hl2 : ¬ 20000 < s.size := by rw [any_one] at hlong; simpa using hlong
      have e1 : cd = 1 := by rw [← HC.out]; unfold codeOf; rw [open_one] at hbad; rw [if_neg hl2, if_pos hbad]
      have e2 : T = ⟨#[]⟩ := by rw [← HT.out]; unfold readT; rw [HC.out, if_neg (by rw [e1]; decide)]
      subst e1 e2
      have O := open_bad A L c (some ⟨w.heap.size + 1 + 1, 0, none⟩) [s] 1 a0 a1 a2 a3 a4 _ hE0 hL0 hN (by simp) hsN hlong hbad
      go_enter Tryz.func11, Tryz.ntmps11
      go_wp2_with (fail)
      refine O.mono ?_
      rintro e w1 ⟨rfl, hb1⟩
      have hw1 := hb0.trans (hb1.mono hb0.size)
      have hT1 := hT0.below hb1 hT0.lt
      have F := fileCode_any a0 a1 a2 a3 a4 w1 (hE0.below hb1) 1 a1 rfl
      have t0 := hT1.cell (i := 0) rfl
      have t1 := hT1.cell (i := 1) rfl
      have t2 := hT1.cell (i := 2) rfl
      have f0 := hT1.froz 0
      have f1 := hT1.froz 1
      have f2 := hT1.froz 2
      go_wp2_with (fail)
      refine F.mono ?_
      rintro e w2 ⟨rfl, rfl⟩
      go_wp2
      have hp := ((hT1.put 0 (.string ⟨#[]⟩)).put 1 (.int .i64 0)).put 2 (.int .i64 1)
      have k0 := hp.cell (i := 0) rfl
      have k1 := hp.cell (i := 1) rfl
      have k2 := hp.cell (i := 2) rfl
      refine bodyPost_ret (v := .agg #[.string ⟨#[]⟩, .int .i64 0, .int .i64 1]) (by simp only [results, Tryz.results11]; simp [go_sem, k0, k1, k2]) rfl ⟨rfl, ?_⟩
      exact ((hw1.setCell (by simp) _).setCell (by simp) _).setCell (by simp) _
end Go.Proofs.YtpgodphnjeifhaaGreatDoor

namespace Go.Proofs.YtpgodphnjeifhaaGreatDoor
open Go.RowKit
set_option linter.unusedVariables false
set_option maxRecDepth 1000000

/-- What is known of a world: rows of files, blocks known whole. -/
def Good (F : List (Option Addr × List Fil)) (B : List (Nat × TypeId × List Value)) (W : World) : Prop := (∀ p ∈ F, Fls W W.heap.size p.1 p.2) ∧ ∀ b ∈ B, Blk W b.1 b.2.1 b.2.2
theorem Good.up {F : List (Option Addr × List Fil)} {B : List (Nat × TypeId × List Value)} {W W' : World} (h : Good F B W) (hb : Below W.heap.size W W') : Good F B W' :=
  ⟨fun p hp => ((h.1 p hp).below hb (Nat.le_refl _)).mono hb.size, fun b hp => (h.2 b hp).below hb (h.2 b hp).lt⟩
theorem Good.drew {F : List (Option Addr × List Fil)} {B : List (Nat × TypeId × List Value)} {W : World} (h : Good F B W) : Good F B W.drew := h.up (below_drew (Below.refl _ _))
theorem Good.drewN {F : List (Option Addr × List Fil)} {B : List (Nat × TypeId × List Value)} {W : World} (h : Good F B W) (n : Nat) : Good F B (W.drewN n) := h.up (below_drewN (Below.refl _ _) n)
theorem Good.cons {F : List (Option Addr × List Fil)} {B : List (Nat × TypeId × List Value)} {W : World} (h : Good F B W) {A : Option Addr} {L : List Fil} (hL : Fls W W.heap.size A L) : Good ((A, L) :: F) B W :=
  ⟨fun p hp => by
    rcases List.mem_cons.1 hp with rfl | hp
    · exact hL
    · exact h.1 p hp, h.2⟩
theorem Good.box {F : List (Option Addr × List Fil)} {B : List (Nat × TypeId × List Value)} {W : World} (h : Good F B W) (t : TypeId) (cs : List Value) : Good F ((W.heap.size, t, cs) :: B) (W.alloc (.cells cs.toArray t)) := by
  have hu := h.up ((Below.refl _ _).alloc (Nat.le_refl _) (.cells cs.toArray t))
  refine ⟨hu.1, fun b hb => ?_⟩
  rcases List.mem_cons.1 hb with rfl | hb
  · exact Blk.fresh W t cs
  · exact hu.2 b hb
theorem capOf {W : World} {b c n : Nat} {A : Option Addr} {L : List Fil} (h : OwnF W b (.slice A n c) L) : (A = none → L = [] ∧ c = 0) ∧ L.length ≤ c ∧ c ≤ maxLen := by
  rcases ownF_cap h with ⟨a, rfl, k1, k2⟩ | ⟨rfl, rfl, rfl⟩
  · exact ⟨fun e => (by cases e), k1, k2⟩
  · exact ⟨fun _ => ⟨rfl, rfl⟩, by simp, by unfold maxLen; omega⟩
theorem bts_up' {w w' : World} {A : Option Addr} {n : Nat} (h : Bts w w.heap.size A n) (hb : Below w.heap.size w w') : Bts w' w'.heap.size A n := bts_up h hb
theorem eqTo (a : ByteArray) (z y : Int) (w : World) : (Op.equalIn 10000 35 (.agg #[.string a, .int .i64 z, .int .i64 y]) (.agg #[.string a, .int .i64 z, .int .i64 y])).run Tryz.prog w = .ok true w := by
  have u2 := Tryz.underlying2
  have u9 := Tryz.underlying9
  have hS : Tryz.prog.underlying 35 = some (.struct (Tryz.prog.fieldsOf 35)) := by kernel_rfl
  have hp : Tryz.prog.stoodInHeld 35 = false := by kernel_rfl
  rw [show (10000 : Nat) = 9999 + 1 from rfl, run_equalIn_agg w 9999 35 _ _ hS hp]
  simp only [Program.fieldsOf, Tryz.underlying35]
  go_simp
theorem fldT (a : ByteArray) (z y : Int) (w : World) : (Instr.field 35 (.agg #[.string a, .int .i64 z, .int .i64 y]) 2).run Tryz.prog w = .ok (.int .i64 y) w := by kernel_rfl
theorem name20 {s : ByteArray} (h : nameB s = true) : s.size ≤ 20 := by simp [nameB] at h; omega
theorem code_in {L : List Fil} {s : ByteArray} {g : Fil} (h : fsOK L = true) (hn : nameB s = true) (hf : findF L s = some g) : codeOf L s = 0 ∧ readT L s = g.data := by
  have h20 := name20 hn
  have h1 : codeOf L s = 0 := by simp [codeOf, h, hn, hf]; omega
  exact ⟨h1, by simp [readT, h1, hf]⟩
theorem code_no {L : List Fil} {s : ByteArray} (h : fsOK L = true) (hn : nameB s = true) (hf : findF L s = none) : codeOf L s = 6 ∧ readT L s = ⟨#[]⟩ := by
  have h20 := name20 hn
  have h1 : codeOf L s = 6 := by simp [codeOf, h, hn, hf]; omega
  exact ⟨h1, by simp [readT, h1]⟩
theorem readT_size {L : List Fil} (h : Small L) (s : ByteArray) : (readT L s).size ≤ 1048576 := by
  unfold readT
  split
  · cases hf : findF L s with
    | none => exact Nat.zero_le _
    | some f => exact (small_mem h (find_mem hf).1).2
  · exact Nat.zero_le _
theorem ApHow.fin {L M : List Fil} {s t : ByteArray} (h : ApHow L s t M) : codeOf M s = 0 ∧ readT M s = readT L s ++ t := by
  obtain ⟨h1, h2, g, h3, h4⟩ := h.out
  obtain ⟨k1, k2⟩ := code_in h1 h.2.1 h3
  refine ⟨k1, ?_⟩
  rw [k2, h4]
  cases hf : findF L s with
  | none => rw [(code_no h.1 h.2.1 hf).2]; simp [textF, hf]
  | some f => rw [(code_in h.1 h.2.1 hf).2]; simp [textF, hf]
theorem RnHow.fin {L M : List Fil} {s t : ByteArray} (h : RnHow L s t M) : codeOf M t = 0 ∧ codeOf L s = 0 ∧ readT M t = readT L s := by
  obtain ⟨h1, h2, f, g, h3, h4, h5⟩ := h.out
  obtain ⟨k1, k2⟩ := code_in h1 h.2.1 h4
  obtain ⟨hm, hn⟩ := find_mem h3
  have hns : nameB s = true := by rw [← hn]; exact (okF_iff.1 (fsOK_mem h.1 hm)).1
  obtain ⟨k3, k4⟩ := code_in h.1 hns h3
  exact ⟨k1, k3, by rw [k2, k4, h5]⟩
theorem RmHow.fin {L M : List Fil} {s : ByteArray} (h : RmHow L s M) : codeOf M s = 6 := by
  obtain ⟨h1, h2, h3⟩ := h.out
  obtain ⟨k, f, hf, _⟩ := h
  obtain ⟨hm, hn⟩ := find_mem hf
  have hns : nameB s = true := by rw [← hn]; exact (okF_iff.1 (fsOK_mem k hm)).1
  exact (code_no h1 hns h3).1

theorem lawFsBig (A1 A2 : Option Addr) (n1 n2 c1 c2 : Nat) (w : World) (h : 1048576 < n1 ∨ 1048576 < n2) (hn1 : n1 ≤ maxLen) (hn2 : n2 ≤ maxLen) :
    Calls Tryz.prog 3 #[.slice A1 n1 c1, .slice A2 n2 c2] w fun e w' => e = .returned (.bool true) ∧ Below w.heap.size w w' := by
  unfold maxLen at hn1 hn2
  by_cases k1 : 1048576 < n1 <;> by_cases k2 : 1048576 < n2 <;> try omega
  all_goals
    go_enter Tryz.func3, Tryz.ntmps3
    go_wp2
    go_ret
    exact ⟨rfl, Below.refl _ _⟩
set_option maxHeartbeats 8000000 in
theorem lawFsIn (A1 A2 : Option Addr) (n1 n2 c1 c2 : Nat) (a0 a1 a2 a3 a4 : Addr) (w : World) (h1 : Bts w w.heap.size A1 n1) (h2 : Bts w w.heap.size A2 n2) (hE : Errs w a0 a1 a2 a3 a4) :
    Calls Tryz.prog 3 #[.slice A1 n1 c1, .slice A2 n2 c2] w fun e w' => e = .returned (.bool true) ∧ Below w.heap.size w w' := by
  have l1 := h1.1
  have l2 := h2.1
  have b1 : decide (1048576 < (n1 : Int)) = false := by simp; omega
  have b2 : decide (1048576 < (n2 : Int)) = false := by simp; omega

  have hG : Good [] [] w := ⟨by simp, by simp⟩
  have hw : Below w.heap.size w w := Below.refl _ _
  go_enter Tryz.func3, Tryz.ntmps3
  go_wp2_with (fail)
  refine (drawFsAppend_any A1 n1 c1 _ h1).mono ?_
  rintro e w1 ⟨L, C, x, s, t, rfl, hO, hS, hl, hs, ht, hbn⟩
  replace hG := (hG.up hbn).cons (OwnF.fls hO)
  replace hw := hw.trans (hbn.mono hw.size)
  have hcap := capOf hO
  obtain ⟨M, cd, hMf, hMl, ⟨⟨hMS, _⟩, hMH⟩, hsp, him⟩ := fsAppend_bothA L s t a0 a1 a2 a3 a4 hO.2 hS (by unfold maxLen; omega) (by unfold maxLen; omega) (by omega) (by omega)
  have XS := Lib.hid hsp; have XI := Lib.hid him; have XH := Lib.hid hMH; have XM := Lib.hid hMS; have XL := Lib.hid hS; have XC := Lib.hid hcap; have Xs := Lib.hid hs; have Xt := Lib.hid ht; have Xm := Lib.hid hMl; have Xl := Lib.hid hl
  clear hsp him hMH hMS hS hcap hMf hMl hO hbn ht hs hl
  have hG' := hG.box 25 [.slice C L.length x]
  have hw' := hw.alloc hw.size (.cells #[.slice C L.length x] 25)
  simp only [List.toArray] at hG'
  clear hG hw
  go_wp2_with (fail)
  generalize w1.alloc (.cells #[.slice C L.length x] 25) = w2 at hG' hw' ⊢
  generalize w1.heap.size = b1 at hG' hw' ⊢
  have hG := hG'
  have hw := hw'
  clear hG' hw'
  refine (XI.out w2 C x (hG.1 (C, L) (by simp)) (hE.below hw)).mono ?_
  rintro e w3 ⟨CX, xX, rfl, hO, hbn⟩
  replace hG := (hG.up hbn).cons (OwnF.fls hO)
  replace hw := hw.trans (hbn.mono hw.size)
  clear hO hbn XI
  have hG' := hG.box 29 [.slice CX M.length xX, .int .i64 cd]
  have hw' := hw.alloc hw.size (.cells #[.slice CX M.length xX, .int .i64 cd] 29)
  simp only [List.toArray] at hG'
  clear hG hw
  go_wp2_with (fail)
  generalize w3.alloc (.cells #[.slice CX M.length xX, .int .i64 cd] 29) = w4 at hG' hw' ⊢
  generalize w3.heap.size = b2 at hG' hw' ⊢
  have hG := hG'
  have hw := hw'
  clear hG' hw'
  refine (drawFsRename_any A2 n2 c2 _ (bts_up' h2 hw)).mono ?_
  rintro e w5 ⟨L2, C2, x2, s2, t2, rfl, hO, hS, hl, hs, ht, hbn⟩
  replace hG := (hG.up hbn).cons (OwnF.fls hO)
  replace hw := hw.trans (hbn.mono hw.size)
  have hcap := capOf hO
  obtain ⟨M2, cd2, hMf, hMl, ⟨hMS, hMH⟩, hsp, him⟩ := fsRename_bothH L2 s2 t2 a0 a1 a2 a3 a4 hO.2 hS (by unfold maxLen; omega) (by unfold maxLen; omega) (by omega) (by omega)
  have YS := Lib.hid hsp; have YI := Lib.hid him; have YH := Lib.hid hMH; have YM := Lib.hid hMS; have YL := Lib.hid hS; have YC := Lib.hid hcap; have Ys := Lib.hid hs; have Yt := Lib.hid ht; have Ym := Lib.hid hMl; have Yl := Lib.hid hl
  clear hsp him hMH hMS hS hcap hMf hMl hO hbn ht hs hl
  have hG' := hG.box 25 [.slice C2 L2.length x2]
  have hw' := hw.alloc hw.size (.cells #[.slice C2 L2.length x2] 25)
  simp only [List.toArray] at hG'
  clear hG hw
  go_wp2_with (fail)
  generalize w5.alloc (.cells #[.slice C2 L2.length x2] 25) = w6 at hG' hw' ⊢
  generalize w5.heap.size = b3 at hG' hw' ⊢
  have hG := hG'
  have hw := hw'
  clear hG' hw'
  refine (YI.out w6 C2 x2 (hG.1 (C2, L2) (by simp)) (hE.below hw)).mono ?_
  rintro e w7 ⟨CY, xY, rfl, hO, hbn⟩
  replace hG := (hG.up hbn).cons (OwnF.fls hO)
  replace hw := hw.trans (hbn.mono hw.size)
  clear hO hbn YI
  have hG' := hG.box 29 [.slice CY M2.length xY, .int .i64 cd2]
  have hw' := hw.alloc hw.size (.cells #[.slice CY M2.length xY, .int .i64 cd2] 29)
  simp only [List.toArray] at hG'
  clear hG hw
  go_wp2_with (fail)
  generalize w7.alloc (.cells #[.slice CY M2.length xY, .int .i64 cd2] 29) = w8 at hG' hw' ⊢
  generalize w7.heap.size = b4 at hG' hw' ⊢
  have hG := hG'
  have hw := hw'
  clear hG' hw'
  refine (drawFsRemove_any A2 n2 c2 _ (bts_up' h2 hw)).mono ?_
  rintro e w9 ⟨L3, C3, x3, s3, rfl, hO, hS, hl, hs, hbn⟩
  replace hG := (hG.up hbn).cons (OwnF.fls hO)
  replace hw := hw.trans (hbn.mono hw.size)
  have hcap := capOf hO
  obtain ⟨M3, cd3, hMf, hMl, ⟨hMS, hMH⟩, hsp, him⟩ := fsRemove_bothH L3 s3 a0 a1 a2 a3 a4 hO.2 hS (by unfold maxLen; omega) (by omega)
  have ZS := Lib.hid hsp; have ZI := Lib.hid him; have ZH := Lib.hid hMH; have ZM := Lib.hid hMS; have ZL := Lib.hid hS; have ZC := Lib.hid hcap; have Zs := Lib.hid hs; have Zm := Lib.hid hMl; have Zl := Lib.hid hl
  clear hsp him hMH hMS hS hcap hMf hMl hO hbn hs hl
  have hG' := hG.box 25 [.slice C3 L3.length x3]
  have hw' := hw.alloc hw.size (.cells #[.slice C3 L3.length x3] 25)
  simp only [List.toArray] at hG'
  clear hG hw
  go_wp2_with (fail)
  generalize w9.alloc (.cells #[.slice C3 L3.length x3] 25) = w10 at hG' hw' ⊢
  generalize w9.heap.size = b5 at hG' hw' ⊢
  have hG := hG'
  have hw := hw'
  clear hG' hw'
  refine (ZI.out w10 C3 x3 (hG.1 (C3, L3) (by simp)) (hE.below hw)).mono ?_
  rintro e w11 ⟨CZ, xZ, rfl, hO, hbn⟩
  replace hG := (hG.up hbn).cons (OwnF.fls hO)
  replace hw := hw.trans (hbn.mono hw.size)
  clear hO hbn ZI
  have hG' := hG.box 29 [.slice CZ M3.length xZ, .int .i64 cd3]
  have hw' := hw.alloc hw.size (.cells #[.slice CZ M3.length xZ, .int .i64 cd3] 29)
  simp only [List.toArray] at hG'
  clear hG hw
  have f0 := (hG'.2 (b1, 25, [.slice C L.length x]) (by simp)).cell (i := 0) rfl
  go_wp2_with (fail)
  clear f0
  generalize w11.alloc (.cells #[.slice CZ M3.length xZ, .int .i64 cd3] 29) = w12 at hG' hw' ⊢
  generalize w11.heap.size = b6 at hG' hw' ⊢
  have hG := hG'
  have hw := hw'
  clear hG' hw'
  have RI := Lib.hid (fun W h1 h2 => implRead_any C L x s a0 a1 a2 a3 a4 W h1 XL.out (by have := Xs.out; unfold maxLen; omega) h2)
  have RS := Lib.hid (fun W h1 => specRead_any C L x s W h1 (by have := Xs.out; unfold maxLen; omega))
  obtain ⟨rt, HRT⟩ : ∃ r, Hid (readT L s = r) := ⟨_, Lib.hid rfl⟩
  obtain ⟨rc, HRC⟩ : ∃ r, Hid (codeOf L s = r) := ⟨_, Lib.hid rfl⟩
  rw [HRT.out, HRC.out] at RI RS
  unfold tout at RI RS
  refine (RI.out w12 (hG.1 (C, L) (by simp)) (hE.below hw)).mono ?_
  rintro e w13 ⟨rfl, hbn⟩
  replace hG := (hG.up hbn)
  replace hw := hw.trans (hbn.mono hw.size)
  clear hbn RI
  have RR := Lib.hid (fun W h => implRight_any C L x W h)
  have RQ := Lib.hid (fun W h => specRight_any C L x W h)
  obtain ⟨ok, HOK⟩ : ∃ r, Hid (fsOK L = r) := ⟨_, Lib.hid rfl⟩
  rw [HOK.out] at RR RQ
  have heg : Tryz.prog.eqGuardType Tryz.prog.depth 35 = false := by kernel_rfl
  have hq := fun W => eqTo rt 0 rc W
  have XO := Lib.hid (fun h => (XH.out h).out.1); have YO := Lib.hid (fun h => (YH.out h).out.1); have ZO := Lib.hid (fun h => (ZH.out h).out.1)
  have hG' := hG.box 35 [.string rt, .int .i64 0, .int .i64 rc]
  have hw' := hw.alloc hw.size (.cells #[.string rt, .int .i64 0, .int .i64 rc] 35)
  simp only [List.toArray] at hG'
  clear hG hw
  go_wp2_with (fail)
  generalize w13.alloc (.cells #[.string rt, .int .i64 0, .int .i64 rc] 35) = w14 at hG' hw' ⊢
  generalize w13.heap.size = b7 at hG' hw' ⊢
  have hG := hG'
  have hw := hw'
  clear hG' hw'
  have PC : Hid (∀ W, Good [(CZ, M3), (C3, L3), (CY, M2), (C2, L2), (CX, M), (C, L)] [(b7, 35, [.string rt, .int .i64 0, .int .i64 rc]), (b6, 29, [.slice CZ M3.length xZ, .int .i64 cd3]), (b5, 25, [.slice C3 L3.length x3]), (b4, 29, [.slice CY M2.length xY, .int .i64 cd2]), (b3, 25, [.slice C2 L2.length x2]), (b2, 29, [.slice CX M.length xX, .int .i64 cd]), (b1, 25, [.slice C L.length x])] W → (fun W => W.cell? ⟨b1, 0, none⟩ = some (.slice C L.length x) ∧ W.cell? ⟨b2, 0, none⟩ = some (.slice CX M.length xX) ∧ W.cell? ⟨b2, 1, none⟩ = some (.int .i64 cd) ∧ W.cell? ⟨b3, 0, none⟩ = some (.slice C2 L2.length x2) ∧ W.cell? ⟨b4, 0, none⟩ = some (.slice CY M2.length xY) ∧ W.cell? ⟨b4, 1, none⟩ = some (.int .i64 cd2) ∧ W.cell? ⟨b5, 0, none⟩ = some (.slice C3 L3.length x3) ∧ W.cell? ⟨b6, 0, none⟩ = some (.slice CZ M3.length xZ) ∧ W.cell? ⟨b6, 1, none⟩ = some (.int .i64 cd3) ∧ W.cell? ⟨b7, 0, none⟩ = some (.string rt) ∧ W.cell? ⟨b7, 1, none⟩ = some (.int .i64 0) ∧ W.cell? ⟨b7, 2, none⟩ = some (.int .i64 rc)) W) := Lib.hid fun W h => ⟨(h.2 (b1, 25, [.slice C L.length x]) (by simp)).cell (i := 0) rfl, (h.2 (b2, 29, [.slice CX M.length xX, .int .i64 cd]) (by simp)).cell (i := 0) rfl, (h.2 (b2, 29, [.slice CX M.length xX, .int .i64 cd]) (by simp)).cell (i := 1) rfl, (h.2 (b3, 25, [.slice C2 L2.length x2]) (by simp)).cell (i := 0) rfl, (h.2 (b4, 29, [.slice CY M2.length xY, .int .i64 cd2]) (by simp)).cell (i := 0) rfl, (h.2 (b4, 29, [.slice CY M2.length xY, .int .i64 cd2]) (by simp)).cell (i := 1) rfl, (h.2 (b5, 25, [.slice C3 L3.length x3]) (by simp)).cell (i := 0) rfl, (h.2 (b6, 29, [.slice CZ M3.length xZ, .int .i64 cd3]) (by simp)).cell (i := 0) rfl, (h.2 (b6, 29, [.slice CZ M3.length xZ, .int .i64 cd3]) (by simp)).cell (i := 1) rfl, (h.2 (b7, 35, [.string rt, .int .i64 0, .int .i64 rc]) (by simp)).cell (i := 0) rfl, (h.2 (b7, 35, [.string rt, .int .i64 0, .int .i64 rc]) (by simp)).cell (i := 1) rfl, (h.2 (b7, 35, [.string rt, .int .i64 0, .int .i64 rc]) (by simp)).cell (i := 2) rfl⟩
  have GF : Hid (∀ W, Good [(CZ, M3), (C3, L3), (CY, M2), (C2, L2), (CX, M), (C, L)] [(b7, 35, [.string rt, .int .i64 0, .int .i64 rc]), (b6, 29, [.slice CZ M3.length xZ, .int .i64 cd3]), (b5, 25, [.slice C3 L3.length x3]), (b4, 29, [.slice CY M2.length xY, .int .i64 cd2]), (b3, 25, [.slice C2 L2.length x2]), (b2, 29, [.slice CX M.length xX, .int .i64 cd]), (b1, 25, [.slice C L.length x])] W → Fls W W.heap.size C L ∧ Fls W W.heap.size CX M ∧ Fls W W.heap.size C2 L2 ∧ Fls W W.heap.size CY M2 ∧ Fls W W.heap.size C3 L3 ∧ Fls W W.heap.size CZ M3) := Lib.hid fun W h => ⟨h.1 (C, L) (by simp), h.1 (CX, M) (by simp), h.1 (C2, L2) (by simp), h.1 (CY, M2) (by simp), h.1 (C3, L3) (by simp), h.1 (CZ, M3) (by simp)⟩
  have hd := PC.out _ hG.drew
  replace hG := hG.drew; replace hw := below_drew hw
  obtain ⟨d10, d20, d21, d30, d40, d41, d50, d60, d61, d70, d71, d72⟩ := hd
  go_region_held3 (fun W => W.cell? ⟨b1, 0, none⟩ = some (.slice C L.length x) ∧ W.cell? ⟨b2, 0, none⟩ = some (.slice CX M.length xX) ∧ W.cell? ⟨b2, 1, none⟩ = some (.int .i64 cd) ∧ W.cell? ⟨b3, 0, none⟩ = some (.slice C2 L2.length x2) ∧ W.cell? ⟨b4, 0, none⟩ = some (.slice CY M2.length xY) ∧ W.cell? ⟨b4, 1, none⟩ = some (.int .i64 cd2) ∧ W.cell? ⟨b5, 0, none⟩ = some (.slice C3 L3.length x3) ∧ W.cell? ⟨b6, 0, none⟩ = some (.slice CZ M3.length xZ) ∧ W.cell? ⟨b6, 1, none⟩ = some (.int .i64 cd3) ∧ W.cell? ⟨b7, 0, none⟩ = some (.string rt) ∧ W.cell? ⟨b7, 1, none⟩ = some (.int .i64 0) ∧ W.cell? ⟨b7, 2, none⟩ = some (.int .i64 rc))
    (first
      | exact PC.out _ hG)
    (first
      | (go_at_call 13; (with_reducible refine (XS.out _ C x (GF.out _ hG).1 XC.out.1 XC.out.2.1 XC.out.2.2).mono ?_); rintro e wf ⟨Cf, xf, rfl, hOf, hbn⟩; have hFf := OwnF.fls hOf; clear hOf; replace hG := hG.up hbn; replace hw := hw.trans (hbn.mono hw.size); clear hbn)
      | (go_at_call 12; (with_reducible refine (lwFs_same CX Cf M xX xf cd _ (GF.out _ hG).2.1 hFf XO.out).mono ?_); rintro e wl ⟨rfl, hbn⟩; clear hFf; replace hG := hG.up hbn; replace hw := hw.trans (hbn.mono hw.size); clear hbn)
      | (go_at_call 14; (with_reducible refine (YS.out _ C2 x2 (GF.out _ hG).2.2.1 YC.out.2.1 YC.out.2.2).mono ?_); rintro e wf ⟨Cf, xf, rfl, hOf, hbn⟩; have hFf := OwnF.fls hOf; clear hOf; replace hG := hG.up hbn; replace hw := hw.trans (hbn.mono hw.size); clear hbn)
      | (go_at_call 12; (with_reducible refine (lwFs_same CY Cf M2 xY xf cd2 _ (GF.out _ hG).2.2.2.1 hFf YO.out).mono ?_); rintro e wl ⟨rfl, hbn⟩; clear hFf; replace hG := hG.up hbn; replace hw := hw.trans (hbn.mono hw.size); clear hbn)
      | (go_at_call 15; (with_reducible refine (ZS.out _ C3 x3 (GF.out _ hG).2.2.2.2.1 ZC.out.2.1 ZC.out.2.2).mono ?_); rintro e wf ⟨Cf, xf, rfl, hOf, hbn⟩; have hFf := OwnF.fls hOf; clear hOf; replace hG := hG.up hbn; replace hw := hw.trans (hbn.mono hw.size); clear hbn)
      | (go_at_call 12; (with_reducible refine (lwFs_same CZ Cf M3 xZ xf cd3 _ (GF.out _ hG).2.2.2.2.2 hFf ZO.out).mono ?_); rintro e wl ⟨rfl, hbn⟩; clear hFf; replace hG := hG.up hbn; replace hw := hw.trans (hbn.mono hw.size); clear hbn)
      | (go_at_call 16; (with_reducible refine (RS.out _ (GF.out _ hG).1).mono ?_); rintro e wf ⟨rfl, hbn⟩; replace hG := hG.up hbn; replace hw := hw.trans (hbn.mono hw.size); clear hbn)
      | (go_at_call 17; (with_reducible refine (RR.out _ (GF.out _ hG).1).mono ?_); rintro e wf ⟨rfl, hbn⟩; replace hG := hG.up hbn; replace hw := hw.trans (hbn.mono hw.size); clear hbn)
      | (go_at_call 18; (with_reducible refine (RQ.out _ (GF.out _ hG).1).mono ?_); rintro e wf ⟨rfl, hbn⟩; replace hG := hG.up hbn; replace hw := hw.trans (hbn.mono hw.size); clear hbn))
  clear d10 d20 d21 d30 d40 d41 d50 d60 d61 d70 d71 d72
  clear hq RS RR RQ XS YS ZS
  go_wp2_with (fail)
  have SZ := Lib.hid (show s.size ≤ maxLen by have := Xs.out; unfold maxLen; omega); have SZ2 := Lib.hid (show s2.size ≤ maxLen by have := Ys.out; unfold maxLen; omega); have TZ2 := Lib.hid (show t2.size ≤ maxLen by have := Yt.out; unfold maxLen; omega); have SZ3 := Lib.hid (show s3.size ≤ maxLen by have := Zs.out; unfold maxLen; omega)
  have hcatN : rt.size + t.size ≤ 2000000 := by have h8 := readT_size XL.out s; rw [HRT.out] at h8; have := Xt.out; omega
  have hcat1 : ¬ ((9223372036854775807 : Int) < (rt.size : Int) + (t.size : Int)) := by omega
  have hcat2 : ¬ (IntKind.i64.max < (rt.size : Int) + (t.size : Int)) := by simp [IntKind.max, IntKind.bits, IntKind.signed]; omega
  have hcat5 : ¬ (((rt.size + t.size : Nat) : Int) > IntKind.i64.max) := by rw [IntKind.max_i64]; omega
  have hcat6 : ¬ ((9223372036854775807 : Int) < ((rt.size + t.size : Nat) : Int)) := by omega
  have hcatR : ∀ W, (Op.stringOp .add rt t).run Tryz.prog W = .ok (.string (rt ++ t)) W := fun W => by unfold Op.stringOp; simp only [if_neg hcat5]; rfl
  have hcat3 : (rt.size : Int) + (t.size : Int) ≤ 9223372036854775807 := by omega
  by_cases hcd : ¬ cd = 0
  focus
    have dcd : (cd == 0) = false := by simp [hcd]
    clear hcd
    go_wp2_with (fail)
    have hd := PC.out _ hG
    obtain ⟨d10, d20, d21, d30, d40, d41, d50, d60, d61, d70, d71, d72⟩ := hd
    go_quiet (fail)
    clear d10 d20 d21 d30 d40 d41 d50 d60 d61 d70 d71 d72
    replace hG := hG.drewN nq; replace hw := below_drewN hw nq
    generalize wf.drewN nq = wm at hG hw ⊢
    go_wp2_with (fail)
  rotate_left
  focus
    replace hcd := Classical.not_not.1 hcd
    have HH := Lib.hid (XH.out hcd)
    have dcd : (cd == 0) = true := by simp [hcd]
    clear hcd
    have RX := Lib.hid (fun W h1 h2 => implRead_any CX M xX s a0 a1 a2 a3 a4 W h1 XM.out SZ.out h2)
    rw [HH.out.fin.1, HH.out.fin.2, HRT.out] at RX
    unfold tout at RX
    have BB := Lib.hid (fun W ha hb => lwBut_same C CX L M x xX s s W ha hb (by have := Xl.out; omega) (by have := Xl.out; have := Xm.out; omega) HH.out.out.2.1)
    have hq := fun W => eqTo (rt ++ t) 0 0 W
    go_wp2_with (fail)
    have hd := PC.out _ hG.drew
    replace hG := hG.drew; replace hw := below_drew hw
    obtain ⟨d10, d20, d21, d30, d40, d41, d50, d60, d61, d70, d71, d72⟩ := hd
    go_region_held3 (fun W => W.cell? ⟨b1, 0, none⟩ = some (.slice C L.length x) ∧ W.cell? ⟨b2, 0, none⟩ = some (.slice CX M.length xX) ∧ W.cell? ⟨b2, 1, none⟩ = some (.int .i64 cd) ∧ W.cell? ⟨b3, 0, none⟩ = some (.slice C2 L2.length x2) ∧ W.cell? ⟨b4, 0, none⟩ = some (.slice CY M2.length xY) ∧ W.cell? ⟨b4, 1, none⟩ = some (.int .i64 cd2) ∧ W.cell? ⟨b5, 0, none⟩ = some (.slice C3 L3.length x3) ∧ W.cell? ⟨b6, 0, none⟩ = some (.slice CZ M3.length xZ) ∧ W.cell? ⟨b6, 1, none⟩ = some (.int .i64 cd3) ∧ W.cell? ⟨b7, 0, none⟩ = some (.string rt) ∧ W.cell? ⟨b7, 1, none⟩ = some (.int .i64 0) ∧ W.cell? ⟨b7, 2, none⟩ = some (.int .i64 rc))
      (first
        | exact PC.out _ hG)
      (first
        | (go_at_call 11; (with_reducible refine (RX.out _ (GF.out _ hG).2.1 (hE.below hw)).mono ?_); rintro e wf ⟨rfl, hbn⟩; replace hG := hG.up hbn; replace hw := hw.trans (hbn.mono hw.size); clear hbn)
        | (go_at_call 19; (with_reducible refine (BB.out _ (GF.out _ hG).1 (GF.out _ hG).2.1).mono ?_); rintro e wl ⟨rfl, hbn⟩; replace hG := hG.up hbn; replace hw := hw.trans (hbn.mono hw.size); clear hbn))
    all_goals
      clear d10 d20 d21 d30 d40 d41 d50 d60 d61 d70 d71 d72 hq BB RX
      generalize wl = wm at hG hw ⊢
      go_wp2_with (fail)
  all_goals
    clear hcat1 hcat2 hcat3 hcat5 hcat6 hcatR hcatN dcd
    by_cases hcd : ¬ cd2 = 0
    focus
      have dcd : (cd2 == 0) = false := by simp [hcd]
      clear hcd
      go_wp2_with (fail)
      have hd := PC.out _ hG
      obtain ⟨d10, d20, d21, d30, d40, d41, d50, d60, d61, d70, d71, d72⟩ := hd
      go_quiet (fail)
      clear d10 d20 d21 d30 d40 d41 d50 d60 d61 d70 d71 d72
      replace hG := hG.drewN nq; replace hw := below_drewN hw nq
      generalize wm.drewN nq = wn at hG hw ⊢
    rotate_left
    focus
      replace hcd := Classical.not_not.1 hcd
      have HH := Lib.hid (YH.out hcd)
      have dcd : (cd2 == 0) = true := by simp [hcd]
      clear hcd
      have RX := Lib.hid (fun W h1 h2 => implRead_any CY M2 xY t2 a0 a1 a2 a3 a4 W h1 YM.out TZ2.out h2)
      rw [HH.out.fin.1, HH.out.fin.2.2] at RX
      unfold tout at RX
      have RY := Lib.hid (fun W h1 h2 => implRead_any C2 L2 x2 s2 a0 a1 a2 a3 a4 W h1 YL.out SZ2.out h2)
      rw [HH.out.fin.2.1] at RY
      unfold tout at RY
      have BB := Lib.hid (fun W ha hb => lwBut_same C2 CY L2 M2 x2 xY s2 t2 W ha hb (by have := Yl.out; omega) (by have := Yl.out; have := Ym.out; omega) HH.out.out.2.1)
      have hq := fun W => eqTo (readT L2 s2) 0 0 W
      go_wp2_with (fail)
      have hd := PC.out _ hG.drew
      replace hG := hG.drew; replace hw := below_drew hw
      obtain ⟨d10, d20, d21, d30, d40, d41, d50, d60, d61, d70, d71, d72⟩ := hd
      go_region_held3 (fun W => W.cell? ⟨b1, 0, none⟩ = some (.slice C L.length x) ∧ W.cell? ⟨b2, 0, none⟩ = some (.slice CX M.length xX) ∧ W.cell? ⟨b2, 1, none⟩ = some (.int .i64 cd) ∧ W.cell? ⟨b3, 0, none⟩ = some (.slice C2 L2.length x2) ∧ W.cell? ⟨b4, 0, none⟩ = some (.slice CY M2.length xY) ∧ W.cell? ⟨b4, 1, none⟩ = some (.int .i64 cd2) ∧ W.cell? ⟨b5, 0, none⟩ = some (.slice C3 L3.length x3) ∧ W.cell? ⟨b6, 0, none⟩ = some (.slice CZ M3.length xZ) ∧ W.cell? ⟨b6, 1, none⟩ = some (.int .i64 cd3) ∧ W.cell? ⟨b7, 0, none⟩ = some (.string rt) ∧ W.cell? ⟨b7, 1, none⟩ = some (.int .i64 0) ∧ W.cell? ⟨b7, 2, none⟩ = some (.int .i64 rc))
        (first
          | exact PC.out _ hG)
        (first
          | (go_at_call 11; (with_reducible refine (RX.out _ (GF.out _ hG).2.2.2.1 (hE.below hw)).mono ?_); rintro e wf ⟨rfl, hbn⟩; replace hG := hG.up hbn; replace hw := hw.trans (hbn.mono hw.size); clear hbn)
          | (go_at_call 11; (with_reducible refine (RY.out _ (GF.out _ hG).2.2.1 (hE.below hw)).mono ?_); rintro e wf ⟨rfl, hbn⟩; replace hG := hG.up hbn; replace hw := hw.trans (hbn.mono hw.size); clear hbn)
          | (go_at_call 19; (with_reducible refine (BB.out _ (GF.out _ hG).2.2.1 (GF.out _ hG).2.2.2.1).mono ?_); rintro e wl ⟨rfl, hbn⟩; replace hG := hG.up hbn; replace hw := hw.trans (hbn.mono hw.size); clear hbn))
      all_goals
        clear d10 d20 d21 d30 d40 d41 d50 d60 d61 d70 d71 d72 hq BB RX RY
        generalize wl = wn at hG hw ⊢
  all_goals
    clear dcd
    by_cases hcd : cd3 = 0
    · have HH := Lib.hid (ZH.out hcd)
      have dcd : (cd3 != 0) = false := by simp [hcd]
      clear hcd
      have RZ := Lib.hid (fun W h1 h2 => implRead_any CZ M3 xZ s3 a0 a1 a2 a3 a4 W h1 ZM.out SZ3.out h2)
      rw [HH.out.fin] at RZ
      unfold tout at RZ
      have BB := Lib.hid (fun W ha hb => lwBut_same C3 CZ L3 M3 x3 xZ s3 s3 W ha hb (by have := Zl.out; omega) (by have := Zl.out; have := Zm.out; omega) HH.out.out.2.1)
      have q2 := fun W => fldT (readT M3 s3) 0 6 W
      obtain ⟨d10, d20, d21, d30, d40, d41, d50, d60, d61, d70, d71, d72⟩ := PC.out _ hG
      go_wp2_with (fail)
      refine (RZ.out _ (GF.out _ hG).2.2.2.2.2 (hE.below hw)).mono ?_
      rintro e wz ⟨rfl, hbn⟩
      replace hG := hG.up hbn; replace hw := hw.trans (hbn.mono hw.size); clear hbn d10 d20 d21 d30 d40 d41 d50 d60 d61 d70 d71 d72
      obtain ⟨d10, d20, d21, d30, d40, d41, d50, d60, d61, d70, d71, d72⟩ := PC.out _ hG
      go_wp2_with (fail)
      refine (BB.out _ (GF.out _ hG).2.2.2.2.1 (GF.out _ hG).2.2.2.2.2).mono ?_
      rintro e wy ⟨rfl, hbn⟩
      replace hw := hw.trans (hbn.mono hw.size)
      go_wp2
      go_ret
      exact ⟨rfl, hw⟩
    · have dcd : (cd3 != 0) = true := by simp [hcd]
      clear hcd
      obtain ⟨d10, d20, d21, d30, d40, d41, d50, d60, d61, d70, d71, d72⟩ := PC.out _ hG
      go_wp2
      go_ret
      exact ⟨rfl, hw⟩
theorem lawFsAll (A1 : Option Addr) (n1 c1 : Nat) (A2 : Option Addr) (n2 c2 : Nat) (a0 a1 a2 a3 a4 : Addr) (w : World) (h1 : Byt w A1 n1) (h2 : Byt w A2 n2) (hE : Errs w a0 a1 a2 a3 a4) :
    Calls Tryz.prog 3 #[.slice A1 n1 c1, .slice A2 n2 c2] w fun e w' => e = .returned (.bool true) ∧ Below w.heap.size w w' := by
  by_cases k1 : n1 ≤ 1048576
  · by_cases k2 : n2 ≤ 1048576
    · exact lawFsIn A1 A2 n1 n2 c1 c2 a0 a1 a2 a3 a4 w (h1.2 k1) (h2.2 k2) hE
    · exact lawFsBig A1 A2 n1 n2 c1 c2 w (by omega) h1.1 h2.1
  · exact lawFsBig A1 A2 n1 n2 c1 c2 w (by omega) h1.1 h2.1
end Go.Proofs.YtpgodphnjeifhaaGreatDoor
