/- FsSync: spec and impl answer alike. -/
import Derived.Test.YtapnmnghdgkbpaaDoorFSyn
import Derived.Test.YtapnmnghdgkbpaaDoorFsIll
import Derived.Test.YtapnmnghdgkbpaaDoorKept
import Derived.RangeFuncOwn
import Derived.Test.YtapnmnghdgkbpaaDoorFilCopy
import Derived.BigRegion
namespace Go.Proofs.YtapnmnghdgkbpaaDoor
open Go.RowKit
set_option linter.unusedVariables false
set_option maxRecDepth 1000000

/-- The world behind FsSync's boxes and its list of names. -/
def wFsSync (A : Option Addr) (L : List Fil) (c : Nat) (s : ByteArray) (w : World) : World := (((w.alloc (.cells #[.slice A L.length c] 50)).alloc (.cells #[.string s] 9)).alloc (.cells #[.slice none 0 0, .int .i64 0] 52)).alloc (.cells #[.string s] 9)
theorem wFsSync_size (A : Option Addr) (L : List Fil) (c : Nat) (s : ByteArray) (w : World) : (wFsSync A L c s w).heap.size = w.heap.size + 4 := by unfold wFsSync; simp
theorem wFsSync_below (A : Option Addr) (L : List Fil) (c : Nat) (s : ByteArray) (w : World) : Below w.heap.size w (wFsSync A L c s w) := by
  unfold wFsSync
  exact (((((Below.refl _ _).alloc (Nat.le_refl _) _).alloc (by simp only [World.size_alloc]; omega) _).alloc (by simp only [World.size_alloc]; omega) _).alloc (by simp only [World.size_alloc]; omega) _)
theorem wFsSync_names (A : Option Addr) (L : List Fil) (c : Nat) (s : ByteArray) (w : World) : StrA (wFsSync A L c s w) (some ⟨w.heap.size + 3, 0, none⟩) [s] := by
  have h := Blk.fresh (((w.alloc (.cells #[.slice A L.length c] 50)).alloc (.cells #[.string s] 9)).alloc (.cells #[.slice none 0 0, .int .i64 0] 52)) 9 [.string s]
  have hz : (((w.alloc (.cells #[.slice A L.length c] 50)).alloc (.cells #[.string s] 9)).alloc (.cells #[.slice none 0 0, .int .i64 0] 52)).heap.size = w.heap.size + 3 := by simp
  rw [hz] at h
  intro i hi
  refine ⟨_, rfl, ?_⟩
  rw [addr_add0]
  refine Blk.cell (t := 9) (cs := [.string s]) h ?_
  have hi' : i < 1 := hi
  match i, hi' with
  | 0, _ => rfl

theorem wFsSync_box0 (A : Option Addr) (L : List Fil) (c : Nat) (s : ByteArray) (w : World) : Blk (wFsSync A L c s w) (w.heap.size + 1) 9 [.string s] := by
  have h := Blk.fresh (w.alloc (.cells #[.slice A L.length c] 50)) 9 [.string s]
  have hz : (w.alloc (.cells #[.slice A L.length c] 50)).heap.size = w.heap.size + 1 := by simp
  rw [hz] at h
  unfold wFsSync
  exact (h.alloc _).alloc _
theorem wFsSync_res (A : Option Addr) (L : List Fil) (c : Nat) (s : ByteArray) (w : World) : Blk (wFsSync A L c s w) (w.heap.size + 2) 52 [.slice none 0 0, .int .i64 0] := by
  have h := Blk.fresh ((w.alloc (.cells #[.slice A L.length c] 50)).alloc (.cells #[.string s] 9)) 52 [.slice none 0 0, .int .i64 0]
  have hz : ((w.alloc (.cells #[.slice A L.length c] 50)).alloc (.cells #[.string s] 9)).heap.size = w.heap.size + 2 := by simp
  rw [hz] at h
  unfold wFsSync
  exact h.alloc _

set_option maxHeartbeats 4000000 in
theorem implFsSync_of (A : Option Addr) (L : List Fil) (c : Nat) (s : ByteArray) (w : World) (M : List Fil) (cd : Int)
    (H : Hid (Calls Tryd.prog 71 #[.agg #[.slice A L.length c], .func (.func 72) #[] #[.pointer (some ⟨w.heap.size + 1, 0, none⟩)], .slice (some ⟨w.heap.size + 3, 0, none⟩) 1 1] (wFsSync A L c s w) fun e w' => ∃ C x, e = .returned (fsOut (.slice C M.length x) cd) ∧ OwnF w' (wFsSync A L c s w).heap.size (.slice C M.length x) M ∧ Below (wFsSync A L c s w).heap.size (wFsSync A L c s w) w')) :
    Calls Tryd.prog 32 #[.agg #[.slice A L.length c], .string s] w fun e w' => ∃ C x, e = .returned (fsOut (.slice C M.length x) cd) ∧ OwnF w' w.heap.size (.slice C M.length x) M ∧ Below w.heap.size w w' := by
  have hsz := wFsSync_size A L c s w
  have hbw := wFsSync_below A L c s w
  have hT0 := wFsSync_res A L c s w
  go_enter Tryd.func32, Tryd.ntmps32
  go_wp2_with (fail)
  refine H.out.mono ?_
  rintro e w1 ⟨C, x, rfl, hO, hb1⟩
  have hT1 := hT0.below hb1 hT0.lt
  have hz1 := hb1.size
  have hw1 := hbw.trans (hb1.mono hbw.size)
  have t0 := hT1.cell (i := 0) rfl
  have t1 := hT1.cell (i := 1) rfl
  have f0 := hT1.froz 0
  have f1 := hT1.froz 1
  go_wp2
  have hp := (hT1.put 0 (.slice C M.length x)).put 1 (.int .i64 cd)
  have k0 := hp.cell (i := 0) rfl
  have k1 := hp.cell (i := 1) rfl
  have hO4 := (OwnF.far (OwnF.far hO (p := ⟨w.heap.size + 2, 0, none⟩) (by rw [hsz]; simp) (.slice C M.length x)) (p := ⟨w.heap.size + 2, 1, none⟩) (by rw [hsz]; simp) (.int .i64 cd))
  refine bodyPost_ret (v := fsOut (.slice C M.length x) cd) (by simp only [results, Tryd.results32]; simp [go_sem, k0, k1]) rfl ⟨C, x, rfl, OwnF.base hO4 (by omega), ?_⟩
  exact (hw1.setCell (by simp only []; omega) _).setCell (by simp only []; omega) _


theorem enters_sync : Enters 72 := enters_of Tryd.func72 (by kernel_rfl) rfl
set_option maxHeartbeats 1000000 in
theorem syncC_ok (p b n : Nat) (L : List Fil) (s : ByteArray) (f : Fil) (w : World) (hp : w.cell? ⟨p, 0, none⟩ = some (.string s)) (hM : MapF w b n L) (hn : n ≤ 1000) (hs : s.size ≤ maxLen) (hf : findF L s = some f) (hff : f.fits) (hfn : f.name = s) :
    Calls Tryd.prog 72 #[.map (some b), .pointer (some ⟨p, 0, none⟩)] w fun e w' => e = .returned .nilIface ∧ MapF w' b (n + 1) (putL L ⟨f.name, f.data, (f.data.size : Int)⟩) ∧ w.grownBy w' (some b) := by
  go_enter Tryd.func72, Tryd.ntmps72
  go_wp2_with (fail)
  refine (sync_some b n L s f w hM hn hs hf hff hfn).mono ?_
  rintro e w1 ⟨rfl, h1, h2⟩
  go_wp2
  go_ret
  exact ⟨rfl, h1, h2⟩
set_option maxHeartbeats 1000000 in
theorem syncC_none (p b n : Nat) (L : List Fil) (s : ByteArray) (a0 a1 a2 a3 a4 : Addr) (w : World) (hp : w.cell? ⟨p, 0, none⟩ = some (.string s)) (hM : MapF w b n L) (hs : s.size ≤ maxLen) (hE : Errs w a0 a1 a2 a3 a4) (hf : findF L s = none) :
    Calls Tryd.prog 72 #[.map (some b), .pointer (some ⟨p, 0, none⟩)] w fun e w' => e = .returned (errV a2) ∧ Below w.heap.size w w' := by
  go_enter Tryd.func72, Tryd.ntmps72
  go_wp2_with (fail)
  refine (sync_none b n L s a0 a1 a2 a3 a4 w hM hs hE hf).mono ?_
  rintro e w1 ⟨rfl, h1⟩
  go_wp2
  go_ret
  exact ⟨rfl, h1⟩

set_option maxHeartbeats 2000000 in
theorem specSync_err (A : Option Addr) (L : List Fil) (c : Nat) (s : ByteArray) (cd : Int) (w : World) (hL : Fls w w.heap.size A L) (hs : s.size ≤ maxLen) (hc : codeOf L s = cd) (h0 : cd ≠ 0) :
    Calls Tryd.prog 30 #[.agg #[.slice A L.length c], .string s] w fun e w' => ∃ C x, e = .returned (fsOut (.slice C ([] : List Fil).length x) cd) ∧ OwnF w' w.heap.size (.slice C ([] : List Fil).length x) [] ∧ Below w.heap.size w w' := by
  have hT0 := Blk.fresh (w.alloc (.cells #[.slice A L.length c] 50)) 52 [.slice none 0 0, .int .i64 0]
  simp only [World.size_alloc] at hT0
  have hb0 : Below w.heap.size w ((w.alloc (.cells #[.slice A L.length c] 50)).alloc (.cells #[.slice none 0 0, .int .i64 0] 52)) := ((Below.refl _ _).alloc (Nat.le_refl _) _).alloc (by simp) _
  have Be := l03Begin_any A L c s _ ((hL.below hb0 (Nat.le_refl _)).mono hb0.size) hs
  rw [hc] at Be
  have hcb : (cd != 0) = true := by simpa using h0
  go_enter Tryd.func30, Tryd.ntmps30
  go_wp2_with (fail)
  refine Be.mono ?_
  rintro e w1 ⟨k, rfl, _, _, hb1⟩
  have hw1 := hb0.trans (hb1.mono hb0.size)
  have hT1 := hT0.below hb1 hT0.lt
  go_wp2_with (fail)
  refine (ill_any cd _).mono ?_
  rintro e w2 ⟨rfl, hb2⟩
  have hw2 := hw1.trans (hb2.mono hw1.size)
  have hT2 := hT1.below hb2 hT1.lt
  have t0 := hT2.cell (i := 0) rfl
  have t1 := hT2.cell (i := 1) rfl
  have f0 := hT2.froz 0
  have f1 := hT2.froz 1
  go_wp2
  have hp := (hT2.put 0 (.slice none 0 0)).put 1 (.int .i64 cd)
  have k0 := hp.cell (i := 0) rfl
  have k1 := hp.cell (i := 1) rfl
  refine bodyPost_ret (v := fsOut (.slice none 0 0) cd) (by simp only [results, Tryd.results30]; simp [go_sem, k0, k1]) rfl ⟨none, 0, rfl, ownF_nil _ _, ?_⟩
  exact (hw2.setCell (by simp) _).setCell (by simp) _

set_option maxHeartbeats 4000000 in
theorem specSync_ok (A : Option Addr) (L : List Fil) (c : Nat) (s : ByteArray) (i : Nat) (hi : i < L.length) (w : World) (hL : Fls w w.heap.size A L) (hS : Small L) (hs : s.size ≤ maxLen) (hc : codeOf L s = 0) (hfi : findF L s = some L[i]) (hR : Rising L) :
    Calls Tryd.prog 30 #[.agg #[.slice A L.length c], .string s] w fun e w' => ∃ C x, e = .returned (fsOut (.slice C (L.set i ⟨L[i].name, L[i].data, (L[i].data.size : Int)⟩).length x) 0) ∧ OwnF w' w.heap.size (.slice C (L.set i ⟨L[i].name, L[i].data, (L[i].data.size : Int)⟩).length x) (L.set i ⟨L[i].name, L[i].data, (L[i].data.size : Int)⟩) ∧ Below w.heap.size w w' := by
  have hT0 := Blk.fresh (w.alloc (.cells #[.slice A L.length c] 50)) 52 [.slice none 0 0, .int .i64 0]
  have hA0 := (Blk.fresh w 50 [.slice A L.length c]).alloc (.cells #[.slice none 0 0, .int .i64 0] 52)
  simp only [World.size_alloc] at hT0
  have hb0 : Below w.heap.size w ((w.alloc (.cells #[.slice A L.length c] 50)).alloc (.cells #[.slice none 0 0, .int .i64 0] 52)) := ((Below.refl _ _).alloc (Nat.le_refl _) _).alloc (by simp) _
  have hz0 : ((w.alloc (.cells #[.slice A L.length c] 50)).alloc (.cells #[.slice none 0 0, .int .i64 0] 52)).heap.size = w.heap.size + 2 := by simp
  have Be := l03Begin_any A L c s _ ((hL.below hb0 (Nat.le_refl _)).mono hb0.size) hs
  rw [hc] at Be
  have hf : ∀ f ∈ L, f.fits := fun f h => by obtain ⟨i, hi, rfl⟩ := List.getElem_of_mem h; exact (hL.2 i hi).choose_spec.2.2.2.2.2
  go_enter Tryd.func30, Tryd.ntmps30
  go_wp2_with (fail)
  refine Be.mono ?_
  rintro e w1 ⟨k, rfl, hk, _, hb1⟩
  obtain ⟨i', hi', rfl, hf', hn'⟩ := hk (by first | rfl | trivial)
  obtain rfl : i' = i := by
    rw [hfi] at hf'
    rcases Nat.decEq i' i with h | h
    · exact absurd (congrArg Fil.name (Option.some.inj hf')).symm (name_ne hR hi' hi h)
    · exact h
  have hw1 := hb0.trans (hb1.mono hb0.size)
  have hT1 := hT0.below hb1 hT0.lt
  have hA1 := hA0.below hb1 hA0.lt
  have b1 := hA1.cell (i := 0) rfl
  go_wp2_with (fail)
  refine (l03Copy_any A L c _ ((hL.below hw1 (Nat.le_refl _)).mono hw1.size) hS).mono ?_
  rintro e w2 ⟨C, x, rfl, hO, hb2⟩
  clear b1
  have hz1 := hw1.size
  have hz2 := hb2.size
  have hw2 := hw1.trans (hb2.mono hw1.size)
  have hT2 := hT1.below hb2 hT1.lt
  have hA2 := hA1.below hb2 hA1.lt
  have hAl := hA1.lt
  have hTl := hT1.lt
  obtain ⟨g, cp, hCv, hgj, hgl⟩ := hO.1.form (by omega)
  cases hCv
  have hX3 := Blk.fresh w2 50 [.slice (some ⟨g, 0, none⟩) L.length x]
  have hb3 : Below w2.heap.size w2 (w2.alloc (.cells #[.slice (some ⟨g, 0, none⟩) L.length x] 50)) := (Below.refl _ _).alloc (Nat.le_refl _) _
  have hw3 := hw2.trans (hb3.mono hw2.size)
  have hT3 := hT2.below hb3 hT2.lt
  have hA3 := hA2.below hb3 hA2.lt
  have hO3 := OwnF.below hO hb3 (Nat.le_refl _)
  obtain ⟨a, rfl, hab, c0, c1, c2, hff⟩ := (hL.below hw3 (Nat.le_refl _)).at i' hi'
  obtain ⟨FL, HFL⟩ : ∃ FL, Hid (flat L = FL) := ⟨_, Lib.hid rfl⟩
  have hRd : (w2.alloc (.cells #[.slice (some ⟨g, 0, none⟩) L.length x] 50)).drew.ownsRow (w1.heap.size + 2) 84 3 (.slice (some ⟨g, 0, none⟩) L.length x) L.length FL := by rw [← HFL.out]; exact hO3.1
  have hXd := hX3.drew
  have hAd := hA3.drew
  have hTd := hT3.drew
  have hwd := below_drew hw3
  have c1d : (w2.alloc (.cells #[.slice (some ⟨g, 0, none⟩) L.length x] 50)).drew.cell? ⟨(a.add (i' * 3)).block, (a.add (i' * 3)).off + 1, none⟩ = some (.string L[i'].data) := c1
  have hbo : w1.heap.size + 2 ≤ g := hgj
  have hi3 : (i' : Int) < (L.length : Int) := by omega
  go_wp2_with (fail)
  generalize hW : (w2.alloc (.cells #[.slice (some ⟨g, 0, none⟩) L.length x] 50)) = w4 at hXd hAd hTd hwd c1d hRd ⊢
  generalize hbo2 : w2.heap.size = bo at hXd ⊢
  obtain ⟨u1, r1⟩ := row_cell hRd (j := i' * 3 + 2) (by omega)
  have s1 := hRd.frozenAt (i' * 3 + 2)
  have hx0 := hXd.cell (i := 0) rfl
  have ha0 := hAd.cell (i := 0) rfl
  clear hW hb3 hw3 hT3 hA3 hO3 hX3 hT2 hA2 hw2 hT1 hA1 hw1 hb1 hb2 hO c0 c1 c2 hb0 hT0 hA0
  go_region
  have hR6 : (w4.setCell ⟨g, i' * 3 + 2, none⟩ (.int .i64 (L[i'].data.size : Int))).drew.ownsRow (w1.heap.size + 2) 84 3 (.slice (some ⟨g, 0, none⟩) L.length x) L.length (FL.set (i' * 3 + 2) (.int .i64 (L[i'].data.size : Int))) := (hRd.stored (i' * 3 + 2) (.int .i64 (L[i'].data.size : Int))).1
  have hX6 : Blk (w4.setCell ⟨g, i' * 3 + 2, none⟩ (.int .i64 (L[i'].data.size : Int))).drew bo 50 [.slice (some ⟨g, 0, none⟩) L.length x] := hXd.far (p := ⟨g, i' * 3 + 2, none⟩) (by simp; omega) _
  have hT6 : Blk (w4.setCell ⟨g, i' * 3 + 2, none⟩ (.int .i64 (L[i'].data.size : Int))).drew (w.heap.size + 1) 52 [.slice none 0 0, .int .i64 0] := hTd.far (p := ⟨g, i' * 3 + 2, none⟩) (by simp; omega) _
  have hw6 : Below w.heap.size w (w4.setCell ⟨g, i' * 3 + 2, none⟩ (.int .i64 (L[i'].data.size : Int))).drew := hwd.setCell (p := ⟨g, i' * 3 + 2, none⟩) (by simp; omega) _
  generalize (w4.setCell ⟨g, i' * 3 + 2, none⟩ (.int .i64 (L[i'].data.size : Int))).drew = w6 at hR6 hX6 hT6 hw6 ⊢
  clear hRd hXd hTd hwd hAd r1 s1 hx0 ha0 c1d
  rw [← HFL.out, flat_sync hi'] at hR6
  have hx0 := hX6.cell (i := 0) rfl
  have t0 := hT6.cell (i := 0) rfl
  have t1 := hT6.cell (i := 1) rfl
  have f0 := hT6.froz 0
  have f1 := hT6.froz 1
  go_wp2
  have hp := (hT6.put 0 (.slice (some ⟨g, 0, none⟩) L.length x)).put 1 (.int .i64 0)
  have k0 := hp.cell (i := 0) rfl
  have k1 := hp.cell (i := 1) rfl
  have hO6 : OwnF w6 (w1.heap.size + 2) (.slice (some ⟨g, 0, none⟩) (L.set i' ⟨L[i'].name, L[i'].data, (L[i'].data.size : Int)⟩).length x) (L.set i' ⟨L[i'].name, L[i'].data, (L[i'].data.size : Int)⟩) := by
    refine ⟨?_, fun f h => ?_⟩
    · rw [List.length_set]; exact hR6
    · rcases List.mem_or_eq_of_mem_set h with h | h
      · exact hf f h
      · subst h; exact ⟨hff.1, hff.2.1, by simp only []; omega, by have := hff.2.1; unfold maxLen at this; simp only []; omega⟩
  have hO7 := OwnF.far (OwnF.far hO6 (p := ⟨w.heap.size + 1, 0, none⟩) (by simp only []; omega) (.slice (some ⟨g, 0, none⟩) L.length x)) (p := ⟨w.heap.size + 1, 1, none⟩) (by simp only []; omega) (.int .i64 0)
  refine bodyPost_ret (v := fsOut (.slice (some ⟨g, 0, none⟩) L.length x) 0) (by simp only [results, Tryd.results30]; simp [go_sem, k0, k1]) rfl ⟨some ⟨g, 0, none⟩, x, by rw [List.length_set], OwnF.base hO7 (by omega), ?_⟩
  exact (hw6.setCell (by simp) _).setCell (by simp) _

/-- FsSync: spec and impl answer alike. -/
theorem fsSync_both (L : List Fil) (s : ByteArray) (a0 a1 a2 a3 a4 : Addr) (hf : ∀ f ∈ L, f.fits) (hS : Small L) (hs : s.size ≤ maxLen) (hs2 : s.size ≤ 1048576) :
    ∃ (M : List Fil) (cd : Int), (∀ f ∈ M, f.fits) ∧ M.length ≤ L.length + 1 ∧
      (∀ W A c, Fls W W.heap.size A L → Calls Tryd.prog 30 #[.agg #[.slice A L.length c], .string s] W fun e w' => ∃ C x, e = .returned (fsOut (.slice C M.length x) cd) ∧ OwnF w' W.heap.size (.slice C M.length x) M ∧ Below W.heap.size W w') ∧
      (∀ W A c, Fls W W.heap.size A L → Errs W a0 a1 a2 a3 a4 → Calls Tryd.prog 32 #[.agg #[.slice A L.length c], .string s] W fun e w' => ∃ C x, e = .returned (fsOut (.slice C M.length x) cd) ∧ OwnF w' W.heap.size (.slice C M.length x) M ∧ Below W.heap.size W w') := by
  have hsN : ∀ x ∈ [s], x.size ≤ maxLen := by intro x hx; simp at hx; subst hx; exact hs
  have nil : ∀ {f : FuncId} {args : Array Value} {W : World} {cd : Int}, (Calls Tryd.prog f args W fun e w' => e = .returned (fsOut (.slice none 0 0) cd) ∧ Below W.heap.size W w') → Calls Tryd.prog f args W fun e w' => ∃ C x, e = .returned (fsOut (.slice C ([] : List Fil).length x) cd) ∧ OwnF w' W.heap.size (.slice C ([] : List Fil).length x) [] ∧ Below W.heap.size W w' :=
    fun h => h.mono fun e w' ⟨he, hb⟩ => ⟨none, 0, he, ownF_nil _ _, hb⟩
  rcases code_cases L s with ⟨h1, hc⟩ | ⟨h1, h2, hc⟩ | ⟨h1, h2, h3, h4, hc⟩ | ⟨h1, h2, h3, ⟨i, hi, h4, h5⟩, hc⟩
  · refine ⟨[], 2, by simp, by simp, fun W A c hL => specSync_err A L c s 2 W hL hs hc (by decide), fun W A c hL hE => implFsSync_of A L c s W [] 2 (Lib.hid (nil ?_))⟩
    have hb := wFsSync_below A L c s W
    exact change_long A L c _ [s] 1 _ a0 a1 a2 a3 a4 _ (hE.below hb) (wFsSync_names A L c s W) (by simp) hsN h1
  · refine ⟨[], 1, by simp, by simp, fun W A c hL => specSync_err A L c s 1 W hL hs hc (by decide), fun W A c hL hE => implFsSync_of A L c s W [] 1 (Lib.hid (nil ?_))⟩
    have hb := wFsSync_below A L c s W
    exact change_bad A L c _ [s] 1 _ a0 a1 a2 a3 a4 _ (hE.below hb) ((hL.below hb (Nat.le_refl _)).mono hb.size) (wFsSync_names A L c s W) (by simp) hsN h1 h2
  · refine ⟨[], 6, by simp, by simp, fun W A c hL => specSync_err A L c s 6 W hL hs hc (by decide), fun W A c hL hE => implFsSync_of A L c s W [] 6 (Lib.hid (nil ?_))⟩
    have hb := wFsSync_below A L c s W
    exact change_err A L c _ [s] 1 72 _ 2 a2 a0 a1 a2 a3 a4 _ (hE.below hb) ((hL.below hb (Nat.le_refl _)).mono hb.size) (wFsSync_names A L c s W) (by simp) hsN h1 h2 enters_sync rfl
      (Lib.hid fun W2 b n hW2 _ hM _ => syncC_none _ b n L s a0 a1 a2 a3 a4 W2 (((wFsSync_box0 A L c s W).below hW2 (wFsSync_box0 A L c s W).lt).cell (i := 0) rfl) hM hs ((hE.below hb).below hW2) h4)
  · have hR := rising_of_ok h3
    have hfi := hf _ (List.getElem_mem hi)
    have hfx : ∀ f ∈ L.set i ⟨L[i].name, L[i].data, (L[i].data.size : Int)⟩, f.fits := fun f h => by
      rcases List.mem_or_eq_of_mem_set h with h | h
      · exact hf f h
      · subst h; exact ⟨hfi.1, hfi.2.1, by simp only []; omega, by have := hfi.2.1; unfold maxLen at this; simp only []; omega⟩
    have hSx : Small (L.set i ⟨L[i].name, L[i].data, (L[i].data.size : Int)⟩) := by
      refine small_of (L := L) (by rw [List.length_set]; exact hS.1) fun g hg => ?_
      rcases List.mem_or_eq_of_mem_set hg with h | h
      · exact small_mem hS h
      · subst h; exact hS.2 i hi
    refine ⟨L.set i ⟨L[i].name, L[i].data, (L[i].data.size : Int)⟩, 0, hfx, by rw [List.length_set]; omega, fun W A c hL => specSync_ok A L c s i hi W hL hS hs hc h4 hR, fun W A c hL hE => implFsSync_of A L c s W _ 0 (Lib.hid ?_)⟩
    have hb := wFsSync_below A L c s W
    refine change_ok A L c _ [s] 1 72 _ _ _ ((hL.below hb (Nat.le_refl _)).mono hb.size) (wFsSync_names A L c s W) (by simp) hsN h1 h2 enters_sync (rising_set hR hi rfl) hfx hSx
      (Lib.hid fun W2 b n hW2 _ hM hn => (syncC_ok _ b n L s L[i] W2 (((wFsSync_box0 A L c s W).below hW2 (wFsSync_box0 A L c s W).lt).cell (i := 0) rfl) hM (by omega) hs h4 hfi h5).mono fun e w' ⟨he, hm, hg⟩ => ⟨he, ⟨n + 1, by omega, ?_⟩, hg⟩)
    have := put_at hR hi (f := ⟨L[i].name, L[i].data, (L[i].data.size : Int)⟩) rfl
    rw [this] at hm
    exact hm
end Go.Proofs.YtapnmnghdgkbpaaDoor
