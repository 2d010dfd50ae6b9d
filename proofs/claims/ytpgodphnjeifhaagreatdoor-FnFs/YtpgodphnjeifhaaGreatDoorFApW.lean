/- FsSync: spec and impl answer alike. The contract of impl.joined. Contracts of the map's findOrMake and extend. -/
import Derived.Test.YtpgodphnjeifhaaGreatDoorFSynW
import Derived.Test.YtpgodphnjeifhaaGreatDoorFilCopyW
import Derived.Test.YtpgodphnjeifhaaGreatDoorFreshW
import Derived.RangeFuncOwn
import Derived.BigRegion
import Derived.Test.YtpgodphnjeifhaaGreatDoorRowW
import Derived.Maps.OwnSet
namespace Go.Proofs.YtpgodphnjeifhaaGreatDoor
open Go.RowKit
set_option linter.unusedVariables false
set_option maxRecDepth 1000000

/-- The world behind FsSync's boxes and its list of names. -/
def wFsSync (A : Option Addr) (L : List Fil) (c : Nat) (s : ByteArray) (w : World) : World := (((w.alloc (.cells #[.slice A L.length c] 25)).alloc (.cells #[.string s] 9)).alloc (.cells #[.slice none 0 0, .int .i64 0] 29)).alloc (.cells #[.string s] 9)
theorem wFsSync_size (A : Option Addr) (L : List Fil) (c : Nat) (s : ByteArray) (w : World) : (wFsSync A L c s w).heap.size = w.heap.size + 4 := by unfold wFsSync; simp
theorem wFsSync_below (A : Option Addr) (L : List Fil) (c : Nat) (s : ByteArray) (w : World) : Below w.heap.size w (wFsSync A L c s w) := by
  unfold wFsSync
  exact (((((Below.refl _ _).alloc (Nat.le_refl _) _).alloc (by simp only [World.size_alloc]; omega) _).alloc (by simp only [World.size_alloc]; omega) _).alloc (by simp only [World.size_alloc]; omega) _)
theorem wFsSync_names (A : Option Addr) (L : List Fil) (c : Nat) (s : ByteArray) (w : World) : StrA (wFsSync A L c s w) (some ⟨w.heap.size + 3, 0, none⟩) [s] := by
  have h := Blk.fresh (((w.alloc (.cells #[.slice A L.length c] 25)).alloc (.cells #[.string s] 9)).alloc (.cells #[.slice none 0 0, .int .i64 0] 29)) 9 [.string s]
  have hz : (((w.alloc (.cells #[.slice A L.length c] 25)).alloc (.cells #[.string s] 9)).alloc (.cells #[.slice none 0 0, .int .i64 0] 29)).heap.size = w.heap.size + 3 := by simp
  rw [hz] at h
  intro i hi
  refine ⟨_, rfl, ?_⟩
  rw [addr_add0]
  refine Blk.cell (t := 9) (cs := [.string s]) h ?_
  have hi' : i < 1 := hi
  match i, hi' with
  | 0, _ => rfl

theorem wFsSync_box0 (A : Option Addr) (L : List Fil) (c : Nat) (s : ByteArray) (w : World) : Blk (wFsSync A L c s w) (w.heap.size + 1) 9 [.string s] := by
  have h := Blk.fresh (w.alloc (.cells #[.slice A L.length c] 25)) 9 [.string s]
  have hz : (w.alloc (.cells #[.slice A L.length c] 25)).heap.size = w.heap.size + 1 := by simp
  rw [hz] at h
  unfold wFsSync
  exact (h.alloc _).alloc _
theorem wFsSync_res (A : Option Addr) (L : List Fil) (c : Nat) (s : ByteArray) (w : World) : Blk (wFsSync A L c s w) (w.heap.size + 2) 29 [.slice none 0 0, .int .i64 0] := by
  have h := Blk.fresh ((w.alloc (.cells #[.slice A L.length c] 25)).alloc (.cells #[.string s] 9)) 29 [.slice none 0 0, .int .i64 0]
  have hz : ((w.alloc (.cells #[.slice A L.length c] 25)).alloc (.cells #[.string s] 9)).heap.size = w.heap.size + 2 := by simp
  rw [hz] at h
  unfold wFsSync
  exact h.alloc _

set_option maxHeartbeats 4000000 in
theorem implFsSync_of (A : Option Addr) (L : List Fil) (c : Nat) (s : ByteArray) (w : World) (M : List Fil) (cd : Int)
    (H : Hid (Calls Tryz.prog 39 #[.agg #[.slice A L.length c], .func (.func 62) #[] #[.pointer (some ⟨w.heap.size + 1, 0, none⟩)], .slice (some ⟨w.heap.size + 3, 0, none⟩) 1 1] (wFsSync A L c s w) fun e w' => ∃ C x, e = .returned (fsOut (.slice C M.length x) cd) ∧ OwnF w' (wFsSync A L c s w).heap.size (.slice C M.length x) M ∧ Below (wFsSync A L c s w).heap.size (wFsSync A L c s w) w')) :
    Calls Tryz.prog 23 #[.agg #[.slice A L.length c], .string s] w fun e w' => ∃ C x, e = .returned (fsOut (.slice C M.length x) cd) ∧ OwnF w' w.heap.size (.slice C M.length x) M ∧ Below w.heap.size w w' := by
  have hsz := wFsSync_size A L c s w
  have hbw := wFsSync_below A L c s w
  have hT0 := wFsSync_res A L c s w
  go_enter Tryz.func23, Tryz.ntmps23
  go_wp2_with (fail)
  refine H.out.mono ?_
  rintro e w1 ⟨C, x, rfl, hO, hb1⟩
  have hT1 := hT0.below hb1 hT0.lt
  have hz1 := hb1.size
  have hw1 := hbw.trans (hb1.mono hbw.size)
  have t0 := hT1.cell (i := 0) rfl
  have t1 := hT1.cell (i := 1) rfl
  have f0 := hT1.froz 0
  have f1 := hT1.froz 1
  go_wp2
  have hp := (hT1.put 0 (.slice C M.length x)).put 1 (.int .i64 cd)
  have k0 := hp.cell (i := 0) rfl
  have k1 := hp.cell (i := 1) rfl
  have hO4 := (OwnF.far (OwnF.far hO (p := ⟨w.heap.size + 2, 0, none⟩) (by rw [hsz]; simp) (.slice C M.length x)) (p := ⟨w.heap.size + 2, 1, none⟩) (by rw [hsz]; simp) (.int .i64 cd))
  refine bodyPost_ret (v := fsOut (.slice C M.length x) cd) (by simp only [results, Tryz.results23]; simp [go_sem, k0, k1]) rfl ⟨C, x, rfl, OwnF.base hO4 (by omega), ?_⟩
  exact (hw1.setCell (by simp only []; omega) _).setCell (by simp only []; omega) _


theorem enters_sync : Enters 62 := enters_of Tryz.func62 (by kernel_rfl) rfl
set_option maxHeartbeats 1000000 in
theorem syncC_ok (p b n : Nat) (L : List Fil) (s : ByteArray) (f : Fil) (w : World) (hp : w.cell? ⟨p, 0, none⟩ = some (.string s)) (hM : MapF w b n L) (hn : n ≤ 1000) (hs : s.size ≤ maxLen) (hf : findF L s = some f) (hff : f.fits) (hfn : f.name = s) :
    Calls Tryz.prog 62 #[.map (some b), .pointer (some ⟨p, 0, none⟩)] w fun e w' => e = .returned .nilIface ∧ MapF w' b (n + 1) (putL L ⟨f.name, f.data, (f.data.size : Int)⟩) ∧ w.grownBy w' (some b) := by
  go_enter Tryz.func62, Tryz.ntmps62
  go_wp2_with (fail)
  refine (sync_some b n L s f w hM hn hs hf hff hfn).mono ?_
  rintro e w1 ⟨rfl, h1, h2⟩
  go_wp2
  go_ret
  exact ⟨rfl, h1, h2⟩
set_option maxHeartbeats 1000000 in
theorem syncC_none (p b n : Nat) (L : List Fil) (s : ByteArray) (a0 a1 a2 a3 a4 : Addr) (w : World) (hp : w.cell? ⟨p, 0, none⟩ = some (.string s)) (hM : MapF w b n L) (hs : s.size ≤ maxLen) (hE : Errs w a0 a1 a2 a3 a4) (hf : findF L s = none) :
    Calls Tryz.prog 62 #[.map (some b), .pointer (some ⟨p, 0, none⟩)] w fun e w' => e = .returned (errV a2) ∧ Below w.heap.size w w' := by
  go_enter Tryz.func62, Tryz.ntmps62
  go_wp2_with (fail)
  refine (sync_none b n L s a0 a1 a2 a3 a4 w hM hs hE hf).mono ?_
  rintro e w1 ⟨rfl, h1⟩
  go_wp2
  go_ret
  exact ⟨rfl, h1⟩

set_option maxHeartbeats 2000000 in
theorem specSync_err (A : Option Addr) (L : List Fil) (c : Nat) (s : ByteArray) (cd : Int) (w : World) (hL : Fls w w.heap.size A L) (hs : s.size ≤ maxLen) (hc : codeOf L s = cd) (h0 : cd ≠ 0) :
    Calls Tryz.prog 28 #[.agg #[.slice A L.length c], .string s] w fun e w' => ∃ C x, e = .returned (fsOut (.slice C ([] : List Fil).length x) cd) ∧ OwnF w' w.heap.size (.slice C ([] : List Fil).length x) [] ∧ Below w.heap.size w w' := by
  have hT0 := Blk.fresh (w.alloc (.cells #[.slice A L.length c] 25)) 29 [.slice none 0 0, .int .i64 0]
  simp only [World.size_alloc] at hT0
  have hb0 : Below w.heap.size w ((w.alloc (.cells #[.slice A L.length c] 25)).alloc (.cells #[.slice none 0 0, .int .i64 0] 29)) := ((Below.refl _ _).alloc (Nat.le_refl _) _).alloc (by simp) _
  have Be := l03Begin_any A L c s _ ((hL.below hb0 (Nat.le_refl _)).mono hb0.size) hs
  rw [hc] at Be
  have hcb : (cd != 0) = true := by simpa using h0
  go_enter Tryz.func28, Tryz.ntmps28
  go_wp2_with (fail)
  refine Be.mono ?_
  rintro e w1 ⟨k, rfl, _, _, hb1⟩
  have hw1 := hb0.trans (hb1.mono hb0.size)
  have hT1 := hT0.below hb1 hT0.lt
  go_wp2_with (fail)
  refine (ill_any cd _).mono ?_
  rintro e w2 ⟨rfl, hb2⟩
  have hw2 := hw1.trans (hb2.mono hw1.size)
  have hT2 := hT1.below hb2 hT1.lt
  have t0 := hT2.cell (i := 0) rfl
  have t1 := hT2.cell (i := 1) rfl
  have f0 := hT2.froz 0
  have f1 := hT2.froz 1
  go_wp2
  have hp := (hT2.put 0 (.slice none 0 0)).put 1 (.int .i64 cd)
  have k0 := hp.cell (i := 0) rfl
  have k1 := hp.cell (i := 1) rfl
  refine bodyPost_ret (v := fsOut (.slice none 0 0) cd) (by simp only [results, Tryz.results28]; simp [go_sem, k0, k1]) rfl ⟨none, 0, rfl, ownF_nil _ _, ?_⟩
  exact (hw2.setCell (by simp) _).setCell (by simp) _

set_option maxHeartbeats 4000000 in
theorem specSync_ok (A : Option Addr) (L : List Fil) (c : Nat) (s : ByteArray) (i : Nat) (hi : i < L.length) (w : World) (hL : Fls w w.heap.size A L) (hS : Small L) (hs : s.size ≤ maxLen) (hc : codeOf L s = 0) (hfi : findF L s = some L[i]) (hR : Rising L) :
    Calls Tryz.prog 28 #[.agg #[.slice A L.length c], .string s] w fun e w' => ∃ C x, e = .returned (fsOut (.slice C (L.set i ⟨L[i].name, L[i].data, (L[i].data.size : Int)⟩).length x) 0) ∧ OwnF w' w.heap.size (.slice C (L.set i ⟨L[i].name, L[i].data, (L[i].data.size : Int)⟩).length x) (L.set i ⟨L[i].name, L[i].data, (L[i].data.size : Int)⟩) ∧ Below w.heap.size w w' := by
  have hT0 := Blk.fresh (w.alloc (.cells #[.slice A L.length c] 25)) 29 [.slice none 0 0, .int .i64 0]
  have hA0 := (Blk.fresh w 25 [.slice A L.length c]).alloc (.cells #[.slice none 0 0, .int .i64 0] 29)
  simp only [World.size_alloc] at hT0
  have hb0 : Below w.heap.size w ((w.alloc (.cells #[.slice A L.length c] 25)).alloc (.cells #[.slice none 0 0, .int .i64 0] 29)) := ((Below.refl _ _).alloc (Nat.le_refl _) _).alloc (by simp) _
  have hz0 : ((w.alloc (.cells #[.slice A L.length c] 25)).alloc (.cells #[.slice none 0 0, .int .i64 0] 29)).heap.size = w.heap.size + 2 := by simp
  have Be := l03Begin_any A L c s _ ((hL.below hb0 (Nat.le_refl _)).mono hb0.size) hs
  rw [hc] at Be
  have hf : ∀ f ∈ L, f.fits := fun f h => by obtain ⟨i, hi, rfl⟩ := List.getElem_of_mem h; exact (hL.2 i hi).choose_spec.2.2.2.2.2
  go_enter Tryz.func28, Tryz.ntmps28
  go_wp2_with (fail)
  refine Be.mono ?_
  rintro e w1 ⟨k, rfl, hk, _, hb1⟩
  obtain ⟨i', hi', rfl, hf', hn'⟩ := hk (by first | rfl | trivial)
  obtain rfl : i' = i := by
    rw [hfi] at hf'
    rcases Nat.decEq i' i with h | h
    · exact absurd (congrArg Fil.name (Option.some.inj hf')).symm (name_ne hR hi' hi h)
    · exact h
  have hw1 := hb0.trans (hb1.mono hb0.size)
  have hT1 := hT0.below hb1 hT0.lt
  have hA1 := hA0.below hb1 hA0.lt
  have b1 := hA1.cell (i := 0) rfl
  go_wp2_with (fail)
  refine (l03Copy_any A L c _ ((hL.below hw1 (Nat.le_refl _)).mono hw1.size) hS).mono ?_
  rintro e w2 ⟨C, x, rfl, hO, hb2⟩
  clear b1
  have hz1 := hw1.size
  have hz2 := hb2.size
  have hw2 := hw1.trans (hb2.mono hw1.size)
  have hT2 := hT1.below hb2 hT1.lt
  have hA2 := hA1.below hb2 hA1.lt
  have hAl := hA1.lt
  have hTl := hT1.lt
  obtain ⟨g, cp, hCv, hgj, hgl⟩ := hO.1.form (by omega)
  cases hCv
  have hX3 := Blk.fresh w2 25 [.slice (some ⟨g, 0, none⟩) L.length x]
  have hb3 : Below w2.heap.size w2 (w2.alloc (.cells #[.slice (some ⟨g, 0, none⟩) L.length x] 25)) := (Below.refl _ _).alloc (Nat.le_refl _) _
  have hw3 := hw2.trans (hb3.mono hw2.size)
  have hT3 := hT2.below hb3 hT2.lt
  have hA3 := hA2.below hb3 hA2.lt
  have hO3 := OwnF.below hO hb3 (Nat.le_refl _)
  obtain ⟨a, rfl, hab, c0, c1, c2, hff⟩ := (hL.below hw3 (Nat.le_refl _)).at i' hi'
  obtain ⟨FL, HFL⟩ : ∃ FL, Hid (flat L = FL) := ⟨_, Lib.hid rfl⟩
  have hRd : (w2.alloc (.cells #[.slice (some ⟨g, 0, none⟩) L.length x] 25)).drew.ownsRow (w1.heap.size + 2) 53 3 (.slice (some ⟨g, 0, none⟩) L.length x) L.length FL := by rw [← HFL.out]; exact hO3.1
  have hXd := hX3.drew
  have hAd := hA3.drew
  have hTd := hT3.drew
  have hwd := below_drew hw3
  have c1d : (w2.alloc (.cells #[.slice (some ⟨g, 0, none⟩) L.length x] 25)).drew.cell? ⟨(a.add (i' * 3)).block, (a.add (i' * 3)).off + 1, none⟩ = some (.string L[i'].data) := c1
  have hbo : w1.heap.size + 2 ≤ g := hgj
  have hi3 : (i' : Int) < (L.length : Int) := by omega
  go_wp2_with (fail)
  generalize hW : (w2.alloc (.cells #[.slice (some ⟨g, 0, none⟩) L.length x] 25)) = w4 at hXd hAd hTd hwd c1d hRd ⊢
  generalize hbo2 : w2.heap.size = bo at hXd ⊢
  obtain ⟨u1, r1⟩ := row_cell hRd (j := i' * 3 + 2) (by omega)
  have s1 := hRd.frozenAt (i' * 3 + 2)
  have hx0 := hXd.cell (i := 0) rfl
  have ha0 := hAd.cell (i := 0) rfl
  clear hW hb3 hw3 hT3 hA3 hO3 hX3 hT2 hA2 hw2 hT1 hA1 hw1 hb1 hb2 hO c0 c1 c2 hb0 hT0 hA0
  go_region
  have hR6 : (w4.setCell ⟨g, i' * 3 + 2, none⟩ (.int .i64 (L[i'].data.size : Int))).drew.ownsRow (w1.heap.size + 2) 53 3 (.slice (some ⟨g, 0, none⟩) L.length x) L.length (FL.set (i' * 3 + 2) (.int .i64 (L[i'].data.size : Int))) := (hRd.stored (i' * 3 + 2) (.int .i64 (L[i'].data.size : Int))).1
  have hX6 : Blk (w4.setCell ⟨g, i' * 3 + 2, none⟩ (.int .i64 (L[i'].data.size : Int))).drew bo 25 [.slice (some ⟨g, 0, none⟩) L.length x] := hXd.far (p := ⟨g, i' * 3 + 2, none⟩) (by simp; omega) _
  have hT6 : Blk (w4.setCell ⟨g, i' * 3 + 2, none⟩ (.int .i64 (L[i'].data.size : Int))).drew (w.heap.size + 1) 29 [.slice none 0 0, .int .i64 0] := hTd.far (p := ⟨g, i' * 3 + 2, none⟩) (by simp; omega) _
  have hw6 : Below w.heap.size w (w4.setCell ⟨g, i' * 3 + 2, none⟩ (.int .i64 (L[i'].data.size : Int))).drew := hwd.setCell (p := ⟨g, i' * 3 + 2, none⟩) (by simp; omega) _
  generalize (w4.setCell ⟨g, i' * 3 + 2, none⟩ (.int .i64 (L[i'].data.size : Int))).drew = w6 at hR6 hX6 hT6 hw6 ⊢
  clear hRd hXd hTd hwd hAd r1 s1 hx0 ha0 c1d
  rw [← HFL.out, flat_sync hi'] at hR6
  have hx0 := hX6.cell (i := 0) rfl
  have t0 := hT6.cell (i := 0) rfl
  have t1 := hT6.cell (i := 1) rfl
  have f0 := hT6.froz 0
  have f1 := hT6.froz 1
  go_wp2
  have hp := (hT6.put 0 (.slice (some ⟨g, 0, none⟩) L.length x)).put 1 (.int .i64 0)
  have k0 := hp.cell (i := 0) rfl
  have k1 := hp.cell (i := 1) rfl
  have hO6 : OwnF w6 (w1.heap.size + 2) (.slice (some ⟨g, 0, none⟩) (L.set i' ⟨L[i'].name, L[i'].data, (L[i'].data.size : Int)⟩).length x) (L.set i' ⟨L[i'].name, L[i'].data, (L[i'].data.size : Int)⟩) := by
    refine ⟨?_, fun f h => ?_⟩
    · rw [List.length_set]; exact hR6
    · rcases List.mem_or_eq_of_mem_set h with h | h
      · exact hf f h
      · subst h; exact ⟨hff.1, hff.2.1, by simp only []; omega, by have := hff.2.1; unfold maxLen at this; simp only []; omega⟩
  have hO7 := OwnF.far (OwnF.far hO6 (p := ⟨w.heap.size + 1, 0, none⟩) (by simp only []; omega) (.slice (some ⟨g, 0, none⟩) L.length x)) (p := ⟨w.heap.size + 1, 1, none⟩) (by simp only []; omega) (.int .i64 0)
  refine bodyPost_ret (v := fsOut (.slice (some ⟨g, 0, none⟩) L.length x) 0) (by simp only [results, Tryz.results28]; simp [go_sem, k0, k1]) rfl ⟨some ⟨g, 0, none⟩, x, by rw [List.length_set], OwnF.base hO7 (by omega), ?_⟩
  exact (hw6.setCell (by simp) _).setCell (by simp) _

/-- FsSync: spec and impl answer alike. -/
theorem fsSync_both (L : List Fil) (s : ByteArray) (a0 a1 a2 a3 a4 : Addr) (hf : ∀ f ∈ L, f.fits) (hS : Small L) (hs : s.size ≤ maxLen) (hs2 : s.size ≤ 1048576) :
    ∃ (M : List Fil) (cd : Int), (∀ f ∈ M, f.fits) ∧ M.length ≤ L.length + 1 ∧ Small M ∧
      (∀ W A c, Fls W W.heap.size A L → Calls Tryz.prog 28 #[.agg #[.slice A L.length c], .string s] W fun e w' => ∃ C x, e = .returned (fsOut (.slice C M.length x) cd) ∧ OwnF w' W.heap.size (.slice C M.length x) M ∧ Below W.heap.size W w') ∧
      (∀ W A c, Fls W W.heap.size A L → Errs W a0 a1 a2 a3 a4 → Calls Tryz.prog 23 #[.agg #[.slice A L.length c], .string s] W fun e w' => ∃ C x, e = .returned (fsOut (.slice C M.length x) cd) ∧ OwnF w' W.heap.size (.slice C M.length x) M ∧ Below W.heap.size W w') := by
  have hsN : ∀ x ∈ [s], x.size ≤ maxLen := by intro x hx; simp at hx; subst hx; exact hs
  have nil : ∀ {f : FuncId} {args : Array Value} {W : World} {cd : Int}, (Calls Tryz.prog f args W fun e w' => e = .returned (fsOut (.slice none 0 0) cd) ∧ Below W.heap.size W w') → Calls Tryz.prog f args W fun e w' => ∃ C x, e = .returned (fsOut (.slice C ([] : List Fil).length x) cd) ∧ OwnF w' W.heap.size (.slice C ([] : List Fil).length x) [] ∧ Below W.heap.size W w' :=
    fun h => h.mono fun e w' ⟨he, hb⟩ => ⟨none, 0, he, ownF_nil _ _, hb⟩
  rcases code_cases L s with ⟨h1, hc⟩ | ⟨h1, h2, hc⟩ | ⟨h1, h2, h3, h4, hc⟩ | ⟨h1, h2, h3, ⟨i, hi, h4, h5⟩, hc⟩
  · refine ⟨[], 2, by simp, by simp, small_nil, fun W A c hL => specSync_err A L c s 2 W hL hs hc (by decide), fun W A c hL hE => implFsSync_of A L c s W [] 2 (Lib.hid (nil ?_))⟩
    have hb := wFsSync_below A L c s W
    exact change_long A L c _ [s] 1 _ a0 a1 a2 a3 a4 _ (hE.below hb) (wFsSync_names A L c s W) (by simp) hsN h1
  · refine ⟨[], 1, by simp, by simp, small_nil, fun W A c hL => specSync_err A L c s 1 W hL hs hc (by decide), fun W A c hL hE => implFsSync_of A L c s W [] 1 (Lib.hid (nil ?_))⟩
    have hb := wFsSync_below A L c s W
    exact change_bad A L c _ [s] 1 _ a0 a1 a2 a3 a4 _ (hE.below hb) ((hL.below hb (Nat.le_refl _)).mono hb.size) (wFsSync_names A L c s W) (by simp) hsN h1 h2
  · refine ⟨[], 6, by simp, by simp, small_nil, fun W A c hL => specSync_err A L c s 6 W hL hs hc (by decide), fun W A c hL hE => implFsSync_of A L c s W [] 6 (Lib.hid (nil ?_))⟩
    have hb := wFsSync_below A L c s W
    exact change_err A L c _ [s] 1 62 _ 2 a2 a0 a1 a2 a3 a4 _ (hE.below hb) ((hL.below hb (Nat.le_refl _)).mono hb.size) (wFsSync_names A L c s W) (by simp) hsN h1 h2 enters_sync rfl
      (Lib.hid fun W2 b n hW2 _ hM _ => syncC_none _ b n L s a0 a1 a2 a3 a4 W2 (((wFsSync_box0 A L c s W).below hW2 (wFsSync_box0 A L c s W).lt).cell (i := 0) rfl) hM hs ((hE.below hb).below hW2) h4)
  · have hR := rising_of_ok h3
    have hfi := hf _ (List.getElem_mem hi)
    have hfx : ∀ f ∈ L.set i ⟨L[i].name, L[i].data, (L[i].data.size : Int)⟩, f.fits := fun f h => by
      rcases List.mem_or_eq_of_mem_set h with h | h
      · exact hf f h
      · subst h; exact ⟨hfi.1, hfi.2.1, by simp only []; omega, by have := hfi.2.1; unfold maxLen at this; simp only []; omega⟩
    have hSx : Small (L.set i ⟨L[i].name, L[i].data, (L[i].data.size : Int)⟩) := by
      refine small_of (L := L) (by rw [List.length_set]; exact hS.1) fun g hg => ?_
      rcases List.mem_or_eq_of_mem_set hg with h | h
      · exact small_mem hS h
      · subst h; exact hS.2 i hi
    refine ⟨L.set i ⟨L[i].name, L[i].data, (L[i].data.size : Int)⟩, 0, hfx, by rw [List.length_set]; omega, hSx, fun W A c hL => specSync_ok A L c s i hi W hL hS hs hc h4 hR, fun W A c hL hE => implFsSync_of A L c s W _ 0 (Lib.hid ?_)⟩
    have hb := wFsSync_below A L c s W
    refine change_ok A L c _ [s] 1 62 _ _ _ ((hL.below hb (Nat.le_refl _)).mono hb.size) (wFsSync_names A L c s W) (by simp) hsN h1 h2 enters_sync (rising_set hR hi rfl) hfx hSx
      (Lib.hid fun W2 b n hW2 _ hM hn => (syncC_ok _ b n L s L[i] W2 (((wFsSync_box0 A L c s W).below hW2 (wFsSync_box0 A L c s W).lt).cell (i := 0) rfl) hM (by omega) hs h4 hfi h5).mono fun e w' ⟨he, hm, hg⟩ => ⟨he, ⟨n + 1, by omega, ?_⟩, hg⟩)
    have := put_at hR hi (f := ⟨L[i].name, L[i].data, (L[i].data.size : Int)⟩) rfl
    rw [this] at hm
    exact hm
end Go.Proofs.YtpgodphnjeifhaaGreatDoor

namespace Go.Proofs.YtpgodphnjeifhaaGreatDoor
open Go.RowKit
set_option linter.unusedVariables false

set_option maxHeartbeats 1600000 in
set_option maxRecDepth 1000000 in
theorem joined_any (a b : ByteArray) (w : World) (hab : a.size + b.size ≤ 1048576) :
    Calls Tryz.prog 72 #[.string a, .string b] w fun e w' => e = .returned (.string (a ++ b)) ∧ Below w.heap.size w w' := by
  obtain ⟨i0, hi, hz0, hz1, hz2⟩ := info_parts infoU8
  have hA : (a.size : Int) + (b.size : Int) = ((a.size + b.size : Nat) : Int) := by omega
  have HA := Lib.hid hA
  clear hA
  go_enter Tryz.func72, Tryz.ntmps72
  go_wp2_with (first
    | (at_make; refine wpList_make_full _ rfl _ _ 22 rfl w.heap.size 5 i0 (.int .u8 0) 1 Tryz.underlying22 hi hz0 hz1 _ _ _ _ (a.size + b.size) rfl rfl HA.out HA.out (by rw [hz2]; omega) (by unfold maxLen; omega) (Nat.le_refl _) ?_; intro w1 hown1 hgrow1; obtain ⟨Z, HG1, hZ⟩ := own_heap' hown1; have HZ := Lib.hid hZ; clear hZ; have hb1 := (Below.refl w.heap.size w).grown hgrow1 (Nat.le_refl _) (fun k e => by cases e); clear hown1 hgrow1)
    | ((with_reducible refine wpList_copy_str rfl (.tmp 12) (.tmp 13) 22 9 rfl 5 Tryz.underlying22 sizeU8 _ _ _ a rfl rfl w.heap.size 0 _ 5 HG1.out (by omega) (fun _ => rfl) (by rw [HZ.out]; omega) w.heap.size w hb1 (Nat.le_refl _) ?_); intro w2 HG2 hb2; clear HG1 hb1)
    | ((with_reducible refine wpList_copy_str rfl (.tmp 18) (.tmp 19) 22 9 rfl 5 Tryz.underlying22 sizeU8 _ _ _ b rfl rfl w.heap.size a.size _ 5 HG2.out ?_ ?_ ?_ w.heap.size w hb2 (Nat.le_refl _) ?_); (omega); (intro h; rw [if_neg (ne_empty h)]); (have := splice_len0 HZ.out; omega); intro w3 HG3 hb3; clear HG2 hb2; have hcv := conv_two (n := a.size + b.size) rfl hab HG3 HZ))
  all_goals go_ret
  all_goals exact ⟨rfl, hb3⟩

end Go.Proofs.YtpgodphnjeifhaaGreatDoor

namespace Go.Proofs.YtpgodphnjeifhaaGreatDoor
open Go.RowKit
set_option linter.unusedVariables false
set_option maxRecDepth 1000000

set_option maxHeartbeats 4000000 in
theorem make_some (b n : Nat) (L : List Fil) (s : ByteArray) (f : Fil) (a0 a1 a2 a3 a4 : Addr) (w : World) (hM : MapF w b n L) (hs : s.size ≤ maxLen) (hE : Errs w a0 a1 a2 a3 a4) (hf : findF L s = some f) :
    Calls Tryz.prog 71 #[.map (some b), .string s] w fun e w' => e = .returned (.tuple #[f.val, .nilIface]) ∧ Below w.heap.size w w' := by
  have hR0 := Blk.fresh w 53 [.string ⟨#[]⟩, .string ⟨#[]⟩, .int .i64 0]
  have hb0 : Below w.heap.size w (w.alloc (.cells #[.string ⟨#[]⟩, .string ⟨#[]⟩, .int .i64 0] 53)) := (Below.refl _ _).alloc (Nat.le_refl _) _
  have Fi := find_some b n L s f _ (hM.below hb0) hs hf
  obtain ⟨s0, s1, k⟩ := f
  unfold Fil.val at Fi ⊢
  simp only at Fi ⊢
  go_enter Tryz.func71, Tryz.ntmps71
  go_wp2_with (fail)
  refine Fi.mono ?_
  rintro e w1 ⟨rfl, hb1⟩
  have hw1 := hb0.trans (hb1.mono hb0.size)
  have hw2 := hw1.alloc hw1.size (.cells #[.string s0, .string s1, .int .i64 k] 53)
  have hR1 := (hR0.below hb1 hR0.lt).alloc (.cells #[.string s0, .string s1, .int .i64 k] 53)
  have e2 := (hE.below hw2).1.2.2.1
  go_wp2_with (fail)
  refine (is_nil a2 _).mono ?_
  rintro e w3 ⟨rfl, rfl⟩
  have r0 := hR1.cell (i := 0) rfl
  have r1 := hR1.cell (i := 1) rfl
  have r2 := hR1.cell (i := 2) rfl
  have q0 := hR1.froz 0
  have q1 := hR1.froz 1
  have q2 := hR1.froz 2
  go_wp2
  have hp := ((hR1.put 0 (.string s0)).put 1 (.string s1)).put 2 (.int .i64 k)
  have k0 := hp.cell (i := 0) rfl
  have k1 := hp.cell (i := 1) rfl
  have k2 := hp.cell (i := 2) rfl
  refine bodyPost_ret (v := .tuple #[.agg #[.string s0, .string s1, .int .i64 k], .nilIface]) (by simp [results, Tryz.results71, go_sem, k0, k1, k2]) rfl ⟨rfl, ?_⟩
  exact ((hw2.setCell (by simp) _).setCell (by simp) _).setCell (by simp) _

set_option maxHeartbeats 4000000 in
theorem make_new (b n : Nat) (L : List Fil) (s : ByteArray) (a0 a1 a2 a3 a4 : Addr) (w : World) (hM : MapF w b n L) (hs : s.size ≤ maxLen) (hE : Errs w a0 a1 a2 a3 a4) (hf : findF L s = none) (hl : L.length < 12) :
    Calls Tryz.prog 71 #[.map (some b), .string s] w fun e w' => e = .returned (.tuple #[.agg #[.string s, .string ⟨#[]⟩, .int .i64 0], .nilIface]) ∧ Below w.heap.size w w' := by
  have hR0 := Blk.fresh w 53 [.string ⟨#[]⟩, .string ⟨#[]⟩, .int .i64 0]
  have hb0 : Below w.heap.size w (w.alloc (.cells #[.string ⟨#[]⟩, .string ⟨#[]⟩, .int .i64 0] 53)) := (Below.refl _ _).alloc (Nat.le_refl _) _
  have Fi := find_none b n L s a0 a1 a2 a3 a4 _ (hM.below hb0) hs (hE.below hb0) hf
  unfold Fil.val zeroFil at Fi
  simp only at Fi
  have hl' : ¬ (12 : Int) ≤ (L.length : Int) := by omega
  go_enter Tryz.func71, Tryz.ntmps71
  go_wp2_with (fail)
  refine Fi.mono ?_
  rintro e w1 ⟨rfl, hb1⟩
  have hw1 := hb0.trans (hb1.mono hb0.size)
  have hw2 := hw1.alloc hw1.size (.cells #[.string ⟨#[]⟩, .string ⟨#[]⟩, .int .i64 0] 53)
  have hR1 := (hR0.below hb1 hR0.lt).alloc (.cells #[.string ⟨#[]⟩, .string ⟨#[]⟩, .int .i64 0] 53)
  have e2 := (hE.below hw2).1.2.2.1
  have hM2 := hM.below hw2
  go_wp2_with (fail)
  refine (is_same a2 _).mono ?_
  rintro e w3 ⟨rfl, rfl⟩
  have r0 := hR1.cell (i := 0) rfl
  have r1 := hR1.cell (i := 1) rfl
  have r2 := hR1.cell (i := 2) rfl
  have q0 := hR1.froz 0
  have q1 := hR1.froz 1
  have q2 := hR1.froz 2
  go_wp2_with (at_len; refine wpList_len_own _ rfl _ 62 rfl 9 53 Tryz.underlying62 filElem b n _ rfl hM2 ?_; rw [size_D])
  have hp := ((hR1.put 0 (.string s)).put 1 (.string ⟨#[]⟩)).put 2 (.int .i64 0)
  have k0 := hp.cell (i := 0) rfl
  have k1 := hp.cell (i := 1) rfl
  have k2 := hp.cell (i := 2) rfl
  refine bodyPost_ret (v := .tuple #[.agg #[.string s, .string ⟨#[]⟩, .int .i64 0], .nilIface]) (by simp [results, Tryz.results71, go_sem, k0, k1, k2]) rfl ⟨rfl, ?_⟩
  exact ((hw2.setCell (by simp) _).setCell (by simp) _).setCell (by simp) _

set_option maxHeartbeats 4000000 in
theorem make_full (b n : Nat) (L : List Fil) (s : ByteArray) (a0 a1 a2 a3 a4 : Addr) (w : World) (hM : MapF w b n L) (hs : s.size ≤ maxLen) (hE : Errs w a0 a1 a2 a3 a4) (hf : findF L s = none) (hl : 12 ≤ L.length) :
    Calls Tryz.prog 71 #[.map (some b), .string s] w fun e w' => e = .returned (.tuple #[.agg #[.string ⟨#[]⟩, .string ⟨#[]⟩, .int .i64 0], errV a4]) ∧ Below w.heap.size w w' := by
  have hR0 := Blk.fresh w 53 [.string ⟨#[]⟩, .string ⟨#[]⟩, .int .i64 0]
  have hb0 : Below w.heap.size w (w.alloc (.cells #[.string ⟨#[]⟩, .string ⟨#[]⟩, .int .i64 0] 53)) := (Below.refl _ _).alloc (Nat.le_refl _) _
  have Fi := find_none b n L s a0 a1 a2 a3 a4 _ (hM.below hb0) hs (hE.below hb0) hf
  unfold Fil.val zeroFil at Fi
  simp only at Fi
  have hl' : (12 : Int) ≤ (L.length : Int) := by omega
  go_enter Tryz.func71, Tryz.ntmps71
  go_wp2_with (fail)
  refine Fi.mono ?_
  rintro e w1 ⟨rfl, hb1⟩
  have hw1 := hb0.trans (hb1.mono hb0.size)
  have hw2 := hw1.alloc hw1.size (.cells #[.string ⟨#[]⟩, .string ⟨#[]⟩, .int .i64 0] 53)
  have hR1 := (hR0.below hb1 hR0.lt).alloc (.cells #[.string ⟨#[]⟩, .string ⟨#[]⟩, .int .i64 0] 53)
  have e2 := (hE.below hw2).1.2.2.1
  have hM2 := hM.below hw2
  go_wp2_with (fail)
  refine (is_same a2 _).mono ?_
  rintro e w3 ⟨rfl, rfl⟩
  clear e2
  go_wp2_with (at_len; refine wpList_len_own _ rfl _ 62 rfl 9 53 Tryz.underlying62 filElem b n _ rfl hM2 ?_; rw [size_D])
  generalize w1.alloc (.cells #[.string ⟨#[]⟩, .string ⟨#[]⟩, .int .i64 0] 53) = w4 at hw2 hR1 ⊢
  have e4 := (hE.below hw2).1.2.2.2.2
  have hR4 := hR1
  have r0 := hR4.cell (i := 0) rfl
  have r1 := hR4.cell (i := 1) rfl
  have r2 := hR4.cell (i := 2) rfl
  have q0 := hR4.froz 0
  have q1 := hR4.froz 1
  have q2 := hR4.froz 2
  have hgl : 0 < w.heap.size := by
    have := hE.1.2.2.2.2
    exact World.block_lt_of_cell? w _ this
  go_region
  all_goals
    go_wp2
    have hp := (((hR4.put 0 (.string ⟨#[]⟩)).put 1 (.string ⟨#[]⟩)).put 2 (.int .i64 0)).drew
    have k0 := hp.cell (i := 0) rfl
    have k1 := hp.cell (i := 1) rfl
    have k2 := hp.cell (i := 2) rfl
    refine bodyPost_ret (v := .tuple #[.agg #[.string ⟨#[]⟩, .string ⟨#[]⟩, .int .i64 0], errV a4]) (by simp [results, Tryz.results71, go_sem, k0, k1, k2]) rfl ⟨rfl, ?_⟩
    exact below_drew (((hw2.setCell (by simp) _).setCell (by simp) _).setCell (by simp) _)

set_option maxHeartbeats 8000000 in
theorem extend_ok (b n : Nat) (L : List Fil) (s t : ByteArray) (f : Fil) (w : World) (hM : MapF w b n L) (hn : n ≤ 1000) (hs : s.size ≤ maxLen) (ht : t.size ≤ 20000) (hd : f.data.size ≤ 3000) (hfn : f.name = s) (hsum : ¬ 3000 < f.data.size + t.size)
    (Mk : Hid (Calls Tryz.prog 71 #[.map (some b), .string s] w fun e w' => e = .returned (.tuple #[f.val, .nilIface]) ∧ Below w.heap.size w w')) :
    Calls Tryz.prog 41 #[.map (some b), .string s, .string t] w fun e w' => e = .returned .nilIface ∧ MapF w' b (n + 1) (putL L ⟨f.name, f.data ++ t, f.sync⟩) ∧ w.grownBy w' (some b) := by
  obtain ⟨s0, s1, k⟩ := f
  simp only at hfn hd hsum ⊢
  subst hfn
  unfold Fil.val at Mk
  simp only at Mk
  have hbl := World.ownsMap.lt hM
  have hsum' : ¬ (3000 : Int) < (s1.size : Int) + (t.size : Int) := by omega
  go_enter Tryz.func41, Tryz.ntmps41
  go_wp2_with (fail)
  refine Mk.out.mono ?_
  rintro e w1 ⟨rfl, hb1⟩
  have hb2 := hb1.alloc hb1.size (.cells #[.string s0, .string s1, .int .i64 k] 53)
  have hX2 := Blk.fresh w1 53 [.string s0, .string s1, .int .i64 k]
  go_wp2_with (fail)
  refine (joined_any s1 t _ (by omega)).mono ?_
  rintro e w3 ⟨rfl, hb3⟩
  have hw3 := hb2.trans (hb3.mono hb2.size)
  have hX3 := hX2.below hb3 hX2.lt
  have x1 := hX3.cell (i := 1) rfl
  have q1 := hX3.froz 1
  have hX4 := hX3.put 1 (.string (s1 ++ t))
  have y0 := hX4.cell (i := 0) rfl
  have y1 := hX4.cell (i := 1) rfl
  have y2 := hX4.cell (i := 2) rfl
  have hz1 := hb1.size
  have hw4 := hw3.setCell (p := ⟨w1.heap.size, 1, none⟩) (by simpa using hz1) (.string (s1 ++ t))
  have hM4 := hM.below hw4
  go_wp2_with (at_mapUpdate; refine wpList_mapUpdate_own _ rfl _ _ _ 62 rfl 9 53 keyed Tryz.underlying62 filElem b n _ rfl hM4 (by unfold maxLen; omega) _ _ _ rfl rfl (key_mk hs) (fileD ⟨s0, s1 ++ t, k⟩) [] (filElem_mk ⟨s0, s1 ++ t, k⟩) ?_)
  intro w5 hM5 hg5
  have hp := put_D L ⟨s0, s1 ++ t, k⟩
  simp only at hp
  rw [hp] at hM5
  go_wp2
  go_ret
  exact ⟨rfl, hM5, ⟨hg5.os.trans hw4.os, hg5.tape.trans hw4.tape, hg5.output.trans hw4.output, Nat.le_trans hw4.size hg5.size, fun j hj hne => (hg5.block j (by have := hw4.size; omega) hne).trans (hw4.block j hj)⟩⟩

set_option maxHeartbeats 4000000 in
theorem extend_full (b n : Nat) (L : List Fil) (s t : ByteArray) (f : Fil) (a0 a1 a2 a3 a4 : Addr) (w : World) (ht : t.size ≤ 20000) (hd : f.data.size ≤ 3000) (hE : Errs w a0 a1 a2 a3 a4) (hsum : 3000 < f.data.size + t.size)
    (Mk : Hid (Calls Tryz.prog 71 #[.map (some b), .string s] w fun e w' => e = .returned (.tuple #[f.val, .nilIface]) ∧ Below w.heap.size w w')) :
    Calls Tryz.prog 41 #[.map (some b), .string s, .string t] w fun e w' => e = .returned (errV a4) ∧ Below w.heap.size w w' := by
  obtain ⟨s0, s1, k⟩ := f
  simp only at hd hsum
  unfold Fil.val at Mk
  simp only at Mk
  have hsum' : (3000 : Int) < (s1.size : Int) + (t.size : Int) := by omega
  go_enter Tryz.func41, Tryz.ntmps41
  go_wp2_with (fail)
  refine Mk.out.mono ?_
  rintro e w1 ⟨rfl, hb1⟩
  have hb2 := hb1.alloc hb1.size (.cells #[.string s0, .string s1, .int .i64 k] 53)
  have e4 := (hE.below hb2).1.2.2.2.2
  go_wp2
  go_ret
  exact ⟨rfl, hb2⟩

set_option maxHeartbeats 4000000 in
theorem extend_err (b n : Nat) (L : List Fil) (s t : ByteArray) (a0 a1 a2 a3 a4 : Addr) (w : World) (hM : MapF w b n L) (hs : s.size ≤ maxLen) (hE : Errs w a0 a1 a2 a3 a4) (hf : findF L s = none) (hl : 12 ≤ L.length) :
    Calls Tryz.prog 41 #[.map (some b), .string s, .string t] w fun e w' => e = .returned (errV a4) ∧ Below w.heap.size w w' := by
  have Mk := Lib.hid (make_full b n L s a0 a1 a2 a3 a4 w hM hs hE hf hl)
  go_enter Tryz.func41, Tryz.ntmps41
  go_wp2_with (fail)
  refine Mk.out.mono ?_
  rintro e w1 ⟨rfl, hb1⟩
  have hb2 := hb1.alloc hb1.size (.cells #[.string ⟨#[]⟩, .string ⟨#[]⟩, .int .i64 0] 53)
  go_wp2
  go_ret
  exact ⟨rfl, hb2⟩
end Go.Proofs.YtpgodphnjeifhaaGreatDoor
