/- FsCut: spec and impl answer alike. -/
import Derived.Test.YtapnmnghdgkbpaaDoorFsSyn
import Derived.Test.YtapnmnghdgkbpaaDoorFCut
import Derived.BigRegion
import Derived.StillTailTactics
namespace Go.Proofs.YtapnmnghdgkbpaaDoor
open Go.RowKit
set_option linter.unusedVariables false
set_option maxRecDepth 1000000

/-- The world behind FsCut's boxes and its list of names. -/
def wFsCut (A : Option Addr) (L : List Fil) (c : Nat) (s : ByteArray) (z : Int) (w : World) : World := ((((w.alloc (.cells #[.slice A L.length c] 50)).alloc (.cells #[.string s] 9)).alloc (.cells #[.int .i64 z] 2)).alloc (.cells #[.slice none 0 0, .int .i64 0] 52)).alloc (.cells #[.string s] 9)
theorem wFsCut_size (A : Option Addr) (L : List Fil) (c : Nat) (s : ByteArray) (z : Int) (w : World) : (wFsCut A L c s z w).heap.size = w.heap.size + 5 := by unfold wFsCut; simp
theorem wFsCut_below (A : Option Addr) (L : List Fil) (c : Nat) (s : ByteArray) (z : Int) (w : World) : Below w.heap.size w (wFsCut A L c s z w) := by
  unfold wFsCut
  exact ((((((Below.refl _ _).alloc (Nat.le_refl _) _).alloc (by simp only [World.size_alloc]; omega) _).alloc (by simp only [World.size_alloc]; omega) _).alloc (by simp only [World.size_alloc]; omega) _).alloc (by simp only [World.size_alloc]; omega) _)
theorem wFsCut_names (A : Option Addr) (L : List Fil) (c : Nat) (s : ByteArray) (z : Int) (w : World) : StrA (wFsCut A L c s z w) (some ⟨w.heap.size + 4, 0, none⟩) [s] := by
  have h := Blk.fresh ((((w.alloc (.cells #[.slice A L.length c] 50)).alloc (.cells #[.string s] 9)).alloc (.cells #[.int .i64 z] 2)).alloc (.cells #[.slice none 0 0, .int .i64 0] 52)) 9 [.string s]
  have hz : ((((w.alloc (.cells #[.slice A L.length c] 50)).alloc (.cells #[.string s] 9)).alloc (.cells #[.int .i64 z] 2)).alloc (.cells #[.slice none 0 0, .int .i64 0] 52)).heap.size = w.heap.size + 4 := by simp
  rw [hz] at h
  intro i hi
  refine ⟨_, rfl, ?_⟩
  rw [addr_add0]
  refine Blk.cell (t := 9) (cs := [.string s]) h ?_
  have hi' : i < 1 := hi
  match i, hi' with
  | 0, _ => rfl

theorem wFsCut_box0 (A : Option Addr) (L : List Fil) (c : Nat) (s : ByteArray) (z : Int) (w : World) : Blk (wFsCut A L c s z w) (w.heap.size + 1) 9 [.string s] := by
  have h := Blk.fresh (w.alloc (.cells #[.slice A L.length c] 50)) 9 [.string s]
  have hz : (w.alloc (.cells #[.slice A L.length c] 50)).heap.size = w.heap.size + 1 := by simp
  rw [hz] at h
  unfold wFsCut
  exact ((h.alloc _).alloc _).alloc _
theorem wFsCut_box1 (A : Option Addr) (L : List Fil) (c : Nat) (s : ByteArray) (z : Int) (w : World) : Blk (wFsCut A L c s z w) (w.heap.size + 2) 2 [.int .i64 z] := by
  have h := Blk.fresh ((w.alloc (.cells #[.slice A L.length c] 50)).alloc (.cells #[.string s] 9)) 2 [.int .i64 z]
  have hz : ((w.alloc (.cells #[.slice A L.length c] 50)).alloc (.cells #[.string s] 9)).heap.size = w.heap.size + 2 := by simp
  rw [hz] at h
  unfold wFsCut
  exact (h.alloc _).alloc _
theorem wFsCut_res (A : Option Addr) (L : List Fil) (c : Nat) (s : ByteArray) (z : Int) (w : World) : Blk (wFsCut A L c s z w) (w.heap.size + 3) 52 [.slice none 0 0, .int .i64 0] := by
  have h := Blk.fresh (((w.alloc (.cells #[.slice A L.length c] 50)).alloc (.cells #[.string s] 9)).alloc (.cells #[.int .i64 z] 2)) 52 [.slice none 0 0, .int .i64 0]
  have hz : (((w.alloc (.cells #[.slice A L.length c] 50)).alloc (.cells #[.string s] 9)).alloc (.cells #[.int .i64 z] 2)).heap.size = w.heap.size + 3 := by simp
  rw [hz] at h
  unfold wFsCut
  exact h.alloc _

set_option maxHeartbeats 4000000 in
theorem implFsCut_of (A : Option Addr) (L : List Fil) (c : Nat) (s : ByteArray) (z : Int) (w : World) (M : List Fil) (cd : Int)
    (H : Hid (Calls Tryd.prog 71 #[.agg #[.slice A L.length c], .func (.func 82) #[] #[.pointer (some ⟨w.heap.size + 1, 0, none⟩), .pointer (some ⟨w.heap.size + 2, 0, none⟩)], .slice (some ⟨w.heap.size + 4, 0, none⟩) 1 1] (wFsCut A L c s z w) fun e w' => ∃ C x, e = .returned (fsOut (.slice C M.length x) cd) ∧ OwnF w' (wFsCut A L c s z w).heap.size (.slice C M.length x) M ∧ Below (wFsCut A L c s z w).heap.size (wFsCut A L c s z w) w')) :
    Calls Tryd.prog 41 #[.agg #[.slice A L.length c], .string s, .int .i64 z] w fun e w' => ∃ C x, e = .returned (fsOut (.slice C M.length x) cd) ∧ OwnF w' w.heap.size (.slice C M.length x) M ∧ Below w.heap.size w w' := by
  have hsz := wFsCut_size A L c s z w
  have hbw := wFsCut_below A L c s z w
  have hT0 := wFsCut_res A L c s z w
  go_enter Tryd.func41, Tryd.ntmps41
  go_wp2_with (fail)
  refine H.out.mono ?_
  rintro e w1 ⟨C, x, rfl, hO, hb1⟩
  have hT1 := hT0.below hb1 hT0.lt
  have hz1 := hb1.size
  have hw1 := hbw.trans (hb1.mono hbw.size)
  have t0 := hT1.cell (i := 0) rfl
  have t1 := hT1.cell (i := 1) rfl
  have f0 := hT1.froz 0
  have f1 := hT1.froz 1
  go_wp2
  have hp := (hT1.put 0 (.slice C M.length x)).put 1 (.int .i64 cd)
  have k0 := hp.cell (i := 0) rfl
  have k1 := hp.cell (i := 1) rfl
  have hO4 := (OwnF.far (OwnF.far hO (p := ⟨w.heap.size + 3, 0, none⟩) (by rw [hsz]; simp) (.slice C M.length x)) (p := ⟨w.heap.size + 3, 1, none⟩) (by rw [hsz]; simp) (.int .i64 cd))
  refine bodyPost_ret (v := fsOut (.slice C M.length x) cd) (by simp only [results, Tryd.results41]; simp [go_sem, k0, k1]) rfl ⟨C, x, rfl, OwnF.base hO4 (by omega), ?_⟩
  exact (hw1.setCell (by simp only []; omega) _).setCell (by simp only []; omega) _

theorem cut_fits {f : Fil} {z : Int} (h : f.fits) (z0 : 0 ≤ z) (z1 : z ≤ f.data.size) : (⟨f.name, f.data.extract 0 z.toNat, min z f.sync⟩ : Fil).fits := by
  obtain ⟨h0, h1, h2, h3⟩ := h
  refine ⟨h0, Nat.le_trans (by simp; omega) h1, ?_, ?_⟩
  · simp only []; omega
  · simp only []; omega
theorem enters_cut : Enters 82 := enters_of Tryd.func82 (by kernel_rfl) rfl
set_option maxHeartbeats 1000000 in
theorem cutC_ok (p q b n : Nat) (L : List Fil) (s : ByteArray) (z : Int) (f : Fil) (w : World) (hp : w.cell? ⟨p, 0, none⟩ = some (.string s)) (hq : w.cell? ⟨q, 0, none⟩ = some (.int .i64 z)) (hM : MapF w b n L) (hn : n ≤ 1000) (hs : s.size ≤ maxLen) (hf : findF L s = some f) (hff : f.fits) (hfn : f.name = s) (z0 : 0 ≤ z) (z1 : z ≤ f.data.size) :
    Calls Tryd.prog 82 #[.map (some b), .pointer (some ⟨p, 0, none⟩), .pointer (some ⟨q, 0, none⟩)] w fun e w' => e = .returned .nilIface ∧ MapF w' b (n + 1) (putL L ⟨f.name, f.data.extract 0 z.toNat, min f.sync z⟩) ∧ w.grownBy w' (some b) := by
  go_enter Tryd.func82, Tryd.ntmps82
  go_wp2_with (fail)
  refine (cut_some b n L s z f w hM hn hs hf hff hfn z0 z1).mono ?_
  rintro e w1 ⟨rfl, h1, h2⟩
  go_wp2
  go_ret
  exact ⟨rfl, h1, h2⟩
set_option maxHeartbeats 1000000 in
theorem cutC_none (p q b n : Nat) (L : List Fil) (s : ByteArray) (z : Int) (a0 a1 a2 a3 a4 : Addr) (w : World) (hp : w.cell? ⟨p, 0, none⟩ = some (.string s)) (hq : w.cell? ⟨q, 0, none⟩ = some (.int .i64 z)) (hM : MapF w b n L) (hs : s.size ≤ maxLen) (hE : Errs w a0 a1 a2 a3 a4) (hf : findF L s = none) :
    Calls Tryd.prog 82 #[.map (some b), .pointer (some ⟨p, 0, none⟩), .pointer (some ⟨q, 0, none⟩)] w fun e w' => e = .returned (errV a2) ∧ Below w.heap.size w w' := by
  go_enter Tryd.func82, Tryd.ntmps82
  go_wp2_with (fail)
  refine (cut_none b n L s z a0 a1 a2 a3 a4 w hM hs hE hf).mono ?_
  rintro e w1 ⟨rfl, h1⟩
  go_wp2
  go_ret
  exact ⟨rfl, h1⟩
set_option maxHeartbeats 1000000 in
theorem cutC_bad (p q b n : Nat) (L : List Fil) (s : ByteArray) (z : Int) (f : Fil) (a0 a1 a2 a3 a4 : Addr) (w : World) (hp : w.cell? ⟨p, 0, none⟩ = some (.string s)) (hq : w.cell? ⟨q, 0, none⟩ = some (.int .i64 z)) (hM : MapF w b n L) (hs : s.size ≤ maxLen) (hE : Errs w a0 a1 a2 a3 a4) (hf : findF L s = some f) (hff : f.fits) (hz : z < 0 ∨ (¬ z < 0 ∧ (f.data.size : Int) < z)) :
    Calls Tryd.prog 82 #[.map (some b), .pointer (some ⟨p, 0, none⟩), .pointer (some ⟨q, 0, none⟩)] w fun e w' => e = .returned (errV a3) ∧ Below w.heap.size w w' := by
  have C := cut_bad b n L s z f a0 a1 a2 a3 a4 w hM hs hE hf hff hz
  clear hz
  go_enter Tryd.func82, Tryd.ntmps82
  go_wp2_with (fail)
  refine C.mono ?_
  rintro e w1 ⟨rfl, h1⟩
  go_wp2
  go_ret
  exact ⟨rfl, h1⟩

set_option maxHeartbeats 2000000 in
theorem specCut_err (A : Option Addr) (L : List Fil) (c : Nat) (s : ByteArray) (z cd : Int) (w : World) (hL : Fls w w.heap.size A L) (hs : s.size ≤ maxLen) (hc : codeOf L s = cd) (h0 : cd ≠ 0) :
    Calls Tryd.prog 40 #[.agg #[.slice A L.length c], .string s, .int .i64 z] w fun e w' => ∃ C x, e = .returned (fsOut (.slice C ([] : List Fil).length x) cd) ∧ OwnF w' w.heap.size (.slice C ([] : List Fil).length x) [] ∧ Below w.heap.size w w' := by
  have hT0 := Blk.fresh (w.alloc (.cells #[.slice A L.length c] 50)) 52 [.slice none 0 0, .int .i64 0]
  simp only [World.size_alloc] at hT0
  have hb0 : Below w.heap.size w ((w.alloc (.cells #[.slice A L.length c] 50)).alloc (.cells #[.slice none 0 0, .int .i64 0] 52)) := ((Below.refl _ _).alloc (Nat.le_refl _) _).alloc (by simp) _
  have Be := l03Begin_any A L c s _ ((hL.below hb0 (Nat.le_refl _)).mono hb0.size) hs
  rw [hc] at Be
  have hcb : (cd != 0) = true := by simpa using h0
  go_enter Tryd.func40, Tryd.ntmps40
  go_wp2_with (fail)
  refine Be.mono ?_
  rintro e w1 ⟨k, rfl, _, _, hb1⟩
  have hw1 := hb0.trans (hb1.mono hb0.size)
  have hT1 := hT0.below hb1 hT0.lt
  go_wp2_with (fail)
  refine (ill_any cd _).mono ?_
  rintro e w2 ⟨rfl, hb2⟩
  have hw2 := hw1.trans (hb2.mono hw1.size)
  have hT2 := hT1.below hb2 hT1.lt
  have t0 := hT2.cell (i := 0) rfl
  have t1 := hT2.cell (i := 1) rfl
  have f0 := hT2.froz 0
  have f1 := hT2.froz 1
  go_wp2
  have hp := (hT2.put 0 (.slice none 0 0)).put 1 (.int .i64 cd)
  have k0 := hp.cell (i := 0) rfl
  have k1 := hp.cell (i := 1) rfl
  refine bodyPost_ret (v := fsOut (.slice none 0 0) cd) (by simp only [results, Tryd.results40]; simp [go_sem, k0, k1]) rfl ⟨none, 0, rfl, ownF_nil _ _, ?_⟩
  exact (hw2.setCell (by simp) _).setCell (by simp) _

set_option maxHeartbeats 4000000 in
theorem specCut_bad (A : Option Addr) (L : List Fil) (c : Nat) (s : ByteArray) (z : Int) (i : Nat) (hi : i < L.length) (w : World) (hL : Fls w w.heap.size A L) (hS : Small L) (hs : s.size ≤ maxLen) (hc : codeOf L s = 0) (hfi : findF L s = some L[i]) (hR : Rising L) (hz : ¬ (0 ≤ z ∧ z ≤ L[i].data.size)) :
    Calls Tryd.prog 40 #[.agg #[.slice A L.length c], .string s, .int .i64 z] w fun e w' => ∃ C x, e = .returned (fsOut (.slice C ([] : List Fil).length x) 8) ∧ OwnF w' w.heap.size (.slice C ([] : List Fil).length x) [] ∧ Below w.heap.size w w' := by
  have hT0 := Blk.fresh (w.alloc (.cells #[.slice A L.length c] 50)) 52 [.slice none 0 0, .int .i64 0]
  have hA0 := (Blk.fresh w 50 [.slice A L.length c]).alloc (.cells #[.slice none 0 0, .int .i64 0] 52)
  simp only [World.size_alloc] at hT0
  have hb0 : Below w.heap.size w ((w.alloc (.cells #[.slice A L.length c] 50)).alloc (.cells #[.slice none 0 0, .int .i64 0] 52)) := ((Below.refl _ _).alloc (Nat.le_refl _) _).alloc (by simp) _
  have Be := l03Begin_any A L c s _ ((hL.below hb0 (Nat.le_refl _)).mono hb0.size) hs
  rw [hc] at Be
  have IS := Lib.hid (fun W => l03Is_any z 0 (L[i].data.size : Int) W)
  have hzb : (decide (0 ≤ z) && decide (z ≤ (L[i].data.size : Int))) = false := by simpa using hz
  rw [hzb] at IS
  go_enter Tryd.func40, Tryd.ntmps40
  go_wp2_with (fail)
  refine Be.mono ?_
  rintro e w1 ⟨k, rfl, hk, _, hb1⟩
  obtain ⟨i', hi', rfl, hf', hn'⟩ := hk (by first | rfl | trivial)
  obtain rfl : i' = i := by
    rw [hfi] at hf'
    rcases Nat.decEq i' i with h | h
    · exact absurd (congrArg Fil.name (Option.some.inj hf')).symm (name_ne hR hi' hi h)
    · exact h
  have hw1 := hb0.trans (hb1.mono hb0.size)
  have hT1 := hT0.below hb1 hT0.lt
  have hA1 := hA0.below hb1 hA0.lt
  have b1 := hA1.cell (i := 0) rfl
  obtain ⟨a, rfl, hab, c0, c1, c2, hff⟩ := (hL.below hw1 (Nat.le_refl _)).at i' hi'
  have hi3 : (i' : Int) < (L.length : Int) := by omega
  have hd := hff.2.1
  unfold maxLen at hd
  go_wp2_with (fail)
  refine (IS.out _).mono ?_
  rintro e w2 ⟨rfl, rfl⟩
  go_wp2_with (fail)
  refine (ill_any 8 _).mono ?_
  rintro e w3 ⟨rfl, hb3⟩
  have hw3 := hw1.trans (hb3.mono hw1.size)
  have hT3 := hT1.below hb3 hT1.lt
  have t0 := hT3.cell (i := 0) rfl
  have t1 := hT3.cell (i := 1) rfl
  have f0 := hT3.froz 0
  have f1 := hT3.froz 1
  go_wp2
  have hp := (hT3.put 0 (.slice none 0 0)).put 1 (.int .i64 8)
  have k0 := hp.cell (i := 0) rfl
  have k1 := hp.cell (i := 1) rfl
  refine bodyPost_ret (v := fsOut (.slice none 0 0) 8) (by simp only [results, Tryd.results40]; simp [go_sem, k0, k1]) rfl ⟨none, 0, rfl, ownF_nil _ _, ?_⟩
  exact (hw3.setCell (by simp) _).setCell (by simp) _

set_option maxHeartbeats 4000000 in
theorem specCut_ok (A : Option Addr) (L : List Fil) (c : Nat) (s : ByteArray) (z : Int) (i : Nat) (hi : i < L.length) (w : World) (hL : Fls w w.heap.size A L) (hS : Small L) (hs : s.size ≤ maxLen) (hc : codeOf L s = 0) (hfi : findF L s = some L[i]) (hR : Rising L) (z0 : 0 ≤ z) (z1 : z ≤ L[i].data.size) :
    Calls Tryd.prog 40 #[.agg #[.slice A L.length c], .string s, .int .i64 z] w fun e w' => ∃ C x, e = .returned (fsOut (.slice C (L.set i ⟨L[i].name, L[i].data.extract 0 z.toNat, min z L[i].sync⟩).length x) 0) ∧ OwnF w' w.heap.size (.slice C (L.set i ⟨L[i].name, L[i].data.extract 0 z.toNat, min z L[i].sync⟩).length x) (L.set i ⟨L[i].name, L[i].data.extract 0 z.toNat, min z L[i].sync⟩) ∧ Below w.heap.size w w' := by
  have hT0 := Blk.fresh (w.alloc (.cells #[.slice A L.length c] 50)) 52 [.slice none 0 0, .int .i64 0]
  have hA0 := (Blk.fresh w 50 [.slice A L.length c]).alloc (.cells #[.slice none 0 0, .int .i64 0] 52)
  simp only [World.size_alloc] at hT0
  have hb0 : Below w.heap.size w ((w.alloc (.cells #[.slice A L.length c] 50)).alloc (.cells #[.slice none 0 0, .int .i64 0] 52)) := ((Below.refl _ _).alloc (Nat.le_refl _) _).alloc (by simp) _
  have hz0 : ((w.alloc (.cells #[.slice A L.length c] 50)).alloc (.cells #[.slice none 0 0, .int .i64 0] 52)).heap.size = w.heap.size + 2 := by simp
  have Be := l03Begin_any A L c s _ ((hL.below hb0 (Nat.le_refl _)).mono hb0.size) hs
  rw [hc] at Be
  have IS := Lib.hid (fun W => l03Is_any z 0 (L[i].data.size : Int) W)
  have hzb : (decide (0 ≤ z) && decide (z ≤ (L[i].data.size : Int))) = true := by simp [z0, z1]
  rw [hzb] at IS
  have hf : ∀ f ∈ L, f.fits := fun f h => by obtain ⟨i, hi, rfl⟩ := List.getElem_of_mem h; exact (hL.2 i hi).choose_spec.2.2.2.2.2
  go_enter Tryd.func40, Tryd.ntmps40
  go_wp2_with (fail)
  refine Be.mono ?_
  rintro e w1 ⟨k, rfl, hk, _, hb1⟩
  obtain ⟨i', hi', rfl, hf', hn'⟩ := hk (by first | rfl | trivial)
  obtain rfl : i' = i := by
    rw [hfi] at hf'
    rcases Nat.decEq i' i with h | h
    · exact absurd (congrArg Fil.name (Option.some.inj hf')).symm (name_ne hR hi' hi h)
    · exact h
  have hw1 := hb0.trans (hb1.mono hb0.size)
  have hT1 := hT0.below hb1 hT0.lt
  have hA1 := hA0.below hb1 hA0.lt
  have b1 := hA1.cell (i := 0) rfl
  obtain ⟨a, rfl, hab, c0, c1, c2, hff⟩ := (hL.below hw1 (Nat.le_refl _)).at i' hi'
  have hi3 : (i' : Int) < (L.length : Int) := by omega
  have hd := hff.2.1
  unfold maxLen at hd
  go_wp2_with (fail)
  refine (IS.out _).mono ?_
  rintro e wx ⟨rfl, rfl⟩
  clear c0 c1 c2
  go_wp2_with (fail)
  refine (l03Copy_any (some a) L c _ ((hL.below hw1 (Nat.le_refl _)).mono hw1.size) hS).mono ?_
  rintro e w2 ⟨C, x, rfl, hO, hb2⟩
  clear b1
  have hz1 := hw1.size
  have hz2 := hb2.size
  have hw2 := hw1.trans (hb2.mono hw1.size)
  have hT2 := hT1.below hb2 hT1.lt
  have hA2 := hA1.below hb2 hA1.lt
  have hAl := hA1.lt
  have hTl := hT1.lt
  obtain ⟨g, cp, hCv, hgj, hgl⟩ := hO.1.form (by omega)
  cases hCv
  have hX3 := Blk.fresh w2 50 [.slice (some ⟨g, 0, none⟩) L.length x]
  have hb3 : Below w2.heap.size w2 (w2.alloc (.cells #[.slice (some ⟨g, 0, none⟩) L.length x] 50)) := (Below.refl _ _).alloc (Nat.le_refl _) _
  have hw3 := hw2.trans (hb3.mono hw2.size)
  have hT3 := hT2.below hb3 hT2.lt
  have hA3 := hA2.below hb3 hA2.lt
  have hO3 := OwnF.below hO hb3 (Nat.le_refl _)
  obtain ⟨a', e', hab', c0, c1, c2, _⟩ := (hL.below hw3 (Nat.le_refl _)).at i' hi'
  cases e'
  obtain ⟨FL, HFL⟩ : ∃ FL, Hid (flat L = FL) := ⟨_, Lib.hid rfl⟩
  have hRd : (w2.alloc (.cells #[.slice (some ⟨g, 0, none⟩) L.length x] 50)).drew.ownsRow (wx.heap.size + 2) 84 3 (.slice (some ⟨g, 0, none⟩) L.length x) L.length FL := by rw [← HFL.out]; exact hO3.1
  have hXd := hX3.drew
  have hAd := hA3.drew
  have hTd := hT3.drew
  have hwd := below_drew hw3
  have c1d : (w2.alloc (.cells #[.slice (some ⟨g, 0, none⟩) L.length x] 50)).drew.cell? ⟨(a.add (i' * 3)).block, (a.add (i' * 3)).off + 1, none⟩ = some (.string L[i'].data) := c1
  have c2d : (w2.alloc (.cells #[.slice (some ⟨g, 0, none⟩) L.length x] 50)).drew.cell? ⟨(a.add (i' * 3)).block, (a.add (i' * 3)).off + 2, none⟩ = some (.int .i64 L[i'].sync) := c2
  have hbo : wx.heap.size + 2 ≤ g := hgj
  have hab3 : (a.add (i' * 3)).block < w.heap.size := by rw [add_blk]; exact hab
  go_wp2_with (fail)
  generalize hW : (w2.alloc (.cells #[.slice (some ⟨g, 0, none⟩) L.length x] 50)) = w4 at hXd hAd hTd hwd c1d c2d hRd ⊢
  generalize hbo2 : w2.heap.size = bo at hXd ⊢
  obtain ⟨u1, r1⟩ := row_cell hRd (j := i' * 3 + 1) (by omega)
  have s1 := hRd.frozenAt (i' * 3 + 1)
  have hx0 := hXd.cell (i := 0) rfl
  have ha0 := hAd.cell (i := 0) rfl
  clear hW hb3 hw3 hT3 hA3 hO3 hX3 hT2 hA2 hw2 hT1 hA1 hw1 hb1 hb2 hO c0 c1 c2 hb0 hT0 hA0
  go_region
  have hR6 : (w4.setCell ⟨g, i' * 3 + 1, none⟩ (.string (L[i'].data.extract 0 z.toNat))).drew.drew.ownsRow (wx.heap.size + 2) 84 3 (.slice (some ⟨g, 0, none⟩) L.length x) L.length (FL.set (i' * 3 + 1) (.string (L[i'].data.extract 0 z.toNat))) := (hRd.stored (i' * 3 + 1) (.string (L[i'].data.extract 0 z.toNat))).1
  have hX6 : Blk (w4.setCell ⟨g, i' * 3 + 1, none⟩ (.string (L[i'].data.extract 0 z.toNat))).drew.drew bo 50 [.slice (some ⟨g, 0, none⟩) L.length x] := hXd.far (p := ⟨g, i' * 3 + 1, none⟩) (by simp; omega) _
  have hA6 : Blk (w4.setCell ⟨g, i' * 3 + 1, none⟩ (.string (L[i'].data.extract 0 z.toNat))).drew.drew w.heap.size 50 [.slice (some a) L.length c] := hAd.far (p := ⟨g, i' * 3 + 1, none⟩) (by simp; omega) _
  have hT6 : Blk (w4.setCell ⟨g, i' * 3 + 1, none⟩ (.string (L[i'].data.extract 0 z.toNat))).drew.drew (w.heap.size + 1) 52 [.slice none 0 0, .int .i64 0] := hTd.far (p := ⟨g, i' * 3 + 1, none⟩) (by simp; omega) _
  have hw6 : Below w.heap.size w (w4.setCell ⟨g, i' * 3 + 1, none⟩ (.string (L[i'].data.extract 0 z.toNat))).drew.drew := below_drew (show Below w.heap.size w (w4.setCell ⟨g, i' * 3 + 1, none⟩ (.string (L[i'].data.extract 0 z.toNat))).drew from hwd.setCell (p := ⟨g, i' * 3 + 1, none⟩) (by simp; omega) _)
  have c6 : (w4.setCell ⟨g, i' * 3 + 1, none⟩ (.string (L[i'].data.extract 0 z.toNat))).drew.drew.cell? ⟨(a.add (i' * 3)).block, (a.add (i' * 3)).off + 2, none⟩ = some (.int .i64 L[i'].sync) := cell_put_far c2d (by simp; omega) _
  clear hRd hXd hTd hwd hAd r1 s1 hx0 ha0 c1d c2d
  generalize (w4.setCell ⟨g, i' * 3 + 1, none⟩ (.string (L[i'].data.extract 0 z.toNat))).drew = w6 at hR6 hX6 hA6 hT6 hw6 c6 ⊢
  obtain ⟨u2, r2⟩ := row_cell hR6 (j := i' * 3 + 2) (by omega)
  have s2 := hR6.frozenAt (i' * 3 + 2)
  have hx0 := hX6.cell (i := 0) rfl
  have ha0 := hA6.cell (i := 0) rfl
  have LM := fun W => l01Min_any z L[i'].sync W
  go_wp2
  refine wp_region_still_tail 13 (by kernel_rfl) (by kernel_rfl) ?_
  simp only [List.take_succ_cons, List.take_zero, List.drop_succ_cons, List.drop_zero]
  change wpStill _ _ w6.drew (fun a' => wpList _ _ _ _ a' w6.drew) _ _
  repeat (first | still_step | still_call (LM _))
  refine wpStill_nil ?_
  have hR7 : (w6.setCell ⟨g, i' * 3 + 2, none⟩ (.int .i64 (min z L[i'].sync))).drew.ownsRow (wx.heap.size + 2) 84 3 (.slice (some ⟨g, 0, none⟩) L.length x) L.length ((FL.set (i' * 3 + 1) (.string (L[i'].data.extract 0 z.toNat))).set (i' * 3 + 2) (.int .i64 (min z L[i'].sync))) := (hR6.stored (i' * 3 + 2) (.int .i64 (min z L[i'].sync))).1
  have hX7 : Blk (w6.setCell ⟨g, i' * 3 + 2, none⟩ (.int .i64 (min z L[i'].sync))).drew bo 50 [.slice (some ⟨g, 0, none⟩) L.length x] := hX6.far (p := ⟨g, i' * 3 + 2, none⟩) (by simp; omega) _
  have hT7 : Blk (w6.setCell ⟨g, i' * 3 + 2, none⟩ (.int .i64 (min z L[i'].sync))).drew (w.heap.size + 1) 52 [.slice none 0 0, .int .i64 0] := hT6.far (p := ⟨g, i' * 3 + 2, none⟩) (by simp; omega) _
  have hw7 : Below w.heap.size w (w6.setCell ⟨g, i' * 3 + 2, none⟩ (.int .i64 (min z L[i'].sync))).drew := hw6.setCell (p := ⟨g, i' * 3 + 2, none⟩) (by simp; omega) _
  have x0 := hX7.cell (i := 0) rfl
  have t0 := hT7.cell (i := 0) rfl
  have t1 := hT7.cell (i := 1) rfl
  have f0 := hT7.froz 0
  have f1 := hT7.froz 1
  rw [← HFL.out, flat_two hi'] at hR7
  have g1 : ((w6.setCell ⟨g, i' * 3 + 2, none⟩ (.int .i64 (min z L[i'].sync))).setCell ⟨w.heap.size + 1, 0, none⟩ (.slice (some ⟨g, 0, none⟩) L.length x)).drew.frozen? ⟨w.heap.size + 1, 1, none⟩ = false := (hT7.put 0 (.slice (some ⟨g, 0, none⟩) L.length x)).froz 1
  have g0 : ((w6.setCell ⟨g, i' * 3 + 2, none⟩ (.int .i64 (min z L[i'].sync))).setCell ⟨w.heap.size + 1, 0, none⟩ (.slice (some ⟨g, 0, none⟩) L.length x)).drew.cell? ⟨w.heap.size + 1, 1, none⟩ = some (.int .i64 0) := (hT7.put 0 (.slice (some ⟨g, 0, none⟩) L.length x)).cell (i := 1) rfl
  go_wp2
  have hp := (hT7.put 0 (.slice (some ⟨g, 0, none⟩) L.length x)).put 1 (.int .i64 0)
  have k0 := hp.cell (i := 0) rfl
  have k1 := hp.cell (i := 1) rfl
  have hO6 : OwnF (w6.setCell ⟨g, i' * 3 + 2, none⟩ (.int .i64 (min z L[i'].sync))).drew (wx.heap.size + 2) (.slice (some ⟨g, 0, none⟩) (L.set i' ⟨L[i'].name, L[i'].data.extract 0 z.toNat, min z L[i'].sync⟩).length x) (L.set i' ⟨L[i'].name, L[i'].data.extract 0 z.toNat, min z L[i'].sync⟩) := by
    refine ⟨?_, fun f h => ?_⟩
    · rw [List.length_set]; exact hR7
    · rcases List.mem_or_eq_of_mem_set h with h | h
      · exact hf f h
      · subst h; exact cut_fits hff z0 z1
  have hO7 := OwnF.far (OwnF.far hO6 (p := ⟨w.heap.size + 1, 0, none⟩) (by simp only []; omega) (.slice (some ⟨g, 0, none⟩) L.length x)) (p := ⟨w.heap.size + 1, 1, none⟩) (by simp only []; omega) (.int .i64 0)
  have k0' : ((w6.setCell ⟨g, i' * 3 + 2, none⟩ (.int .i64 (min z L[i'].sync))).setCell ⟨w.heap.size + 1, 0, none⟩ (.slice (some ⟨g, 0, none⟩) L.length x)).cell? ⟨w.heap.size + 1, 0, none⟩ = some (.slice (some ⟨g, 0, none⟩) L.length x) := (hT7.put 0 (.slice (some ⟨g, 0, none⟩) L.length x)).cell (i := 0) rfl
  have k1' : (((w6.setCell ⟨g, i' * 3 + 2, none⟩ (.int .i64 (min z L[i'].sync))).setCell ⟨w.heap.size + 1, 0, none⟩ (.slice (some ⟨g, 0, none⟩) L.length x)).setCell ⟨w.heap.size + 1, 1, none⟩ (.int .i64 0)).cell? ⟨w.heap.size + 1, 1, none⟩ = some (.int .i64 0) := hp.cell (i := 1) rfl
  have k2' : (((w6.setCell ⟨g, i' * 3 + 2, none⟩ (.int .i64 (min z L[i'].sync))).setCell ⟨w.heap.size + 1, 0, none⟩ (.slice (some ⟨g, 0, none⟩) L.length x)).setCell ⟨w.heap.size + 1, 1, none⟩ (.int .i64 0)).cell? ⟨w.heap.size + 1, 0, none⟩ = some (.slice (some ⟨g, 0, none⟩) L.length x) := hp.cell (i := 0) rfl
  refine bodyPost_ret (v := fsOut (.slice (some ⟨g, 0, none⟩) L.length x) 0) (by simp only [results, Tryd.results40]; simp [go_sem, k0', k1', k2']) rfl ⟨some ⟨g, 0, none⟩, x, by rw [List.length_set], OwnF.base hO7 (by omega), ?_⟩
  exact (hw7.setCell (by simp) _).setCell (by simp) _

/-- FsCut: spec and impl answer alike. -/
theorem fsCut_both (L : List Fil) (s : ByteArray) (z : Int) (a0 a1 a2 a3 a4 : Addr) (hf : ∀ f ∈ L, f.fits) (hS : Small L) (hs : s.size ≤ maxLen) (hz : (Lit.int .i64 z).wf = true) (hs2 : s.size ≤ 1048576) :
    ∃ (M : List Fil) (cd : Int), (∀ f ∈ M, f.fits) ∧ M.length ≤ L.length + 1 ∧
      (∀ W A c, Fls W W.heap.size A L → Calls Tryd.prog 40 #[.agg #[.slice A L.length c], .string s, .int .i64 z] W fun e w' => ∃ C x, e = .returned (fsOut (.slice C M.length x) cd) ∧ OwnF w' W.heap.size (.slice C M.length x) M ∧ Below W.heap.size W w') ∧
      (∀ W A c, Fls W W.heap.size A L → Errs W a0 a1 a2 a3 a4 → Calls Tryd.prog 41 #[.agg #[.slice A L.length c], .string s, .int .i64 z] W fun e w' => ∃ C x, e = .returned (fsOut (.slice C M.length x) cd) ∧ OwnF w' W.heap.size (.slice C M.length x) M ∧ Below W.heap.size W w') := by
  have hsN : ∀ x ∈ [s], x.size ≤ maxLen := by intro x hx; simp at hx; subst hx; exact hs
  have nil : ∀ {f : FuncId} {args : Array Value} {W : World} {cd : Int}, (Calls Tryd.prog f args W fun e w' => e = .returned (fsOut (.slice none 0 0) cd) ∧ Below W.heap.size W w') → Calls Tryd.prog f args W fun e w' => ∃ C x, e = .returned (fsOut (.slice C ([] : List Fil).length x) cd) ∧ OwnF w' W.heap.size (.slice C ([] : List Fil).length x) [] ∧ Below W.heap.size W w' :=
    fun h => h.mono fun e w' ⟨he, hb⟩ => ⟨none, 0, he, ownF_nil _ _, hb⟩
  rcases code_cases L s with ⟨h1, hc⟩ | ⟨h1, h2, hc⟩ | ⟨h1, h2, h3, h4, hc⟩ | ⟨h1, h2, h3, ⟨i, hi, h4, h5⟩, hc⟩
  · refine ⟨[], 2, by simp, by simp, fun W A c hL => specCut_err A L c s z 2 W hL hs hc (by decide), fun W A c hL hE => implFsCut_of A L c s z W [] 2 (Lib.hid (nil ?_))⟩
    have hb := wFsCut_below A L c s z W
    exact change_long A L c _ [s] 1 _ a0 a1 a2 a3 a4 _ (hE.below hb) (wFsCut_names A L c s z W) (by simp) hsN h1
  · refine ⟨[], 1, by simp, by simp, fun W A c hL => specCut_err A L c s z 1 W hL hs hc (by decide), fun W A c hL hE => implFsCut_of A L c s z W [] 1 (Lib.hid (nil ?_))⟩
    have hb := wFsCut_below A L c s z W
    exact change_bad A L c _ [s] 1 _ a0 a1 a2 a3 a4 _ (hE.below hb) ((hL.below hb (Nat.le_refl _)).mono hb.size) (wFsCut_names A L c s z W) (by simp) hsN h1 h2
  · refine ⟨[], 6, by simp, by simp, fun W A c hL => specCut_err A L c s z 6 W hL hs hc (by decide), fun W A c hL hE => implFsCut_of A L c s z W [] 6 (Lib.hid (nil ?_))⟩
    have hb := wFsCut_below A L c s z W
    exact change_err A L c _ [s] 1 82 _ 2 a2 a0 a1 a2 a3 a4 _ (hE.below hb) ((hL.below hb (Nat.le_refl _)).mono hb.size) (wFsCut_names A L c s z W) (by simp) hsN h1 h2 enters_cut rfl
      (Lib.hid fun W2 b n hW2 _ hM _ => cutC_none _ _ b n L s z a0 a1 a2 a3 a4 W2 (((wFsCut_box0 A L c s z W).below hW2 (wFsCut_box0 A L c s z W).lt).cell (i := 0) rfl) (((wFsCut_box1 A L c s z W).below hW2 (wFsCut_box1 A L c s z W).lt).cell (i := 0) rfl) hM hs ((hE.below hb).below hW2) h4)
  · have hR := rising_of_ok h3
    have hfi := hf _ (List.getElem_mem hi)
    by_cases hzz : 0 ≤ z ∧ z ≤ L[i].data.size
    · have hfx : ∀ f ∈ L.set i ⟨L[i].name, L[i].data.extract 0 z.toNat, min z L[i].sync⟩, f.fits := fun f h => by
        rcases List.mem_or_eq_of_mem_set h with h | h
        · exact hf f h
        · subst h; exact cut_fits hfi hzz.1 hzz.2
      have hSx : Small (L.set i ⟨L[i].name, L[i].data.extract 0 z.toNat, min z L[i].sync⟩) := by
        refine small_of (L := L) (by rw [List.length_set]; exact hS.1) fun g hg => ?_
        rcases List.mem_or_eq_of_mem_set hg with h | h
        · exact small_mem hS h
        · subst h; exact ⟨(hS.2 i hi).1, Nat.le_trans (by simp; omega) (hS.2 i hi).2⟩
      refine ⟨L.set i ⟨L[i].name, L[i].data.extract 0 z.toNat, min z L[i].sync⟩, 0, hfx, by rw [List.length_set]; omega, fun W A c hL => specCut_ok A L c s z i hi W hL hS hs hc h4 hR hzz.1 hzz.2, fun W A c hL hE => implFsCut_of A L c s z W _ 0 (Lib.hid ?_)⟩
      have hb := wFsCut_below A L c s z W
      refine change_ok A L c _ [s] 1 82 _ _ _ ((hL.below hb (Nat.le_refl _)).mono hb.size) (wFsCut_names A L c s z W) (by simp) hsN h1 h2 enters_cut (rising_set hR hi rfl) hfx hSx
        (Lib.hid fun W2 b n hW2 _ hM hn => (cutC_ok _ _ b n L s z L[i] W2 (((wFsCut_box0 A L c s z W).below hW2 (wFsCut_box0 A L c s z W).lt).cell (i := 0) rfl) (((wFsCut_box1 A L c s z W).below hW2 (wFsCut_box1 A L c s z W).lt).cell (i := 0) rfl) hM (by omega) hs h4 hfi h5 hzz.1 hzz.2).mono fun e w' ⟨he, hm, hg⟩ => ⟨he, ⟨n + 1, by omega, ?_⟩, hg⟩)
      have := put_at hR hi (f := ⟨L[i].name, L[i].data.extract 0 z.toNat, min L[i].sync z⟩) rfl
      rw [this, Int.min_comm] at hm
      exact hm
    · refine ⟨[], 8, by simp, by simp, fun W A c hL => specCut_bad A L c s z i hi W hL hS hs hc h4 hR hzz, fun W A c hL hE => implFsCut_of A L c s z W [] 8 (Lib.hid (nil ?_))⟩
      have hb := wFsCut_below A L c s z W
      exact change_err A L c _ [s] 1 82 _ 3 a3 a0 a1 a2 a3 a4 _ (hE.below hb) ((hL.below hb (Nat.le_refl _)).mono hb.size) (wFsCut_names A L c s z W) (by simp) hsN h1 h2 enters_cut rfl
        (Lib.hid fun W2 b n hW2 _ hM _ => cutC_bad _ _ b n L s z L[i] a0 a1 a2 a3 a4 W2 (((wFsCut_box0 A L c s z W).below hW2 (wFsCut_box0 A L c s z W).lt).cell (i := 0) rfl) (((wFsCut_box1 A L c s z W).below hW2 (wFsCut_box1 A L c s z W).lt).cell (i := 0) rfl) hM hs ((hE.below hb).below hW2) h4 hfi (by omega))
end Go.Proofs.YtapnmnghdgkbpaaDoor
