/- Contracts of the map's cut. FsCut: spec and impl answer alike. spec.l03Out: what it hands back is not nil. -/
import Derived.Test.YtpgodphnjeifhaaGreatDoorFSynW
import Derived.Test.YtpgodphnjeifhaaGreatDoorFApW
import Derived.BigRegion
import Derived.StillTailTactics
import Derived.Test.YtpgodphnjeifhaaGreatDoorFsHowW
namespace Go.Proofs.YtpgodphnjeifhaaGreatDoor
open Go.RowKit
set_option linter.unusedVariables false
set_option maxRecDepth 1000000

set_option maxHeartbeats 4000000 in
theorem cut_some (b n : Nat) (L : List Fil) (s : ByteArray) (z : Int) (f : Fil) (w : World) (hM : MapF w b n L) (hn : n ≤ 1000) (hs : s.size ≤ maxLen) (hf : findF L s = some f) (hff : f.fits) (hfn : f.name = s) (z0 : 0 ≤ z) (z1 : z ≤ f.data.size) :
    Calls Tryz.prog 66 #[.map (some b), .string s, .int .i64 z] w fun e w' => e = .returned .nilIface ∧ MapF w' b (n + 1) (putL L ⟨f.name, f.data.extract 0 z.toNat, min f.sync z⟩) ∧ w.grownBy w' (some b) := by
  have Fi := find_some b n L s f w hM hs hf
  obtain ⟨s0, s1, k⟩ := f
  simp only at hfn z1
  subst hfn
  unfold Fil.val at Fi
  simp only at Fi
  have hd := hff.2.1
  unfold maxLen at hd
  simp only at hd
  have hbl := World.ownsMap.lt hM
  go_enter Tryz.func66, Tryz.ntmps66
  go_wp2_with (fail)
  refine Fi.mono ?_
  rintro e w1 ⟨rfl, hb1⟩
  have hb3 := hb1.alloc hb1.size (.cells #[.string s0, .string (s1.extract 0 z.toNat), .int .i64 (min k z)] 53)
  have hM3 := hM.below hb3
  go_wp2_with (at_mapUpdate; refine wpList_mapUpdate_own _ rfl _ _ _ 62 rfl 9 53 keyed Tryz.underlying62 filElem b n _ rfl hM3 (by unfold maxLen; omega) _ _ _ rfl rfl (key_mk hs) (fileD ⟨s0, s1.extract 0 z.toNat, min k z⟩) [] (filElem_mk ⟨s0, s1.extract 0 z.toNat, min k z⟩) ?_)
  intro w5 hM5 hg5
  have hp := put_D L ⟨s0, s1.extract 0 z.toNat, min k z⟩
  simp only at hp
  rw [hp] at hM5
  go_wp2
  go_ret
  exact ⟨rfl, hM5, ⟨hg5.os.trans hb3.os, hg5.tape.trans hb3.tape, hg5.output.trans hb3.output, Nat.le_trans hb3.size hg5.size, fun j hj hne => (hg5.block j (by have := hb3.size; omega) hne).trans (hb3.block j hj)⟩⟩

set_option maxHeartbeats 2000000 in
theorem cut_none (b n : Nat) (L : List Fil) (s : ByteArray) (z : Int) (a0 a1 a2 a3 a4 : Addr) (w : World) (hM : MapF w b n L) (hs : s.size ≤ maxLen) (hE : Errs w a0 a1 a2 a3 a4) (hf : findF L s = none) :
    Calls Tryz.prog 66 #[.map (some b), .string s, .int .i64 z] w fun e w' => e = .returned (errV a2) ∧ Below w.heap.size w w' := by
  have Fi := find_none b n L s a0 a1 a2 a3 a4 w hM hs hE hf
  unfold Fil.val zeroFil at Fi
  simp only at Fi
  go_enter Tryz.func66, Tryz.ntmps66
  go_wp2_with (fail)
  refine Fi.mono ?_
  rintro e w1 ⟨rfl, hb1⟩
  go_wp2
  go_ret
  exact ⟨rfl, hb1.alloc hb1.size _⟩

set_option maxHeartbeats 4000000 in
theorem cut_bad (b n : Nat) (L : List Fil) (s : ByteArray) (z : Int) (f : Fil) (a0 a1 a2 a3 a4 : Addr) (w : World) (hM : MapF w b n L) (hs : s.size ≤ maxLen) (hE : Errs w a0 a1 a2 a3 a4) (hf : findF L s = some f) (hff : f.fits) (hz : z < 0 ∨ (¬ z < 0 ∧ (f.data.size : Int) < z)) :
    Calls Tryz.prog 66 #[.map (some b), .string s, .int .i64 z] w fun e w' => e = .returned (errV a3) ∧ Below w.heap.size w w' := by
  have Fi := find_some b n L s f w hM hs hf
  obtain ⟨s0, s1, k⟩ := f
  simp only at hz
  unfold Fil.val at Fi
  simp only at Fi
  have hd := hff.2.1
  unfold maxLen at hd
  simp only at hd
  rcases hz with hz | ⟨hz0, hz⟩
  all_goals
    go_enter Tryz.func66, Tryz.ntmps66
    go_wp2_with (fail)
    refine Fi.mono ?_
    rintro e w1 ⟨rfl, hb1⟩
    have e3 := (hE.below (hb1.alloc hb1.size (.cells #[.string s0, .string s1, .int .i64 k] 53))).1.2.2.2.1
    go_wp2
    go_ret
    exact ⟨rfl, hb1.alloc hb1.size _⟩
end Go.Proofs.YtpgodphnjeifhaaGreatDoor

namespace Go.Proofs.YtpgodphnjeifhaaGreatDoor
open Go.RowKit
set_option linter.unusedVariables false
set_option maxRecDepth 1000000

/-- The world behind FsCut's boxes and its list of names. -/
def wFsCut (A : Option Addr) (L : List Fil) (c : Nat) (s : ByteArray) (z : Int) (w : World) : World := ((((w.alloc (.cells #[.slice A L.length c] 25)).alloc (.cells #[.string s] 9)).alloc (.cells #[.int .i64 z] 2)).alloc (.cells #[.slice none 0 0, .int .i64 0] 29)).alloc (.cells #[.string s] 9)
theorem wFsCut_size (A : Option Addr) (L : List Fil) (c : Nat) (s : ByteArray) (z : Int) (w : World) : (wFsCut A L c s z w).heap.size = w.heap.size + 5 := by unfold wFsCut; simp
theorem wFsCut_below (A : Option Addr) (L : List Fil) (c : Nat) (s : ByteArray) (z : Int) (w : World) : Below w.heap.size w (wFsCut A L c s z w) := by
  unfold wFsCut
  exact ((((((Below.refl _ _).alloc (Nat.le_refl _) _).alloc (by simp only [World.size_alloc]; omega) _).alloc (by simp only [World.size_alloc]; omega) _).alloc (by simp only [World.size_alloc]; omega) _).alloc (by simp only [World.size_alloc]; omega) _)
theorem wFsCut_names (A : Option Addr) (L : List Fil) (c : Nat) (s : ByteArray) (z : Int) (w : World) : StrA (wFsCut A L c s z w) (some ⟨w.heap.size + 4, 0, none⟩) [s] := by
  have h := Blk.fresh ((((w.alloc (.cells #[.slice A L.length c] 25)).alloc (.cells #[.string s] 9)).alloc (.cells #[.int .i64 z] 2)).alloc (.cells #[.slice none 0 0, .int .i64 0] 29)) 9 [.string s]
  have hz : ((((w.alloc (.cells #[.slice A L.length c] 25)).alloc (.cells #[.string s] 9)).alloc (.cells #[.int .i64 z] 2)).alloc (.cells #[.slice none 0 0, .int .i64 0] 29)).heap.size = w.heap.size + 4 := by simp
  rw [hz] at h
  intro i hi
  refine ⟨_, rfl, ?_⟩
  rw [addr_add0]
  refine Blk.cell (t := 9) (cs := [.string s]) h ?_
  have hi' : i < 1 := hi
  match i, hi' with
  | 0, _ => rfl

theorem wFsCut_box0 (A : Option Addr) (L : List Fil) (c : Nat) (s : ByteArray) (z : Int) (w : World) : Blk (wFsCut A L c s z w) (w.heap.size + 1) 9 [.string s] := by
  have h := Blk.fresh (w.alloc (.cells #[.slice A L.length c] 25)) 9 [.string s]
  have hz : (w.alloc (.cells #[.slice A L.length c] 25)).heap.size = w.heap.size + 1 := by simp
  rw [hz] at h
  unfold wFsCut
  exact ((h.alloc _).alloc _).alloc _
theorem wFsCut_box1 (A : Option Addr) (L : List Fil) (c : Nat) (s : ByteArray) (z : Int) (w : World) : Blk (wFsCut A L c s z w) (w.heap.size + 2) 2 [.int .i64 z] := by
  have h := Blk.fresh ((w.alloc (.cells #[.slice A L.length c] 25)).alloc (.cells #[.string s] 9)) 2 [.int .i64 z]
  have hz : ((w.alloc (.cells #[.slice A L.length c] 25)).alloc (.cells #[.string s] 9)).heap.size = w.heap.size + 2 := by simp
  rw [hz] at h
  unfold wFsCut
  exact (h.alloc _).alloc _
theorem wFsCut_res (A : Option Addr) (L : List Fil) (c : Nat) (s : ByteArray) (z : Int) (w : World) : Blk (wFsCut A L c s z w) (w.heap.size + 3) 29 [.slice none 0 0, .int .i64 0] := by
  have h := Blk.fresh (((w.alloc (.cells #[.slice A L.length c] 25)).alloc (.cells #[.string s] 9)).alloc (.cells #[.int .i64 z] 2)) 29 [.slice none 0 0, .int .i64 0]
  have hz : (((w.alloc (.cells #[.slice A L.length c] 25)).alloc (.cells #[.string s] 9)).alloc (.cells #[.int .i64 z] 2)).heap.size = w.heap.size + 3 := by simp
  rw [hz] at h
  unfold wFsCut
  exact h.alloc _

set_option maxHeartbeats 4000000 in
theorem implFsCut_of (A : Option Addr) (L : List Fil) (c : Nat) (s : ByteArray) (z : Int) (w : World) (M : List Fil) (cd : Int)
    (H : Hid (Calls Tryz.prog 39 #[.agg #[.slice A L.length c], .func (.func 65) #[] #[.pointer (some ⟨w.heap.size + 1, 0, none⟩), .pointer (some ⟨w.heap.size + 2, 0, none⟩)], .slice (some ⟨w.heap.size + 4, 0, none⟩) 1 1] (wFsCut A L c s z w) fun e w' => ∃ C x, e = .returned (fsOut (.slice C M.length x) cd) ∧ OwnF w' (wFsCut A L c s z w).heap.size (.slice C M.length x) M ∧ Below (wFsCut A L c s z w).heap.size (wFsCut A L c s z w) w')) :
    Calls Tryz.prog 25 #[.agg #[.slice A L.length c], .string s, .int .i64 z] w fun e w' => ∃ C x, e = .returned (fsOut (.slice C M.length x) cd) ∧ OwnF w' w.heap.size (.slice C M.length x) M ∧ Below w.heap.size w w' := by
  have hsz := wFsCut_size A L c s z w
  have hbw := wFsCut_below A L c s z w
  have hT0 := wFsCut_res A L c s z w
  go_enter Tryz.func25, Tryz.ntmps25
  go_wp2_with (fail)
  refine H.out.mono ?_
  rintro e w1 ⟨C, x, rfl, hO, hb1⟩
  have hT1 := hT0.below hb1 hT0.lt
  have hz1 := hb1.size
  have hw1 := hbw.trans (hb1.mono hbw.size)
  have t0 := hT1.cell (i := 0) rfl
  have t1 := hT1.cell (i := 1) rfl
  have f0 := hT1.froz 0
  have f1 := hT1.froz 1
  go_wp2
  have hp := (hT1.put 0 (.slice C M.length x)).put 1 (.int .i64 cd)
  have k0 := hp.cell (i := 0) rfl
  have k1 := hp.cell (i := 1) rfl
  have hO4 := (OwnF.far (OwnF.far hO (p := ⟨w.heap.size + 3, 0, none⟩) (by rw [hsz]; simp) (.slice C M.length x)) (p := ⟨w.heap.size + 3, 1, none⟩) (by rw [hsz]; simp) (.int .i64 cd))
  refine bodyPost_ret (v := fsOut (.slice C M.length x) cd) (by simp only [results, Tryz.results25]; simp [go_sem, k0, k1]) rfl ⟨C, x, rfl, OwnF.base hO4 (by omega), ?_⟩
  exact (hw1.setCell (by simp only []; omega) _).setCell (by simp only []; omega) _

theorem cut_fits {f : Fil} {z : Int} (h : f.fits) (z0 : 0 ≤ z) (z1 : z ≤ f.data.size) : (⟨f.name, f.data.extract 0 z.toNat, min z f.sync⟩ : Fil).fits := by
  obtain ⟨h0, h1, h2, h3⟩ := h
  refine ⟨h0, Nat.le_trans (by simp; omega) h1, ?_, ?_⟩
  · simp only []; omega
  · simp only []; omega
theorem enters_cut : Enters 65 := enters_of Tryz.func65 (by kernel_rfl) rfl
set_option maxHeartbeats 1000000 in
theorem cutC_ok (p q b n : Nat) (L : List Fil) (s : ByteArray) (z : Int) (f : Fil) (w : World) (hp : w.cell? ⟨p, 0, none⟩ = some (.string s)) (hq : w.cell? ⟨q, 0, none⟩ = some (.int .i64 z)) (hM : MapF w b n L) (hn : n ≤ 1000) (hs : s.size ≤ maxLen) (hf : findF L s = some f) (hff : f.fits) (hfn : f.name = s) (z0 : 0 ≤ z) (z1 : z ≤ f.data.size) :
    Calls Tryz.prog 65 #[.map (some b), .pointer (some ⟨p, 0, none⟩), .pointer (some ⟨q, 0, none⟩)] w fun e w' => e = .returned .nilIface ∧ MapF w' b (n + 1) (putL L ⟨f.name, f.data.extract 0 z.toNat, min f.sync z⟩) ∧ w.grownBy w' (some b) := by
  go_enter Tryz.func65, Tryz.ntmps65
  go_wp2_with (fail)
  refine (cut_some b n L s z f w hM hn hs hf hff hfn z0 z1).mono ?_
  rintro e w1 ⟨rfl, h1, h2⟩
  go_wp2
  go_ret
  exact ⟨rfl, h1, h2⟩
set_option maxHeartbeats 1000000 in
theorem cutC_none (p q b n : Nat) (L : List Fil) (s : ByteArray) (z : Int) (a0 a1 a2 a3 a4 : Addr) (w : World) (hp : w.cell? ⟨p, 0, none⟩ = some (.string s)) (hq : w.cell? ⟨q, 0, none⟩ = some (.int .i64 z)) (hM : MapF w b n L) (hs : s.size ≤ maxLen) (hE : Errs w a0 a1 a2 a3 a4) (hf : findF L s = none) :
    Calls Tryz.prog 65 #[.map (some b), .pointer (some ⟨p, 0, none⟩), .pointer (some ⟨q, 0, none⟩)] w fun e w' => e = .returned (errV a2) ∧ Below w.heap.size w w' := by
  go_enter Tryz.func65, Tryz.ntmps65
  go_wp2_with (fail)
  refine (cut_none b n L s z a0 a1 a2 a3 a4 w hM hs hE hf).mono ?_
  rintro e w1 ⟨rfl, h1⟩
  go_wp2
  go_ret
  exact ⟨rfl, h1⟩
set_option maxHeartbeats 1000000 in
theorem cutC_bad (p q b n : Nat) (L : List Fil) (s : ByteArray) (z : Int) (f : Fil) (a0 a1 a2 a3 a4 : Addr) (w : World) (hp : w.cell? ⟨p, 0, none⟩ = some (.string s)) (hq : w.cell? ⟨q, 0, none⟩ = some (.int .i64 z)) (hM : MapF w b n L) (hs : s.size ≤ maxLen) (hE : Errs w a0 a1 a2 a3 a4) (hf : findF L s = some f) (hff : f.fits) (hz : z < 0 ∨ (¬ z < 0 ∧ (f.data.size : Int) < z)) :
    Calls Tryz.prog 65 #[.map (some b), .pointer (some ⟨p, 0, none⟩), .pointer (some ⟨q, 0, none⟩)] w fun e w' => e = .returned (errV a3) ∧ Below w.heap.size w w' := by
  have C := cut_bad b n L s z f a0 a1 a2 a3 a4 w hM hs hE hf hff hz
  clear hz
  go_enter Tryz.func65, Tryz.ntmps65
  go_wp2_with (fail)
  refine C.mono ?_
  rintro e w1 ⟨rfl, h1⟩
  go_wp2
  go_ret
  exact ⟨rfl, h1⟩

set_option maxHeartbeats 2000000 in
theorem specCut_err (A : Option Addr) (L : List Fil) (c : Nat) (s : ByteArray) (z cd : Int) (w : World) (hL : Fls w w.heap.size A L) (hs : s.size ≤ maxLen) (hc : codeOf L s = cd) (h0 : cd ≠ 0) :
    Calls Tryz.prog 29 #[.agg #[.slice A L.length c], .string s, .int .i64 z] w fun e w' => ∃ C x, e = .returned (fsOut (.slice C ([] : List Fil).length x) cd) ∧ OwnF w' w.heap.size (.slice C ([] : List Fil).length x) [] ∧ Below w.heap.size w w' := by
  have hT0 := Blk.fresh (w.alloc (.cells #[.slice A L.length c] 25)) 29 [.slice none 0 0, .int .i64 0]
  simp only [World.size_alloc] at hT0
  have hb0 : Below w.heap.size w ((w.alloc (.cells #[.slice A L.length c] 25)).alloc (.cells #[.slice none 0 0, .int .i64 0] 29)) := ((Below.refl _ _).alloc (Nat.le_refl _) _).alloc (by simp) _
  have Be := l03Begin_any A L c s _ ((hL.below hb0 (Nat.le_refl _)).mono hb0.size) hs
  rw [hc] at Be
  have hcb : (cd != 0) = true := by simpa using h0
  go_enter Tryz.func29, Tryz.ntmps29
  go_wp2_with (fail)
  refine Be.mono ?_
  rintro e w1 ⟨k, rfl, _, _, hb1⟩
  have hw1 := hb0.trans (hb1.mono hb0.size)
  have hT1 := hT0.below hb1 hT0.lt
  go_wp2_with (fail)
  refine (ill_any cd _).mono ?_
  rintro e w2 ⟨rfl, hb2⟩
  have hw2 := hw1.trans (hb2.mono hw1.size)
  have hT2 := hT1.below hb2 hT1.lt
  have t0 := hT2.cell (i := 0) rfl
  have t1 := hT2.cell (i := 1) rfl
  have f0 := hT2.froz 0
  have f1 := hT2.froz 1
  go_wp2
  have hp := (hT2.put 0 (.slice none 0 0)).put 1 (.int .i64 cd)
  have k0 := hp.cell (i := 0) rfl
  have k1 := hp.cell (i := 1) rfl
  refine bodyPost_ret (v := fsOut (.slice none 0 0) cd) (by simp only [results, Tryz.results29]; simp [go_sem, k0, k1]) rfl ⟨none, 0, rfl, ownF_nil _ _, ?_⟩
  exact (hw2.setCell (by simp) _).setCell (by simp) _

set_option maxHeartbeats 4000000 in
theorem specCut_bad (A : Option Addr) (L : List Fil) (c : Nat) (s : ByteArray) (z : Int) (i : Nat) (hi : i < L.length) (w : World) (hL : Fls w w.heap.size A L) (hS : Small L) (hs : s.size ≤ maxLen) (hc : codeOf L s = 0) (hfi : findF L s = some L[i]) (hR : Rising L) (hz : ¬ (0 ≤ z ∧ z ≤ L[i].data.size)) :
    Calls Tryz.prog 29 #[.agg #[.slice A L.length c], .string s, .int .i64 z] w fun e w' => ∃ C x, e = .returned (fsOut (.slice C ([] : List Fil).length x) 8) ∧ OwnF w' w.heap.size (.slice C ([] : List Fil).length x) [] ∧ Below w.heap.size w w' := by
  have hT0 := Blk.fresh (w.alloc (.cells #[.slice A L.length c] 25)) 29 [.slice none 0 0, .int .i64 0]
  have hA0 := (Blk.fresh w 25 [.slice A L.length c]).alloc (.cells #[.slice none 0 0, .int .i64 0] 29)
  simp only [World.size_alloc] at hT0
  have hb0 : Below w.heap.size w ((w.alloc (.cells #[.slice A L.length c] 25)).alloc (.cells #[.slice none 0 0, .int .i64 0] 29)) := ((Below.refl _ _).alloc (Nat.le_refl _) _).alloc (by simp) _
  have Be := l03Begin_any A L c s _ ((hL.below hb0 (Nat.le_refl _)).mono hb0.size) hs
  rw [hc] at Be
  have IS := Lib.hid (fun W => l03Is_any z 0 (L[i].data.size : Int) W)
  have hzb : (decide (0 ≤ z) && decide (z ≤ (L[i].data.size : Int))) = false := by simpa using hz
  rw [hzb] at IS
  go_enter Tryz.func29, Tryz.ntmps29
  go_wp2_with (fail)
  refine Be.mono ?_
  rintro e w1 ⟨k, rfl, hk, _, hb1⟩
  obtain ⟨i', hi', rfl, hf', hn'⟩ := hk (by first | rfl | trivial)
  obtain rfl : i' = i := by
    rw [hfi] at hf'
    rcases Nat.decEq i' i with h | h
    · exact absurd (congrArg Fil.name (Option.some.inj hf')).symm (name_ne hR hi' hi h)
    · exact h
  have hw1 := hb0.trans (hb1.mono hb0.size)
  have hT1 := hT0.below hb1 hT0.lt
  have hA1 := hA0.below hb1 hA0.lt
  have b1 := hA1.cell (i := 0) rfl
  obtain ⟨a, rfl, hab, c0, c1, c2, hff⟩ := (hL.below hw1 (Nat.le_refl _)).at i' hi'
  have hi3 : (i' : Int) < (L.length : Int) := by omega
  have hd := hff.2.1
  unfold maxLen at hd
  go_wp2_with (fail)
  refine (IS.out _).mono ?_
  rintro e w2 ⟨rfl, rfl⟩
  go_wp2_with (fail)
  refine (ill_any 8 _).mono ?_
  rintro e w3 ⟨rfl, hb3⟩
  have hw3 := hw1.trans (hb3.mono hw1.size)
  have hT3 := hT1.below hb3 hT1.lt
  have t0 := hT3.cell (i := 0) rfl
  have t1 := hT3.cell (i := 1) rfl
  have f0 := hT3.froz 0
  have f1 := hT3.froz 1
  go_wp2
  have hp := (hT3.put 0 (.slice none 0 0)).put 1 (.int .i64 8)
  have k0 := hp.cell (i := 0) rfl
  have k1 := hp.cell (i := 1) rfl
  refine bodyPost_ret (v := fsOut (.slice none 0 0) 8) (by simp only [results, Tryz.results29]; simp [go_sem, k0, k1]) rfl ⟨none, 0, rfl, ownF_nil _ _, ?_⟩
  exact (hw3.setCell (by simp) _).setCell (by simp) _

set_option maxHeartbeats 4000000 in
theorem specCut_ok (A : Option Addr) (L : List Fil) (c : Nat) (s : ByteArray) (z : Int) (i : Nat) (hi : i < L.length) (w : World) (hL : Fls w w.heap.size A L) (hS : Small L) (hs : s.size ≤ maxLen) (hc : codeOf L s = 0) (hfi : findF L s = some L[i]) (hR : Rising L) (z0 : 0 ≤ z) (z1 : z ≤ L[i].data.size) :
    Calls Tryz.prog 29 #[.agg #[.slice A L.length c], .string s, .int .i64 z] w fun e w' => ∃ C x, e = .returned (fsOut (.slice C (L.set i ⟨L[i].name, L[i].data.extract 0 z.toNat, min z L[i].sync⟩).length x) 0) ∧ OwnF w' w.heap.size (.slice C (L.set i ⟨L[i].name, L[i].data.extract 0 z.toNat, min z L[i].sync⟩).length x) (L.set i ⟨L[i].name, L[i].data.extract 0 z.toNat, min z L[i].sync⟩) ∧ Below w.heap.size w w' := by
  have hT0 := Blk.fresh (w.alloc (.cells #[.slice A L.length c] 25)) 29 [.slice none 0 0, .int .i64 0]
  have hA0 := (Blk.fresh w 25 [.slice A L.length c]).alloc (.cells #[.slice none 0 0, .int .i64 0] 29)
  simp only [World.size_alloc] at hT0
  have hb0 : Below w.heap.size w ((w.alloc (.cells #[.slice A L.length c] 25)).alloc (.cells #[.slice none 0 0, .int .i64 0] 29)) := ((Below.refl _ _).alloc (Nat.le_refl _) _).alloc (by simp) _
  have hz0 : ((w.alloc (.cells #[.slice A L.length c] 25)).alloc (.cells #[.slice none 0 0, .int .i64 0] 29)).heap.size = w.heap.size + 2 := by simp
  have Be := l03Begin_any A L c s _ ((hL.below hb0 (Nat.le_refl _)).mono hb0.size) hs
  rw [hc] at Be
  have IS := Lib.hid (fun W => l03Is_any z 0 (L[i].data.size : Int) W)
  have hzb : (decide (0 ≤ z) && decide (z ≤ (L[i].data.size : Int))) = true := by simp [z0, z1]
  rw [hzb] at IS
  have hf : ∀ f ∈ L, f.fits := fun f h => by obtain ⟨i, hi, rfl⟩ := List.getElem_of_mem h; exact (hL.2 i hi).choose_spec.2.2.2.2.2
  go_enter Tryz.func29, Tryz.ntmps29
  go_wp2_with (fail)
  refine Be.mono ?_
  rintro e w1 ⟨k, rfl, hk, _, hb1⟩
  obtain ⟨i', hi', rfl, hf', hn'⟩ := hk (by first | rfl | trivial)
  obtain rfl : i' = i := by
    rw [hfi] at hf'
    rcases Nat.decEq i' i with h | h
    · exact absurd (congrArg Fil.name (Option.some.inj hf')).symm (name_ne hR hi' hi h)
    · exact h
  have hw1 := hb0.trans (hb1.mono hb0.size)
  have hT1 := hT0.below hb1 hT0.lt
  have hA1 := hA0.below hb1 hA0.lt
  have b1 := hA1.cell (i := 0) rfl
  obtain ⟨a, rfl, hab, c0, c1, c2, hff⟩ := (hL.below hw1 (Nat.le_refl _)).at i' hi'
  have hi3 : (i' : Int) < (L.length : Int) := by omega
  have hd := hff.2.1
  unfold maxLen at hd
  go_wp2_with (fail)
  refine (IS.out _).mono ?_
  rintro e wx ⟨rfl, rfl⟩
  clear c0 c1 c2
  go_wp2_with (fail)
  refine (l03Copy_any (some a) L c _ ((hL.below hw1 (Nat.le_refl _)).mono hw1.size) hS).mono ?_
  rintro e w2 ⟨C, x, rfl, hO, hb2⟩
  clear b1
  have hz1 := hw1.size
  have hz2 := hb2.size
  have hw2 := hw1.trans (hb2.mono hw1.size)
  have hT2 := hT1.below hb2 hT1.lt
  have hA2 := hA1.below hb2 hA1.lt
  have hAl := hA1.lt
  have hTl := hT1.lt
  obtain ⟨g, cp, hCv, hgj, hgl⟩ := hO.1.form (by omega)
  cases hCv
  have hX3 := Blk.fresh w2 25 [.slice (some ⟨g, 0, none⟩) L.length x]
  have hb3 : Below w2.heap.size w2 (w2.alloc (.cells #[.slice (some ⟨g, 0, none⟩) L.length x] 25)) := (Below.refl _ _).alloc (Nat.le_refl _) _
  have hw3 := hw2.trans (hb3.mono hw2.size)
  have hT3 := hT2.below hb3 hT2.lt
  have hA3 := hA2.below hb3 hA2.lt
  have hO3 := OwnF.below hO hb3 (Nat.le_refl _)
  obtain ⟨a', e', hab', c0, c1, c2, _⟩ := (hL.below hw3 (Nat.le_refl _)).at i' hi'
  cases e'
  obtain ⟨FL, HFL⟩ : ∃ FL, Hid (flat L = FL) := ⟨_, Lib.hid rfl⟩
  have hRd : (w2.alloc (.cells #[.slice (some ⟨g, 0, none⟩) L.length x] 25)).drew.ownsRow (wx.heap.size + 2) 53 3 (.slice (some ⟨g, 0, none⟩) L.length x) L.length FL := by rw [← HFL.out]; exact hO3.1
  have hXd := hX3.drew
  have hAd := hA3.drew
  have hTd := hT3.drew
  have hwd := below_drew hw3
  have c1d : (w2.alloc (.cells #[.slice (some ⟨g, 0, none⟩) L.length x] 25)).drew.cell? ⟨(a.add (i' * 3)).block, (a.add (i' * 3)).off + 1, none⟩ = some (.string L[i'].data) := c1
  have c2d : (w2.alloc (.cells #[.slice (some ⟨g, 0, none⟩) L.length x] 25)).drew.cell? ⟨(a.add (i' * 3)).block, (a.add (i' * 3)).off + 2, none⟩ = some (.int .i64 L[i'].sync) := c2
  have hbo : wx.heap.size + 2 ≤ g := hgj
  have hab3 : (a.add (i' * 3)).block < w.heap.size := by rw [add_blk]; exact hab
  go_wp2_with (fail)
  generalize hW : (w2.alloc (.cells #[.slice (some ⟨g, 0, none⟩) L.length x] 25)) = w4 at hXd hAd hTd hwd c1d c2d hRd ⊢
  generalize hbo2 : w2.heap.size = bo at hXd ⊢
  obtain ⟨u1, r1⟩ := row_cell hRd (j := i' * 3 + 1) (by omega)
  have s1 := hRd.frozenAt (i' * 3 + 1)
  have hx0 := hXd.cell (i := 0) rfl
  have ha0 := hAd.cell (i := 0) rfl
  clear hW hb3 hw3 hT3 hA3 hO3 hX3 hT2 hA2 hw2 hT1 hA1 hw1 hb1 hb2 hO c0 c1 c2 hb0 hT0 hA0
  go_region
  have hR6 : (w4.setCell ⟨g, i' * 3 + 1, none⟩ (.string (L[i'].data.extract 0 z.toNat))).drew.drew.ownsRow (wx.heap.size + 2) 53 3 (.slice (some ⟨g, 0, none⟩) L.length x) L.length (FL.set (i' * 3 + 1) (.string (L[i'].data.extract 0 z.toNat))) := (hRd.stored (i' * 3 + 1) (.string (L[i'].data.extract 0 z.toNat))).1
  have hX6 : Blk (w4.setCell ⟨g, i' * 3 + 1, none⟩ (.string (L[i'].data.extract 0 z.toNat))).drew.drew bo 25 [.slice (some ⟨g, 0, none⟩) L.length x] := hXd.far (p := ⟨g, i' * 3 + 1, none⟩) (by simp; omega) _
  have hA6 : Blk (w4.setCell ⟨g, i' * 3 + 1, none⟩ (.string (L[i'].data.extract 0 z.toNat))).drew.drew w.heap.size 25 [.slice (some a) L.length c] := hAd.far (p := ⟨g, i' * 3 + 1, none⟩) (by simp; omega) _
  have hT6 : Blk (w4.setCell ⟨g, i' * 3 + 1, none⟩ (.string (L[i'].data.extract 0 z.toNat))).drew.drew (w.heap.size + 1) 29 [.slice none 0 0, .int .i64 0] := hTd.far (p := ⟨g, i' * 3 + 1, none⟩) (by simp; omega) _
  have hw6 : Below w.heap.size w (w4.setCell ⟨g, i' * 3 + 1, none⟩ (.string (L[i'].data.extract 0 z.toNat))).drew.drew := below_drew (show Below w.heap.size w (w4.setCell ⟨g, i' * 3 + 1, none⟩ (.string (L[i'].data.extract 0 z.toNat))).drew from hwd.setCell (p := ⟨g, i' * 3 + 1, none⟩) (by simp; omega) _)
  have c6 : (w4.setCell ⟨g, i' * 3 + 1, none⟩ (.string (L[i'].data.extract 0 z.toNat))).drew.drew.cell? ⟨(a.add (i' * 3)).block, (a.add (i' * 3)).off + 2, none⟩ = some (.int .i64 L[i'].sync) := cell_put_far c2d (by simp; omega) _
  clear hRd hXd hTd hwd hAd r1 s1 hx0 ha0 c1d c2d
  generalize (w4.setCell ⟨g, i' * 3 + 1, none⟩ (.string (L[i'].data.extract 0 z.toNat))).drew = w6 at hR6 hX6 hA6 hT6 hw6 c6 ⊢
  obtain ⟨u2, r2⟩ := row_cell hR6 (j := i' * 3 + 2) (by omega)
  have s2 := hR6.frozenAt (i' * 3 + 2)
  have hx0 := hX6.cell (i := 0) rfl
  have ha0 := hA6.cell (i := 0) rfl
  have LM := fun W => l01Min_any z L[i'].sync W
  go_wp2
  refine wp_region_still_tail 13 (by kernel_rfl) (by kernel_rfl) ?_
  simp only [List.take_succ_cons, List.take_zero, List.drop_succ_cons, List.drop_zero]
  change wpStill _ _ w6.drew (fun a' => wpList _ _ _ _ a' w6.drew) _ _
  repeat (first | still_step | still_call (LM _))
  refine wpStill_nil ?_
  have hR7 : (w6.setCell ⟨g, i' * 3 + 2, none⟩ (.int .i64 (min z L[i'].sync))).drew.ownsRow (wx.heap.size + 2) 53 3 (.slice (some ⟨g, 0, none⟩) L.length x) L.length ((FL.set (i' * 3 + 1) (.string (L[i'].data.extract 0 z.toNat))).set (i' * 3 + 2) (.int .i64 (min z L[i'].sync))) := (hR6.stored (i' * 3 + 2) (.int .i64 (min z L[i'].sync))).1
  have hX7 : Blk (w6.setCell ⟨g, i' * 3 + 2, none⟩ (.int .i64 (min z L[i'].sync))).drew bo 25 [.slice (some ⟨g, 0, none⟩) L.length x] := hX6.far (p := ⟨g, i' * 3 + 2, none⟩) (by simp; omega) _
  have hT7 : Blk (w6.setCell ⟨g, i' * 3 + 2, none⟩ (.int .i64 (min z L[i'].sync))).drew (w.heap.size + 1) 29 [.slice none 0 0, .int .i64 0] := hT6.far (p := ⟨g, i' * 3 + 2, none⟩) (by simp; omega) _
  have hw7 : Below w.heap.size w (w6.setCell ⟨g, i' * 3 + 2, none⟩ (.int .i64 (min z L[i'].sync))).drew := hw6.setCell (p := ⟨g, i' * 3 + 2, none⟩) (by simp; omega) _
  have x0 := hX7.cell (i := 0) rfl
  have t0 := hT7.cell (i := 0) rfl
  have t1 := hT7.cell (i := 1) rfl
  have f0 := hT7.froz 0
  have f1 := hT7.froz 1
  rw [← HFL.out, flat_two hi'] at hR7
  have g1 : ((w6.setCell ⟨g, i' * 3 + 2, none⟩ (.int .i64 (min z L[i'].sync))).setCell ⟨w.heap.size + 1, 0, none⟩ (.slice (some ⟨g, 0, none⟩) L.length x)).drew.frozen? ⟨w.heap.size + 1, 1, none⟩ = false := (hT7.put 0 (.slice (some ⟨g, 0, none⟩) L.length x)).froz 1
  have g0 : ((w6.setCell ⟨g, i' * 3 + 2, none⟩ (.int .i64 (min z L[i'].sync))).setCell ⟨w.heap.size + 1, 0, none⟩ (.slice (some ⟨g, 0, none⟩) L.length x)).drew.cell? ⟨w.heap.size + 1, 1, none⟩ = some (.int .i64 0) := (hT7.put 0 (.slice (some ⟨g, 0, none⟩) L.length x)).cell (i := 1) rfl
  go_wp2
  have hp := (hT7.put 0 (.slice (some ⟨g, 0, none⟩) L.length x)).put 1 (.int .i64 0)
  have k0 := hp.cell (i := 0) rfl
  have k1 := hp.cell (i := 1) rfl
  have hO6 : OwnF (w6.setCell ⟨g, i' * 3 + 2, none⟩ (.int .i64 (min z L[i'].sync))).drew (wx.heap.size + 2) (.slice (some ⟨g, 0, none⟩) (L.set i' ⟨L[i'].name, L[i'].data.extract 0 z.toNat, min z L[i'].sync⟩).length x) (L.set i' ⟨L[i'].name, L[i'].data.extract 0 z.toNat, min z L[i'].sync⟩) := by
    refine ⟨?_, fun f h => ?_⟩
    · rw [List.length_set]; exact hR7
    · rcases List.mem_or_eq_of_mem_set h with h | h
      · exact hf f h
      · subst h; exact cut_fits hff z0 z1
  have hO7 := OwnF.far (OwnF.far hO6 (p := ⟨w.heap.size + 1, 0, none⟩) (by simp only []; omega) (.slice (some ⟨g, 0, none⟩) L.length x)) (p := ⟨w.heap.size + 1, 1, none⟩) (by simp only []; omega) (.int .i64 0)
  have k0' : ((w6.setCell ⟨g, i' * 3 + 2, none⟩ (.int .i64 (min z L[i'].sync))).setCell ⟨w.heap.size + 1, 0, none⟩ (.slice (some ⟨g, 0, none⟩) L.length x)).cell? ⟨w.heap.size + 1, 0, none⟩ = some (.slice (some ⟨g, 0, none⟩) L.length x) := (hT7.put 0 (.slice (some ⟨g, 0, none⟩) L.length x)).cell (i := 0) rfl
  have k1' : (((w6.setCell ⟨g, i' * 3 + 2, none⟩ (.int .i64 (min z L[i'].sync))).setCell ⟨w.heap.size + 1, 0, none⟩ (.slice (some ⟨g, 0, none⟩) L.length x)).setCell ⟨w.heap.size + 1, 1, none⟩ (.int .i64 0)).cell? ⟨w.heap.size + 1, 1, none⟩ = some (.int .i64 0) := hp.cell (i := 1) rfl
  have k2' : (((w6.setCell ⟨g, i' * 3 + 2, none⟩ (.int .i64 (min z L[i'].sync))).setCell ⟨w.heap.size + 1, 0, none⟩ (.slice (some ⟨g, 0, none⟩) L.length x)).setCell ⟨w.heap.size + 1, 1, none⟩ (.int .i64 0)).cell? ⟨w.heap.size + 1, 0, none⟩ = some (.slice (some ⟨g, 0, none⟩) L.length x) := hp.cell (i := 0) rfl
  refine bodyPost_ret (v := fsOut (.slice (some ⟨g, 0, none⟩) L.length x) 0) (by simp only [results, Tryz.results29]; simp [go_sem, k0', k1', k2']) rfl ⟨some ⟨g, 0, none⟩, x, by rw [List.length_set], OwnF.base hO7 (by omega), ?_⟩
  exact (hw7.setCell (by simp) _).setCell (by simp) _

/-- FsCut: spec and impl answer alike. -/
theorem fsCut_both (L : List Fil) (s : ByteArray) (z : Int) (a0 a1 a2 a3 a4 : Addr) (hf : ∀ f ∈ L, f.fits) (hS : Small L) (hs : s.size ≤ maxLen) (hz : (Lit.int .i64 z).wf = true) (hs2 : s.size ≤ 1048576) :
    ∃ (M : List Fil) (cd : Int), (∀ f ∈ M, f.fits) ∧ M.length ≤ L.length + 1 ∧ Small M ∧
      (∀ W A c, Fls W W.heap.size A L → Calls Tryz.prog 29 #[.agg #[.slice A L.length c], .string s, .int .i64 z] W fun e w' => ∃ C x, e = .returned (fsOut (.slice C M.length x) cd) ∧ OwnF w' W.heap.size (.slice C M.length x) M ∧ Below W.heap.size W w') ∧
      (∀ W A c, Fls W W.heap.size A L → Errs W a0 a1 a2 a3 a4 → Calls Tryz.prog 25 #[.agg #[.slice A L.length c], .string s, .int .i64 z] W fun e w' => ∃ C x, e = .returned (fsOut (.slice C M.length x) cd) ∧ OwnF w' W.heap.size (.slice C M.length x) M ∧ Below W.heap.size W w') := by
  have hsN : ∀ x ∈ [s], x.size ≤ maxLen := by intro x hx; simp at hx; subst hx; exact hs
  have nil : ∀ {f : FuncId} {args : Array Value} {W : World} {cd : Int}, (Calls Tryz.prog f args W fun e w' => e = .returned (fsOut (.slice none 0 0) cd) ∧ Below W.heap.size W w') → Calls Tryz.prog f args W fun e w' => ∃ C x, e = .returned (fsOut (.slice C ([] : List Fil).length x) cd) ∧ OwnF w' W.heap.size (.slice C ([] : List Fil).length x) [] ∧ Below W.heap.size W w' :=
    fun h => h.mono fun e w' ⟨he, hb⟩ => ⟨none, 0, he, ownF_nil _ _, hb⟩
  rcases code_cases L s with ⟨h1, hc⟩ | ⟨h1, h2, hc⟩ | ⟨h1, h2, h3, h4, hc⟩ | ⟨h1, h2, h3, ⟨i, hi, h4, h5⟩, hc⟩
  · refine ⟨[], 2, by simp, by simp, small_nil, fun W A c hL => specCut_err A L c s z 2 W hL hs hc (by decide), fun W A c hL hE => implFsCut_of A L c s z W [] 2 (Lib.hid (nil ?_))⟩
    have hb := wFsCut_below A L c s z W
    exact change_long A L c _ [s] 1 _ a0 a1 a2 a3 a4 _ (hE.below hb) (wFsCut_names A L c s z W) (by simp) hsN h1
  · refine ⟨[], 1, by simp, by simp, small_nil, fun W A c hL => specCut_err A L c s z 1 W hL hs hc (by decide), fun W A c hL hE => implFsCut_of A L c s z W [] 1 (Lib.hid (nil ?_))⟩
    have hb := wFsCut_below A L c s z W
    exact change_bad A L c _ [s] 1 _ a0 a1 a2 a3 a4 _ (hE.below hb) ((hL.below hb (Nat.le_refl _)).mono hb.size) (wFsCut_names A L c s z W) (by simp) hsN h1 h2
  · refine ⟨[], 6, by simp, by simp, small_nil, fun W A c hL => specCut_err A L c s z 6 W hL hs hc (by decide), fun W A c hL hE => implFsCut_of A L c s z W [] 6 (Lib.hid (nil ?_))⟩
    have hb := wFsCut_below A L c s z W
    exact change_err A L c _ [s] 1 65 _ 2 a2 a0 a1 a2 a3 a4 _ (hE.below hb) ((hL.below hb (Nat.le_refl _)).mono hb.size) (wFsCut_names A L c s z W) (by simp) hsN h1 h2 enters_cut rfl
      (Lib.hid fun W2 b n hW2 _ hM _ => cutC_none _ _ b n L s z a0 a1 a2 a3 a4 W2 (((wFsCut_box0 A L c s z W).below hW2 (wFsCut_box0 A L c s z W).lt).cell (i := 0) rfl) (((wFsCut_box1 A L c s z W).below hW2 (wFsCut_box1 A L c s z W).lt).cell (i := 0) rfl) hM hs ((hE.below hb).below hW2) h4)
  · have hR := rising_of_ok h3
    have hfi := hf _ (List.getElem_mem hi)
    by_cases hzz : 0 ≤ z ∧ z ≤ L[i].data.size
    · have hfx : ∀ f ∈ L.set i ⟨L[i].name, L[i].data.extract 0 z.toNat, min z L[i].sync⟩, f.fits := fun f h => by
        rcases List.mem_or_eq_of_mem_set h with h | h
        · exact hf f h
        · subst h; exact cut_fits hfi hzz.1 hzz.2
      have hSx : Small (L.set i ⟨L[i].name, L[i].data.extract 0 z.toNat, min z L[i].sync⟩) := by
        refine small_of (L := L) (by rw [List.length_set]; exact hS.1) fun g hg => ?_
        rcases List.mem_or_eq_of_mem_set hg with h | h
        · exact small_mem hS h
        · subst h; exact ⟨(hS.2 i hi).1, Nat.le_trans (by simp; omega) (hS.2 i hi).2⟩
      refine ⟨L.set i ⟨L[i].name, L[i].data.extract 0 z.toNat, min z L[i].sync⟩, 0, hfx, by rw [List.length_set]; omega, hSx, fun W A c hL => specCut_ok A L c s z i hi W hL hS hs hc h4 hR hzz.1 hzz.2, fun W A c hL hE => implFsCut_of A L c s z W _ 0 (Lib.hid ?_)⟩
      have hb := wFsCut_below A L c s z W
      refine change_ok A L c _ [s] 1 65 _ _ _ ((hL.below hb (Nat.le_refl _)).mono hb.size) (wFsCut_names A L c s z W) (by simp) hsN h1 h2 enters_cut (rising_set hR hi rfl) hfx hSx
        (Lib.hid fun W2 b n hW2 _ hM hn => (cutC_ok _ _ b n L s z L[i] W2 (((wFsCut_box0 A L c s z W).below hW2 (wFsCut_box0 A L c s z W).lt).cell (i := 0) rfl) (((wFsCut_box1 A L c s z W).below hW2 (wFsCut_box1 A L c s z W).lt).cell (i := 0) rfl) hM (by omega) hs h4 hfi h5 hzz.1 hzz.2).mono fun e w' ⟨he, hm, hg⟩ => ⟨he, ⟨n + 1, by omega, ?_⟩, hg⟩)
      have := put_at hR hi (f := ⟨L[i].name, L[i].data.extract 0 z.toNat, min L[i].sync z⟩) rfl
      rw [this, Int.min_comm] at hm
      exact hm
    · refine ⟨[], 8, by simp, by simp, small_nil, fun W A c hL => specCut_bad A L c s z i hi W hL hS hs hc h4 hR hzz, fun W A c hL hE => implFsCut_of A L c s z W [] 8 (Lib.hid (nil ?_))⟩
      have hb := wFsCut_below A L c s z W
      exact change_err A L c _ [s] 1 65 _ 3 a3 a0 a1 a2 a3 a4 _ (hE.below hb) ((hL.below hb (Nat.le_refl _)).mono hb.size) (wFsCut_names A L c s z W) (by simp) hsN h1 h2 enters_cut rfl
        (Lib.hid fun W2 b n hW2 _ hM _ => cutC_bad _ _ b n L s z L[i] a0 a1 a2 a3 a4 W2 (((wFsCut_box0 A L c s z W).below hW2 (wFsCut_box0 A L c s z W).lt).cell (i := 0) rfl) (((wFsCut_box1 A L c s z W).below hW2 (wFsCut_box1 A L c s z W).lt).cell (i := 0) rfl) hM hs ((hE.below hb).below hW2) h4 hfi (by omega))
end Go.Proofs.YtpgodphnjeifhaaGreatDoor

namespace Go.Proofs.YtpgodphnjeifhaaGreatDoor
open Go.RowKit
set_option linter.unusedVariables false
set_option maxRecDepth 1000000

/-- An append at a step of a region that draws its order; what is appended may be empty. -/
theorem step_append_ne {P : Program} (w : World) {ops : Array Oper} {o : Oper} {a : Act} {K : Act → World → Prop} {Q : Exit → Act → World → Prop} {E : Prop} (hgd : o.guard = none) (s x : Operand) (t : TypeId)
    (ho : o.op = .call { callee := .builtin .append, args := #[s, x], argTypes := #[t, t] })
    (base : Nat) (e : TypeId) (i : TypeInfo) (z : Value) (size bytes : Nat) (ht : P.underlying t = some (.slice e)) (hi : P.info? e = some i) (hz : i.zero = some z)
    (hsize : i.size = size) (hby : i.bytes = bytes) (hzs : z.cells.size = size) (hsz : 0 < size)
    (v : Value) (n : Nat) (xs : List Value) (hs : a.eval s = v) (hown : w.ownsRow base e size v n xs)
    (ad : Addr) (m c : Nat) (news : List Value) (hx : a.eval x = .slice (some ad) m c) (hl : news.length = m * size) (hnews : ∀ j u, news[j]? = some u → w.cell? (ad.add j) = some u) (h1 : ∀ u ∈ news, u.oneCell' = true)
    (h63 : n + m ≤ maxLen) (hbytes : (n + m) * bytes ≤ 140737488355328) (hbase : base ≤ w.heap.size)
    (h : ∀ v' w', w'.ownsRow base e size v' (n + m) (xs ++ news) → w.grownBy w' v.ownBlock → (v ≠ .slice none 0 0 → v' ≠ .slice none 0 0) → K (a.put o.dst v') w') :
    if Region.wanted o (yielded ops a.tmps) = true then Oper.wp P o a w K Q else E := by
  have hw : Region.wanted o (yielded ops a.tmps) = true := by simp [Region.wanted, hgd]
  rw [if_pos hw]
  exact wp_append_own w s x t ho base e i z size bytes ht hi hz hsize hby hzs hsz v n xs hs hown ad m c news hx hl hnews h1 h63 hbytes hbase fun v' w' h2 h3 h4 => h v' w' h2 h3 (fun hv e => hv (h4.1 e).1)
set_option maxHeartbeats 4000000 in
theorem out_some (A : Option Addr) (L : List Fil) (c i : Nat) (hi : i < L.length) (w : World) (hL : Fls w w.heap.size A L) (hS : Small L) (hc : L.length ≤ c) (hcm : c ≤ maxLen) :
    Calls Tryz.prog 55 #[.slice A L.length c, .int .i64 i] w fun e w' => ∃ g x, e = .returned (.slice (some ⟨g, 0, none⟩) (L.take i ++ L.drop (i + 1)).length x) ∧ OwnF w' w.heap.size (.slice (some ⟨g, 0, none⟩) (L.take i ++ L.drop (i + 1)).length x) (L.take i ++ L.drop (i + 1)) ∧ Below w.heap.size w w' := by
  obtain ⟨i0, hi0, hz0, hz1, hz2⟩ := info_parts infoFile
  have hn := hS.1
  unfold maxLen at hcm
  have hf : ∀ f ∈ L, f.fits := fun f h => by obtain ⟨i, hi, rfl⟩ := List.getElem_of_mem h; exact (hL.2 i hi).choose_spec.2.2.2.2.2
  obtain ⟨a, rfl, hab, _⟩ := hL.2 i hi
  have hb0 : Below w.heap.size w (w.alloc (.cells #[] 53)).drew := below_drew ((Below.refl _ _).alloc (Nat.le_refl _) _)
  have hN0 := fls_news (hL.below hb0 (Nat.le_refl _))
  have hown0 : (w.alloc (.cells #[] 53)).drew.ownsRow w.heap.size 53 3 (.slice (some ⟨w.heap.size, 0, none⟩) 0 0) 0 [] :=
    ⟨rfl, .inr ⟨w.heap.size, 0, #[], rfl, by omega, heap_alloc_new w (.cells #[] 53), Nat.le_refl _, by simp [maxLen], rfl, rfl⟩⟩
  have hi1 : (i : Int) ≤ (c : Int) := by omega
  have hi3 : (L.length : Int) ≤ (c : Int) := by omega
  obtain ⟨q, hq⟩ : ∃ q, q = i + 1 := ⟨_, rfl⟩
  have hlt : (L.take i).length = i := by simp; omega
  have hld : (L.drop q).length = L.length - q := by simp
  have hwr : IntKind.i64.wrap ((i : Int) + 1) = (q : Int) := by rw [IntWalk.i64_in _ (by omega)]; omega
  have hq2 : (q : Int) ≤ (L.length : Int) := by omega
  have hq3 : (q : Int) ≤ (c : Int) := by omega
  rw [← hq]
  have hlen : (L.take i ++ L.drop q).length = 0 + i + (L.length - q) := by rw [List.length_append, hlt, hld]; omega
  have hfl : ∀ f ∈ L.take i ++ L.drop q, f.fits := fun f h => by
    rcases List.mem_append.1 h with h | h
    · exact hf f (List.mem_of_mem_take h)
    · exact hf f (List.mem_of_mem_drop h)
  rw [hlen]
  have HQ := Lib.hid hq
  have hiq : i < q := by omega
  have hiq' : (i : Int) ≤ (q : Int) := by omega
  clear hq
  have hfin : ∀ v2 w2, w2.ownsRow w.heap.size 53 3 v2 (0 + i + (L.length - q)) (([] ++ flat (L.take i)) ++ flat (L.drop q)) → v2 ≠ .slice none 0 0 → ∃ g x, v2 = .slice (some ⟨g, 0, none⟩) (0 + i + (L.length - q)) x ∧ OwnF w2 w.heap.size (.slice (some ⟨g, 0, none⟩) (0 + i + (L.length - q)) x) (L.take i ++ L.drop q) := by
    intro v2 w2 h hne
    have h2 : OwnF w2 w.heap.size v2 (L.take i ++ L.drop q) := ⟨by rw [hlen, flat_append]; simpa using h, hfl⟩
    rcases h2.1.2 with ⟨hv, _⟩ | ⟨g, cap, cur, hv, _⟩
    · exact absurd hv hne
    · subst hv
      rw [hlen] at h2
      exact ⟨g, cap, by rw [hlen], h2⟩
  have HF := Lib.hid hfin
  clear hfin
  by_cases hcq : q = c
  · have e0 : L.length - q = 0 := by omega
    subst hcq
    have hqL : L.length = q := by omega
    have hq0 : ¬ q = 0 := by omega
    have e1 : L.drop q = [] := List.drop_eq_nil_of_le (by omega)
    go_enter Tryz.func55, Tryz.ntmps55
    go_wp2
    go_region_law
      (first
        | (refine step_append_ne _ (by rfl) _ _ _ (by rfl) w.heap.size 53 i0 _ 3 40 Tryz.underlying23 hi0 hz0 hz1 hz2 rfl (by omega) (.slice (some ⟨w.heap.size, 0, none⟩) 0 0) 0 [] (by rfl) hown0 a i q (flat (L.take i)) (by rfl) (by rw [flat_len, hlt]) (news_take hN0 i) (flat_one _) (by unfold maxLen; omega) (by omega) (by simp) ?_; intro v1 w1 hown1 hg1 hne1)
        | (refine step_append_ne _ (by rfl) _ _ _ (by rfl) w.heap.size 53 i0 _ 3 40 Tryz.underlying23 hi0 hz0 hz1 hz2 rfl (by omega) v1 (0 + i) _ (by rfl) hown1 a 0 0 [] (by rfl) (by rfl) (fun j u h => by simp at h) (fun u h => by simp at h) (by unfold maxLen; omega) (by omega) (by have := hg1.size; simp at this; omega) ?_; intro v2 w2 hown2 hg2 hne2))
    all_goals
      have hb1 : Below w.heap.size w w1 := hb0.grown hg1 (by simp) (fun k e => by simp [Value.ownBlock] at e; omega)
      have hb2 : Below w.heap.size w w2 := hb1.grown hg2 hb1.size (fun k e => (hown1.lt k e).1)
      obtain ⟨C, x, rfl, hO⟩ := HF.out v2 w2 (by rw [e0, e1]; exact hown2) (hne2 (hne1 (by simp)))
      go_wp2
      go_ret
      exact ⟨C, x, rfl, hO, hb2⟩
  · have hN1 : ∀ w1, Below w.heap.size w w1 → ∀ j u, (flat (L.drop q))[j]? = some u → w1.cell? ((a.add (q * 3)).add j) = some u := fun w1 h => news_drop (fls_news (hL.below h (Nat.le_refl _))) q
    have hcq' : ¬ c = q := fun h => hcq h.symm
    go_enter Tryz.func55, Tryz.ntmps55
    go_wp2
    go_region_law
      (first
        | (refine step_append_ne _ (by rfl) _ _ _ (by rfl) w.heap.size 53 i0 _ 3 40 Tryz.underlying23 hi0 hz0 hz1 hz2 rfl (by omega) (.slice (some ⟨w.heap.size, 0, none⟩) 0 0) 0 [] (by rfl) hown0 a i c (flat (L.take i)) (by rfl) (by rw [flat_len, hlt]) (news_take hN0 i) (flat_one _) (by unfold maxLen; omega) (by omega) (by simp) ?_; intro v1 w1 hown1 hg1 hne1; have hb1 : Below w.heap.size w w1 := hb0.grown hg1 (by simp) (fun k e => by simp [Value.ownBlock] at e; omega))
        | (refine step_append_ne _ (by rfl) _ _ _ (by rfl) w.heap.size 53 i0 _ 3 40 Tryz.underlying23 hi0 hz0 hz1 hz2 rfl (by omega) v1 (0 + i) _ (by rfl) hown1 (a.add (q * 3)) (L.length - q) (c - q) (flat (L.drop q)) (by rfl) (by rw [flat_len, hld]) (hN1 _ hb1) (flat_one _) (by unfold maxLen; omega) (by omega) (by have := hb1.size; omega) ?_; intro v2 w2 hown2 hg2 hne2))
    all_goals
      have hb2 : Below w.heap.size w w2 := hb1.grown hg2 hb1.size (fun k e => (hown1.lt k e).1)
      obtain ⟨C, x, rfl, hO⟩ := HF.out v2 w2 hown2 (hne2 (hne1 (by simp)))
      go_wp2
      go_ret
      exact ⟨C, x, rfl, hO, hb2⟩
end Go.Proofs.YtpgodphnjeifhaaGreatDoor
