/- Contracts of FsCrash: the pure part and the small functions. -/
import Derived.Test.YtmdjfgnmjelmhaaFilRightI
import Derived.Test.YtmdjfgnmjelmhaaFresh
import Derived.Test.YtmdjfgnmjelmhaaNms
namespace Go.Proofs.Ytmdjfgnmjelmhaa
open Go.RowKit
set_option linter.unusedVariables false

/-- What is kept of a file's end. -/
def keepAt (K : List Int) (i : Nat) : Int := if h : i < K.length then max K[i] 0 else 0
theorem keepAt_lo (K : List Int) (i : Nat) : 0 ≤ keepAt K i := by unfold keepAt; split <;> omega
/-- How many bytes a crash leaves. -/
def cutN (f : Fil) (kp : Int) : Int := f.sync + min kp (f.data.size - f.sync)
def crashF (f : Fil) (kp : Int) : Fil := ⟨f.name, f.data.extract 0 (cutN f kp).toNat, cutN f kp⟩
theorem okF_parts {f : Fil} (h : okF f = true) : f.data.size ≤ 3000 ∧ 0 ≤ f.sync ∧ f.sync ≤ f.data.size ∧ nameB f.name = true := by
  unfold okF at h
  simp only [Bool.and_eq_true, decide_eq_true_eq] at h
  exact ⟨h.2.1, h.2.2.1, h.2.2.2, h.1⟩
theorem cutN_in {f : Fil} {kp : Int} (h : okF f = true) (hk : 0 ≤ kp) : f.sync ≤ cutN f kp ∧ cutN f kp ≤ f.data.size ∧ 0 ≤ cutN f kp := by
  obtain ⟨h1, h2, h3, _⟩ := okF_parts h
  unfold cutN
  omega
theorem crash_size {f : Fil} {kp : Int} (h : okF f = true) (hk : 0 ≤ kp) : ((crashF f kp).data.size : Int) = cutN f kp := by
  obtain ⟨h1, h2, h3⟩ := cutN_in h hk
  show (((f.data.extract 0 (cutN f kp).toNat).size : Nat) : Int) = _
  rw [ByteArray.size_extract]
  omega

theorem keptAt_any (A : Option Addr) (K : List Int) (c i : Nat) (w : World) (hK : Nms w w.heap.size A K) (hi : i ≤ 1048576) :
    Calls Try.prog 35 #[.slice A K.length c, .int .i64 i] w fun e w' => e = .returned (.int .i64 (keepAt K i)) ∧ w' = w := by
  have hn := hK.1
  unfold maxLen at hn
  by_cases hlt : i < K.length
  · obtain ⟨a, rfl, hab, a0, l0, l1⟩ := hK.2 i hlt
    have hd : ¬ (K.length : Int) ≤ (i : Int) := by omega
    have hlt' : (i : Int) < (K.length : Int) := by omega
    have HK : Hid (keepAt K i = max K[i] 0) := by unfold Hid keepAt; rw [dif_pos hlt]
    rw [HK.out]
    go_enter Try.func35, Try.ntmps35
    go_wp2
    all_goals go_ret
    all_goals exact ⟨retI (by omega), rfl⟩
  · have hd : (K.length : Int) ≤ (i : Int) := by omega
    have HK : Hid (keepAt K i = 0) := by unfold Hid keepAt; rw [dif_neg hlt]
    rw [HK.out]
    go_enter Try.func35, Try.ntmps35
    go_wp2
    go_ret
    exact ⟨rfl, rfl⟩

set_option maxHeartbeats 1000000 in
theorem crashed_any (f : Fil) (kp : Int) (w : World) (hf : f.fits) (hok : okF f = true) (hk : 0 ≤ kp) (hk1 : kp ≤ 9223372036854775807) :
    Calls Try.prog 34 #[f.val, .int .i64 kp] w fun e w' => e = .returned (crashF f kp).val ∧ Below w.heap.size w w' := by
  obtain ⟨p1, p2, p3, _⟩ := okF_parts hok
  obtain ⟨q1, q2, q3⟩ := cutN_in hok hk
  have hz := crash_size hok hk
  have hfit : (⟨f.name, f.data.extract 0 (cutN f kp).toNat, f.sync⟩ : Fil).fits := by
    refine ⟨hf.1, ?_, hf.2.2.1, hf.2.2.2⟩
    show (f.data.extract 0 (cutN f kp).toNat).size ≤ maxLen
    have : (crashF f kp).data = f.data.extract 0 (cutN f kp).toNat := rfl
    rw [← this]; unfold maxLen; omega
  have hc : (crashF f kp).val = Fil.val ⟨f.name, f.data.extract 0 (cutN f kp).toNat, ((f.data.extract 0 (cutN f kp).toNat).size : Int)⟩ := by
    have : (((f.data.extract 0 (cutN f kp).toNat).size : Nat) : Int) = cutN f kp := hz
    rw [this]; rfl
  rw [hc]
  have Sy := fun W => syncedFile_any ⟨f.name, f.data.extract 0 (cutN f kp).toNat, f.sync⟩ W hfit
  obtain ⟨s0, s1, k⟩ := f
  obtain ⟨n, HN⟩ : ∃ n, Hid (cutN ⟨s0, s1, k⟩ kp = n) := ⟨_, Lib.hid rfl⟩
  rw [HN.out] at Sy q1 q2 q3 ⊢
  simp only at *
  unfold Fil.val at *
  simp only at *
  have e1 : k + min kp ((s1.size : Int) - k) = n := HN.out
  by_cases hle : kp ≤ (s1.size : Int) - k
  · obtain rfl : n = k + kp := by omega
    clear e1
    go_enter Try.func34, Try.ntmps34
    go_wp2_with (fail)
    all_goals first
      | (exfalso; omega)
      | (refine (Sy _).mono ?_
         rintro e w1 ⟨rfl, hb1⟩
         generalize hXX : (s1.extract 0 (k + kp).toNat) = s2 at *
         have hB0 := Blk.fresh (w.alloc (.cells #[.string s0, .string s2, .int .i64 k] 46)) 46 [.string ⟨#[]⟩, .string ⟨#[]⟩, .int .i64 0]
         simp only [World.size_alloc] at hB0
         have hb0 : Below w.heap.size w ((w.alloc (.cells #[.string s0, .string s2, .int .i64 k] 46)).alloc (.cells #[.string ⟨#[]⟩, .string ⟨#[]⟩, .int .i64 0] 46)) := ((Below.refl _ _).alloc (Nat.le_refl _) _).alloc (by simp) _
         have hw1 := hb0.trans (hb1.mono hb0.size)
         have hB1 := hB0.below hb1 hB0.lt
         have t0 := hB1.cell (i := 0) rfl
         have t1 := hB1.cell (i := 1) rfl
         have t2 := hB1.cell (i := 2) rfl
         have f0 := hB1.froz 0
         have f1 := hB1.froz 1
         have f2 := hB1.froz 2
         have hp := ((hB1.put 0 (.string s0)).put 1 (.string s2)).put 2 (.int .i64 s2.size)
         have k0 := hp.cell (i := 0) rfl
         have k1 := hp.cell (i := 1) rfl
         have k2 := hp.cell (i := 2) rfl
         go_wp2
         refine bodyPost_ret (v := .agg #[.string s0, .string s2, .int .i64 s2.size]) (by simp only [results, Try.results34]; simp [go_sem, k0, k1, k2]) rfl ⟨by rw [hXX], ?_⟩
         exact ((hw1.setCell (by simp) _).setCell (by simp) _).setCell (by simp) _)
  · obtain rfl : n = k + ((s1.size : Int) - k) := by omega
    clear e1
    go_enter Try.func34, Try.ntmps34
    go_wp2_with (fail)
    all_goals first
      | (exfalso; omega)
      | (refine (Sy _).mono ?_
         rintro e w1 ⟨rfl, hb1⟩
         generalize hXX : (s1.extract 0 (k + ((s1.size : Int) - k)).toNat) = s2 at *
         have hB0 := Blk.fresh (w.alloc (.cells #[.string s0, .string s2, .int .i64 k] 46)) 46 [.string ⟨#[]⟩, .string ⟨#[]⟩, .int .i64 0]
         simp only [World.size_alloc] at hB0
         have hb0 : Below w.heap.size w ((w.alloc (.cells #[.string s0, .string s2, .int .i64 k] 46)).alloc (.cells #[.string ⟨#[]⟩, .string ⟨#[]⟩, .int .i64 0] 46)) := ((Below.refl _ _).alloc (Nat.le_refl _) _).alloc (by simp) _
         have hw1 := hb0.trans (hb1.mono hb0.size)
         have hB1 := hB0.below hb1 hB0.lt
         have t0 := hB1.cell (i := 0) rfl
         have t1 := hB1.cell (i := 1) rfl
         have t2 := hB1.cell (i := 2) rfl
         have f0 := hB1.froz 0
         have f1 := hB1.froz 1
         have f2 := hB1.froz 2
         have hp := ((hB1.put 0 (.string s0)).put 1 (.string s2)).put 2 (.int .i64 s2.size)
         have k0 := hp.cell (i := 0) rfl
         have k1 := hp.cell (i := 1) rfl
         have k2 := hp.cell (i := 2) rfl
         go_wp2
         refine bodyPost_ret (v := .agg #[.string s0, .string s2, .int .i64 s2.size]) (by simp only [results, Try.results34]; simp [go_sem, k0, k1, k2]) rfl ⟨by rw [hXX], ?_⟩
         exact ((hw1.setCell (by simp) _).setCell (by simp) _).setCell (by simp) _)

/-- The files that a crash leaves. -/
noncomputable def crashG (L : List Fil) (K : List Int) : List Fil := L.mapIdx fun i f => if fsOK L = true then crashF f (keepAt K i) else f
noncomputable def crashL (L : List Fil) (K : List Int) : List Fil := if 400 < K.length then [] else crashG L K
theorem crashG_len (L : List Fil) (K : List Int) : (crashG L K).length = L.length := by simp [crashG]
theorem crashG_get {L : List Fil} {K : List Int} {i : Nat} (h : i < L.length) : (crashG L K)[i]'(by rw [crashG_len]; exact h) = if fsOK L = true then crashF L[i] (keepAt K i) else L[i] := by simp [crashG]
theorem crash_fits {f : Fil} {kp : Int} (h : okF f = true) (hk : 0 ≤ kp) (hf : f.fits) : (crashF f kp).fits ∧ (crashF f kp).data.size ≤ 3000 := by
  have h1 := crash_size h hk
  obtain ⟨q1, q2, q3⟩ := cutN_in h hk
  obtain ⟨p1, p2, p3, _⟩ := okF_parts h
  have h2 : (crashF f kp).data.size ≤ 3000 := by omega
  refine ⟨⟨hf.1, ?_, ?_, ?_⟩, h2⟩
  · unfold maxLen; omega
  · show (-9223372036854775808 : Int) ≤ cutN f kp
    omega
  · show cutN f kp ≤ 9223372036854775807
    omega
theorem crashG_ok {L : List Fil} {K : List Int} (hf : ∀ f ∈ L, f.fits) (hS : Small L) : (∀ f ∈ crashG L K, f.fits) ∧ Small (crashG L K) := by
  have key : ∀ i (h : i < L.length), ((crashG L K)[i]'(by rw [crashG_len]; exact h)).fits ∧ ((crashG L K)[i]'(by rw [crashG_len]; exact h)).name.size ≤ 1048576 ∧ ((crashG L K)[i]'(by rw [crashG_len]; exact h)).data.size ≤ 1048576 := by
    intro i h
    rw [crashG_get h]
    split
    · rename_i hok
      have ho := ((fsOK_iff.1 hok).2 i h).1
      have hc := crash_fits ho (keepAt_lo K i) (hf _ (List.getElem_mem h))
      exact ⟨hc.1, (hS.2 i h).1, by omega⟩
    · exact ⟨hf _ (List.getElem_mem h), (hS.2 i h).1, (hS.2 i h).2⟩
  refine ⟨fun f h => ?_, by rw [crashG_len]; exact hS.1, fun i h => ?_⟩
  · obtain ⟨i, hi, rfl⟩ := List.getElem_of_mem h
    exact (key i (by rw [crashG_len] at hi; exact hi)).1
  · exact (key i (by rw [crashG_len] at h; exact h)).2
end Go.Proofs.Ytmdjfgnmjelmhaa
