/- Contracts of changeFiles over a change's contract. -/
import Derived.Test.YtapnmnghdgkbpaaDoorFOpen
import Derived.Test.YtapnmnghdgkbpaaDoorFList
namespace Go.Proofs.YtapnmnghdgkbpaaDoor
open Go.RowKit
set_option linter.unusedVariables false
set_option maxRecDepth 1000000

abbrev fsOut (v : Value) (cd : Int) : Value := .agg #[v, .int .i64 cd]
theorem addr_add0 (b i : Nat) : (⟨b, 0, none⟩ : Addr).add i = ⟨b, i, none⟩ := by unfold Addr.add; split <;> simp_all
/-- A function that can be entered by its number. -/
def Enters (F : Nat) : Prop := ∀ args w, (callFunc F args).run Tryd.prog w = .ok (.enter F args) w

set_option maxHeartbeats 4000000 in
theorem change_long (A : Option Addr) (L : List Fil) (c : Nat) (B : Option Addr) (N : List ByteArray) (d : Nat) (fv : Value) (a0 a1 a2 a3 a4 : Addr) (w : World) (hE : Errs w a0 a1 a2 a3 a4) (hN : StrA w B N) (hl : N.length ≤ 100) (hs : ∀ s ∈ N, s.size ≤ maxLen) (hlong : anyLong N = true) :
    Calls Tryd.prog 71 #[.agg #[.slice A L.length c], fv, .slice B N.length d] w fun e w' => e = .returned (fsOut (.slice none 0 0) 2) ∧ Below w.heap.size w w' := by
  have hT0 := Blk.fresh (w.alloc (.cells #[.slice A L.length c] 50)) 52 [.slice none 0 0, .int .i64 0]
  simp only [World.size_alloc] at hT0
  have hb0 : Below w.heap.size w ((w.alloc (.cells #[.slice A L.length c] 50)).alloc (.cells #[.slice none 0 0, .int .i64 0] 52)) := ((Below.refl _ _).alloc (Nat.le_refl _) _).alloc (by simp) _
  have O := open_long A L c B N d a0 a1 a2 a3 a4 _ (hE.below hb0) (hN.below hb0) hl hs hlong
  go_enter Tryd.func71, Tryd.ntmps71
  go_wp2_with (fail)
  refine O.mono ?_
  rintro e w1 ⟨rfl, hb1⟩
  have hw1 := hb0.trans (hb1.mono hb0.size)
  have hT1 := hT0.below hb1 hT0.lt
  have F := fileCode_any a0 a1 a2 a3 a4 w1 ((hE.below hb0).below hb1) 0 a0 rfl
  have t0 := hT1.cell (i := 0) rfl
  have t1 := hT1.cell (i := 1) rfl
  have f0 := hT1.froz 0
  have f1 := hT1.froz 1
  go_wp2_with (fail)
  refine F.mono ?_
  rintro e w2 ⟨rfl, rfl⟩
  go_wp2
  have hp := (hT1.put 0 (.slice none 0 0)).put 1 (.int .i64 2)
  have k0 := hp.cell (i := 0) rfl
  have k1 := hp.cell (i := 1) rfl
  refine bodyPost_ret (v := fsOut (.slice none 0 0) 2) (by simp only [results, Tryd.results71]; simp [go_sem, k0, k1]) rfl ⟨rfl, ?_⟩
  exact (hw1.setCell (by simp) _).setCell (by simp) _

set_option maxHeartbeats 4000000 in
theorem change_bad (A : Option Addr) (L : List Fil) (c : Nat) (B : Option Addr) (N : List ByteArray) (d : Nat) (fv : Value) (a0 a1 a2 a3 a4 : Addr) (w : World) (hE : Errs w a0 a1 a2 a3 a4) (hL : Fls w w.heap.size A L) (hN : StrA w B N) (hl : N.length ≤ 100) (hs : ∀ s ∈ N, s.size ≤ maxLen) (hlong : anyLong N = false) (hbad : openOK L N = false) :
    Calls Tryd.prog 71 #[.agg #[.slice A L.length c], fv, .slice B N.length d] w fun e w' => e = .returned (fsOut (.slice none 0 0) 1) ∧ Below w.heap.size w w' := by
  have hT0 := Blk.fresh (w.alloc (.cells #[.slice A L.length c] 50)) 52 [.slice none 0 0, .int .i64 0]
  simp only [World.size_alloc] at hT0
  have hb0 : Below w.heap.size w ((w.alloc (.cells #[.slice A L.length c] 50)).alloc (.cells #[.slice none 0 0, .int .i64 0] 52)) := ((Below.refl _ _).alloc (Nat.le_refl _) _).alloc (by simp) _
  have O := open_bad A L c B N d a0 a1 a2 a3 a4 _ (hE.below hb0) ((hL.below hb0 (Nat.le_refl _)).mono hb0.size) (hN.below hb0) hl hs hlong hbad
  go_enter Tryd.func71, Tryd.ntmps71
  go_wp2_with (fail)
  refine O.mono ?_
  rintro e w1 ⟨rfl, hb1⟩
  have hw1 := hb0.trans (hb1.mono hb0.size)
  have hT1 := hT0.below hb1 hT0.lt
  have F := fileCode_any a0 a1 a2 a3 a4 w1 ((hE.below hb0).below hb1) 1 a1 rfl
  have t0 := hT1.cell (i := 0) rfl
  have t1 := hT1.cell (i := 1) rfl
  have f0 := hT1.froz 0
  have f1 := hT1.froz 1
  go_wp2_with (fail)
  refine F.mono ?_
  rintro e w2 ⟨rfl, rfl⟩
  go_wp2
  have hp := (hT1.put 0 (.slice none 0 0)).put 1 (.int .i64 1)
  have k0 := hp.cell (i := 0) rfl
  have k1 := hp.cell (i := 1) rfl
  refine bodyPost_ret (v := fsOut (.slice none 0 0) 1) (by simp only [results, Tryd.results71]; simp [go_sem, k0, k1]) rfl ⟨rfl, ?_⟩
  exact (hw1.setCell (by simp) _).setCell (by simp) _

set_option maxHeartbeats 4000000 in
theorem change_err (A : Option Addr) (L : List Fil) (c : Nat) (B : Option Addr) (N : List ByteArray) (d : Nat) (F : Nat) (caps : Array Value) (i : Nat) (ai : Addr) (a0 a1 a2 a3 a4 : Addr) (w : World) (hE : Errs w a0 a1 a2 a3 a4) (hL : Fls w w.heap.size A L) (hN : StrA w B N) (hl : N.length ≤ 100) (hs : ∀ s ∈ N, s.size ≤ maxLen) (hlong : anyLong N = false) (hgood : openOK L N = true)
    (hen : Enters F) (hi : [a0, a1, a2, a3, a4][i]? = some ai)
    (HC : Hid (∀ W b n, Below w.heap.size w W → w.heap.size ≤ b → MapF W b n L → n ≤ 100 → Calls Tryd.prog F (#[.map (some b)] ++ caps) W fun e w' => e = .returned (errV ai) ∧ Below W.heap.size W w')) :
    Calls Tryd.prog 71 #[.agg #[.slice A L.length c], .func (.func F) #[] caps, .slice B N.length d] w fun e w' => e = .returned (fsOut (.slice none 0 0) ([2, 1, 6, 8, 9].getD i 0)) ∧ Below w.heap.size w w' := by
  have hT0 := Blk.fresh (w.alloc (.cells #[.slice A L.length c] 50)) 52 [.slice none 0 0, .int .i64 0]
  simp only [World.size_alloc] at hT0
  have hb0 : Below w.heap.size w ((w.alloc (.cells #[.slice A L.length c] 50)).alloc (.cells #[.slice none 0 0, .int .i64 0] 52)) := ((Below.refl _ _).alloc (Nat.le_refl _) _).alloc (by simp) _
  have h12 : L.length ≤ 100 := by
    have hok : fsOK L = true := by unfold openOK at hgood; simp only [Bool.and_eq_true] at hgood; exact hgood.1
    have := (fsOK_iff.1 hok).1; omega
  have O := open_ok A L c B N d _ ((hL.below hb0 (Nat.le_refl _)).mono hb0.size) (hN.below hb0) hl hs hlong hgood
  obtain ⟨cd, hcd⟩ : ∃ cd, Hid ([2, 1, 6, 8, 9].getD i (0 : Int) = cd) := ⟨_, Lib.hid rfl⟩
  rw [hcd.out]
  go_enter Tryd.func71, Tryd.ntmps71
  go_wp2_with (fail)
  refine O.mono ?_
  rintro e w1 ⟨b, rfl, hM, hbb, hb1⟩
  have hw1 := hb0.trans (hb1.mono hb0.size)
  have hT1 := hT0.below hb1 hT0.lt
  have hen' : ∀ args w, (callFunc F args).run Tryd.prog w = .ok (.enter F args) w := hen
  go_wp2_with (fail)
  refine (HC.out w1 b L.length hw1 (Nat.le_trans hb0.size hbb) hM h12).mono ?_
  rintro e w2 ⟨rfl, hb2⟩
  have hw2 := hw1.trans (hb2.mono hw1.size)
  have hT2 := hT1.below hb2 hT1.lt
  have FC := fileCode_any a0 a1 a2 a3 a4 w2 (hE.below hw2) i ai hi
  rw [hcd.out] at FC
  have t0 := hT2.cell (i := 0) rfl
  have t1 := hT2.cell (i := 1) rfl
  have f0 := hT2.froz 0
  have f1 := hT2.froz 1
  go_wp2_with (fail)
  refine FC.mono ?_
  rintro e w3 ⟨rfl, rfl⟩
  go_wp2
  have hp := (hT2.put 0 (.slice none 0 0)).put 1 (.int .i64 cd)
  have k0 := hp.cell (i := 0) rfl
  have k1 := hp.cell (i := 1) rfl
  refine bodyPost_ret (v := fsOut (.slice none 0 0) cd) (by simp only [results, Tryd.results71]; simp [go_sem, k0, k1]) rfl ⟨rfl, ?_⟩
  exact (hw2.setCell (by simp) _).setCell (by simp) _

set_option maxHeartbeats 4000000 in
theorem change_ok (A : Option Addr) (L : List Fil) (c : Nat) (B : Option Addr) (N : List ByteArray) (d : Nat) (F : Nat) (caps : Array Value) (M : List Fil) (w : World) (hL : Fls w w.heap.size A L) (hN : StrA w B N) (hl : N.length ≤ 100) (hs : ∀ s ∈ N, s.size ≤ maxLen) (hlong : anyLong N = false) (hgood : openOK L N = true)
    (hen : Enters F) (hR : Rising M) (hMf : ∀ f ∈ M, f.fits) (hMS : Small M)
    (HC : Hid (∀ W b n, Below w.heap.size w W → w.heap.size ≤ b → MapF W b n L → n ≤ 100 → Calls Tryd.prog F (#[.map (some b)] ++ caps) W fun e w' => e = .returned .nilIface ∧ (∃ m, m ≤ 1000 ∧ MapF w' b m M) ∧ W.grownBy w' (some b))) :
    Calls Tryd.prog 71 #[.agg #[.slice A L.length c], .func (.func F) #[] caps, .slice B N.length d] w fun e w' => ∃ C x, e = .returned (fsOut (.slice C M.length x) 0) ∧ OwnF w' w.heap.size (.slice C M.length x) M ∧ Below w.heap.size w w' := by
  have hT0 := Blk.fresh (w.alloc (.cells #[.slice A L.length c] 50)) 52 [.slice none 0 0, .int .i64 0]
  simp only [World.size_alloc] at hT0
  have hb0 : Below w.heap.size w ((w.alloc (.cells #[.slice A L.length c] 50)).alloc (.cells #[.slice none 0 0, .int .i64 0] 52)) := ((Below.refl _ _).alloc (Nat.le_refl _) _).alloc (by simp) _
  have hz0 : ((w.alloc (.cells #[.slice A L.length c] 50)).alloc (.cells #[.slice none 0 0, .int .i64 0] 52)).heap.size = w.heap.size + 2 := by simp
  have h12 : L.length ≤ 100 := by
    have hok : fsOK L = true := by unfold openOK at hgood; simp only [Bool.and_eq_true] at hgood; exact hgood.1
    have := (fsOK_iff.1 hok).1; omega
  have O := open_ok A L c B N d _ ((hL.below hb0 (Nat.le_refl _)).mono hb0.size) (hN.below hb0) hl hs hlong hgood
  go_enter Tryd.func71, Tryd.ntmps71
  go_wp2_with (fail)
  refine O.mono ?_
  rintro e w1 ⟨b, rfl, hM, hbb, hb1⟩
  have hw1 := hb0.trans (hb1.mono hb0.size)
  have hT1 := hT0.below hb1 hT0.lt
  rw [hz0] at hbb
  have hen' : ∀ args w, (callFunc F args).run Tryd.prog w = .ok (.enter F args) w := hen
  go_wp2_with (fail)
  refine (HC.out w1 b L.length hw1 (by omega) hM h12).mono ?_
  rintro e w2 ⟨rfl, ⟨m, hm, hM2⟩, hg2⟩
  have hw2 : Below w.heap.size w w2 := hw1.grown hg2 hw1.size (fun k e => by cases e; omega)
  have hT2 := hT1.grown hg2 (by simp; omega)
  go_wp2_with (fail)
  refine (list_any b m M w2 hM2 hm hR hMf hMS).mono ?_
  rintro e w3 ⟨C, x, rfl, hO, hb3⟩
  have hw3 := hw2.trans (hb3.mono hw2.size)
  have hT3 := hT2.below hb3 hT2.lt
  have hTl := hT2.lt
  have t0 := hT3.cell (i := 0) rfl
  have t1 := hT3.cell (i := 1) rfl
  have f0 := hT3.froz 0
  have f1 := hT3.froz 1
  go_wp2
  have hp := (hT3.put 0 (.slice C M.length x)).put 1 (.int .i64 0)
  have k0 := hp.cell (i := 0) rfl
  have k1 := hp.cell (i := 1) rfl
  have hO4 := (OwnF.far (OwnF.far hO (p := ⟨w.heap.size + 1, 0, none⟩) (by simpa using hTl) (.slice C M.length x)) (p := ⟨w.heap.size + 1, 1, none⟩) (by simpa using hTl) (.int .i64 0))
  refine bodyPost_ret (v := fsOut (.slice C M.length x) 0) (by simp only [results, Tryd.results71]; simp [go_sem, k0, k1]) rfl ⟨C, x, rfl, OwnF.base hO4 (by have := hw2.size; omega), ?_⟩
  exact (hw3.setCell (by simp) _).setCell (by simp) _
end Go.Proofs.YtapnmnghdgkbpaaDoor
