/- Contracts of FsRead. -/
import Derived.Test.YtmdjfgnmjelmhaaDoorFOpen
import Derived.Test.YtmdjfgnmjelmhaaDoorFSpec
import Derived.Test.YtmdjfgnmjelmhaaDoorClone
namespace Go.Proofs.YtmdjfgnmjelmhaaDoor
open Go.RowKit
set_option linter.unusedVariables false

/-- A TextOut. -/
def tout (t : ByteArray) (code : Int) : Value := .agg #[.string t, .int .i64 0, .int .i64 code]
/-- The text that FsRead answers. -/
noncomputable def readT (L : List Fil) (s : ByteArray) : ByteArray := if codeOf L s = 0 then (match findF L s with | some f => f.data | none => ⟨#[]⟩) else ⟨#[]⟩

set_option maxHeartbeats 1000000 in
set_option maxRecDepth 1000000 in
theorem specRead_any (A : Option Addr) (L : List Fil) (c : Nat) (s : ByteArray) (w : World) (hL : Fls w w.heap.size A L) (hs : s.size ≤ maxLen) :
    Calls Tryd.prog 10 #[.agg #[.slice A L.length c], .string s] w fun e w' => e = .returned (tout (readT L s) (codeOf L s)) ∧ Below w.heap.size w w' := by
  have hn := hL.1
  unfold maxLen at hn
  have hB0 := (Blk.fresh w 31 [.slice A L.length c]).alloc (.cells #[.string ⟨#[]⟩, .int .i64 0, .int .i64 0] 27)
  have hT0 := Blk.fresh (w.alloc (.cells #[.slice A L.length c] 31)) 27 [.string ⟨#[]⟩, .int .i64 0, .int .i64 0]
  simp only [World.size_alloc] at hT0
  have hb0 : Below w.heap.size w ((w.alloc (.cells #[.slice A L.length c] 31)).alloc (.cells #[.string ⟨#[]⟩, .int .i64 0, .int .i64 0] 27)) := ((Below.refl _ _).alloc (Nat.le_refl _) _).alloc (by simp) _
  have Bg := l03Begin_any A L c s _ ((hL.below hb0 (Nat.le_refl _)).mono hb0.size) hs
  obtain ⟨cd, HC⟩ : ∃ cd, Hid (codeOf L s = cd) := ⟨_, Lib.hid rfl⟩
  obtain ⟨T, HT⟩ : ∃ T, Hid (readT L s = T) := ⟨_, Lib.hid rfl⟩
  rw [HC.out] at Bg ⊢
  rw [HT.out]
  unfold tout
  go_enter Tryd.func10, Tryd.ntmps10
  go_wp2_with (fail)
  refine Bg.mono ?_
  rintro e w1 ⟨k, rfl, h0, _, hb1⟩
  have hw1 := hb0.trans (hb1.mono hb0.size)
  have hB1 := hB0.below hb1 hB0.lt
  have hT1 := hT0.below hb1 hT0.lt
  have b1 := hB1.cell (i := 0) rfl
  have t0 := hT1.cell (i := 0) rfl
  have t1 := hT1.cell (i := 1) rfl
  have t2 := hT1.cell (i := 2) rfl
  have f0 := hT1.froz 0
  have f1 := hT1.froz 1
  have f2 := hT1.froz 2
  by_cases hc : cd = 0
  · subst hc
    obtain ⟨i, hi, rfl, hf, hnm⟩ := h0 rfl
    obtain ⟨a, rfl, hab, c0, c1, c2, hff⟩ := (hL.below hw1 (Nat.le_refl _)).at i hi
    have HT2 : L[i].data = T := by rw [← HT.out]; unfold readT; rw [HC.out, if_pos rfl, hf]
    rw [HT2] at c1
    have hlt' : (i : Int) < (L.length : Int) := by omega
    go_wp2
    have hp := ((hT1.put 0 (.string T)).put 1 (.int .i64 0)).put 2 (.int .i64 0)
    have k0 := hp.cell (i := 0) rfl
    have k1 := hp.cell (i := 1) rfl
    have k2 := hp.cell (i := 2) rfl
    refine bodyPost_ret (v := .agg #[.string T, .int .i64 0, .int .i64 0]) (by simp only [results, Tryd.results10]; simp [go_sem, k0, k1, k2]) rfl ⟨rfl, ?_⟩
    exact ((hw1.setCell (by simp) _).setCell (by simp) _).setCell (by simp) _
  · have HT2 : T = ⟨#[]⟩ := by rw [← HT.out]; unfold readT; rw [HC.out, if_neg hc]
    subst HT2
    have hc' : (cd == 0) = false := by simpa using hc
    go_wp2
    have hp := ((hT1.put 0 (.string ⟨#[]⟩)).put 1 (.int .i64 0)).put 2 (.int .i64 cd)
    have k0 := hp.cell (i := 0) rfl
    have k1 := hp.cell (i := 1) rfl
    have k2 := hp.cell (i := 2) rfl
    refine bodyPost_ret (v := .agg #[.string ⟨#[]⟩, .int .i64 0, .int .i64 cd]) (by simp only [results, Tryd.results10]; simp [go_sem, k0, k1, k2]) rfl ⟨rfl, ?_⟩
    exact ((hw1.setCell (by simp) _).setCell (by simp) _).setCell (by simp) _

theorem strA_one (w : World) (s : ByteArray) : StrA (w.alloc (.cells #[.string s] 9)) (some ⟨w.heap.size, 0, none⟩) [s] := by
  intro i hi
  have : i = 0 := by simp at hi; omega
  subst this
  exact ⟨_, rfl, by have := (Blk.fresh w 9 [.string s]).cell (i := 0) rfl; exact this⟩
theorem any_one (s : ByteArray) : anyLong [s] = decide (20000 < s.size) := by simp [anyLong]
theorem open_one (L : List Fil) (s : ByteArray) : openOK L [s] = (fsOK L && nameB s) := by simp [openOK]

set_option maxHeartbeats 2000000 in
set_option maxRecDepth 1000000 in
theorem implRead_any (A : Option Addr) (L : List Fil) (c : Nat) (s : ByteArray) (a0 a1 a2 a3 a4 : Addr) (w : World) (hL : Fls w w.heap.size A L) (hS : Small L) (hs : s.size ≤ maxLen) (hE : Errs w a0 a1 a2 a3 a4) :
    Calls Tryd.prog 12 #[.agg #[.slice A L.length c], .string s] w fun e w' => e = .returned (tout (readT L s) (codeOf L s)) ∧ Below w.heap.size w w' := by
  have hn := hL.1
  unfold maxLen at hn
  have hT0 := (Blk.fresh (w.alloc (.cells #[.slice A L.length c] 31)) 27 [.string ⟨#[]⟩, .int .i64 0, .int .i64 0]).alloc (.cells #[.string s] 9)
  simp only [World.size_alloc] at hT0
  have hb0 : Below w.heap.size w (((w.alloc (.cells #[.slice A L.length c] 31)).alloc (.cells #[.string ⟨#[]⟩, .int .i64 0, .int .i64 0] 27)).alloc (.cells #[.string s] 9)) := (((Below.refl _ _).alloc (Nat.le_refl _) _).alloc (by simp) _).alloc (by simp; omega) _
  have hN := strA_one ((w.alloc (.cells #[.slice A L.length c] 31)).alloc (.cells #[.string ⟨#[]⟩, .int .i64 0, .int .i64 0] 27)) s
  simp only [World.size_alloc] at hN
  have hsN : ∀ x ∈ [s], x.size ≤ maxLen := by intro x hx; simp at hx; subst hx; exact hs
  have hL0 := (hL.below hb0 (Nat.le_refl _)).mono hb0.size
  have hE0 := hE.below hb0
  obtain ⟨cd, HC⟩ : ∃ cd, Hid (codeOf L s = cd) := ⟨_, Lib.hid rfl⟩
  obtain ⟨T, HT⟩ : ∃ T, Hid (readT L s = T) := ⟨_, Lib.hid rfl⟩
  rw [HC.out, HT.out]
  unfold tout
  rcases Bool.eq_false_or_eq_true (anyLong [s]) with hlong | hlong
  · have e1 : cd = 2 := by rw [← HC.out]; unfold codeOf; rw [any_one] at hlong; rw [if_pos (by simpa using hlong)]
    have e2 : T = ⟨#[]⟩ := by rw [← HT.out]; unfold readT; rw [HC.out, if_neg (by rw [e1]; decide)]
    subst e1 e2
    have O := open_long A L c (some ⟨w.heap.size + 1 + 1, 0, none⟩) [s] 1 a0 a1 a2 a3 a4 _ hE0 hN (by simp) hsN hlong
    go_enter Tryd.func12, Tryd.ntmps12
    go_wp2_with (fail)
    refine O.mono ?_
    rintro e w1 ⟨rfl, hb1⟩
    have hw1 := hb0.trans (hb1.mono hb0.size)
    have hT1 := hT0.below hb1 hT0.lt
    have F := fileCode_any a0 a1 a2 a3 a4 w1 (hE0.below hb1) 0 a0 rfl
    have t0 := hT1.cell (i := 0) rfl
    have t1 := hT1.cell (i := 1) rfl
    have t2 := hT1.cell (i := 2) rfl
    have f0 := hT1.froz 0
    have f1 := hT1.froz 1
    have f2 := hT1.froz 2
    go_wp2_with (fail)
    refine F.mono ?_
    rintro e w2 ⟨rfl, rfl⟩
    go_wp2
    have hp := ((hT1.put 0 (.string ⟨#[]⟩)).put 1 (.int .i64 0)).put 2 (.int .i64 2)
    have k0 := hp.cell (i := 0) rfl
    have k1 := hp.cell (i := 1) rfl
    have k2 := hp.cell (i := 2) rfl
    refine bodyPost_ret (v := .agg #[.string ⟨#[]⟩, .int .i64 0, .int .i64 2]) (by simp only [results, Tryd.results12]; simp [go_sem, k0, k1, k2]) rfl ⟨rfl, ?_⟩
    exact ((hw1.setCell (by simp) _).setCell (by simp) _).setCell (by simp) _
  · rcases Bool.eq_false_or_eq_true (openOK L [s]) with hgood | hbad
    · have hl2 : ¬ 20000 < s.size := by rw [any_one] at hlong; simpa using hlong
      have hg2 : (fsOK L && nameB s) = true := by rw [← open_one]; exact hgood
      have O := open_ok A L c (some ⟨w.heap.size + 1 + 1, 0, none⟩) [s] 1 _ hL0 hN (by simp) hsN hlong hgood
      go_enter Tryd.func12, Tryd.ntmps12
      go_wp2_with (fail)
      refine O.mono ?_
      rintro e w1 ⟨b, rfl, hM, hbb, hb1⟩
      have hw1 := hb0.trans (hb1.mono hb0.size)
      have hT1 := hT0.below hb1 hT0.lt
      have hE1 := hE0.below hb1
      cases hf : findF L s with
      | none =>
        have e1 : cd = 6 := by rw [← HC.out]; unfold codeOf; rw [if_neg hl2, if_neg (by rw [hg2]; simp), if_pos hf]
        have e2 : T = ⟨#[]⟩ := by rw [← HT.out]; unfold readT; rw [HC.out, if_neg (by rw [e1]; decide)]
        subst e1 e2
        go_wp2_with (fail)
        refine (find_none b _ L s a0 a1 a2 a3 a4 _ hM hs hE1 hf).mono ?_
        rintro e w2 ⟨rfl, hb2⟩
        have hw2 := hw1.trans (hb2.mono hw1.size)
        have hT2 := hT1.below hb2 hT1.lt
        have hb3 : Below w2.heap.size w2 (w2.alloc (.cells #[.string ⟨#[]⟩, .string ⟨#[]⟩, .int .i64 0] 50)) := (Below.refl _ _).alloc (Nat.le_refl _) _
        have hw3 := hw2.trans (hb3.mono hw2.size)
        have hT3 := hT2.below hb3 hT2.lt
        have F := fileCode_any a0 a1 a2 a3 a4 _ ((hE1.below hb2).below hb3) 2 a2 rfl
        have t0 := hT3.cell (i := 0) rfl
        have t1 := hT3.cell (i := 1) rfl
        have t2 := hT3.cell (i := 2) rfl
        have f0 := hT3.froz 0
        have f1 := hT3.froz 1
        have f2 := hT3.froz 2
        unfold Fil.val zeroFil
        go_wp2_with (fail)
        refine F.mono ?_
        rintro e w4 ⟨rfl, rfl⟩
        go_wp2
        have hp := ((hT3.put 0 (.string ⟨#[]⟩)).put 1 (.int .i64 0)).put 2 (.int .i64 6)
        have k0 := hp.cell (i := 0) rfl
        have k1 := hp.cell (i := 1) rfl
        have k2 := hp.cell (i := 2) rfl
        refine bodyPost_ret (v := .agg #[.string ⟨#[]⟩, .int .i64 0, .int .i64 6]) (by simp only [results, Tryd.results12]; simp [go_sem, k0, k1, k2]) rfl ⟨rfl, ?_⟩
        exact ((hw3.setCell (by simp) _).setCell (by simp) _).setCell (by simp) _
      | some g =>
        obtain ⟨i, hi, hig⟩ : ∃ (i : Nat) (h : i < L.length), L[i] = g := List.getElem_of_mem (List.mem_of_find?_eq_some hf)
        have hgd : g.data.size ≤ 1048576 := by rw [← hig]; exact (hS.2 i hi).2
        have e1 : cd = 0 := by rw [← HC.out]; unfold codeOf; rw [if_neg hl2, if_neg (by rw [hg2]; simp), hf, if_neg (by simp)]
        have e2 : T = g.data := by rw [← HT.out]; unfold readT; rw [HC.out, if_pos e1, hf]
        subst e1 e2
        go_wp2_with (fail)
        refine (find_some b _ L s g _ hM hs hf).mono ?_
        rintro e w2 ⟨rfl, hb2⟩
        have hw2 := hw1.trans (hb2.mono hw1.size)
        have hT2 := hT1.below hb2 hT1.lt
        have hb3 : Below w2.heap.size w2 (w2.alloc (.cells #[.string g.name, .string g.data, .int .i64 g.sync] 50)) := (Below.refl _ _).alloc (Nat.le_refl _) _
        have hw3 := hw2.trans (hb3.mono hw2.size)
        have hT3 := hT2.below hb3 hT2.lt
        unfold Fil.val
        go_wp2_with (fail)
        refine (clone_any g.data _ hgd).mono ?_
        rintro e w4 ⟨rfl, hb4⟩
        have hw4 := hw3.trans (hb4.mono hw3.size)
        have hT4 := hT3.below hb4 hT3.lt
        have t0 := hT4.cell (i := 0) rfl
        have t1 := hT4.cell (i := 1) rfl
        have t2 := hT4.cell (i := 2) rfl
        have f0 := hT4.froz 0
        have f1 := hT4.froz 1
        have f2 := hT4.froz 2
        go_wp2
        have hp := ((hT4.put 0 (.string g.data)).put 1 (.int .i64 0)).put 2 (.int .i64 0)
        have k0 := hp.cell (i := 0) rfl
        have k1 := hp.cell (i := 1) rfl
        have k2 := hp.cell (i := 2) rfl
        refine bodyPost_ret (v := .agg #[.string g.data, .int .i64 0, .int .i64 0]) (by simp only [results, Tryd.results12]; simp [go_sem, k0, k1, k2]) rfl ⟨rfl, ?_⟩
        exact ((hw4.setCell (by simp) _).setCell (by simp) _).setCell (by simp) _
    · have hl2 : ¬ 20000 < s.size := by rw [any_one] at hlong; simpa using hlong
      have e1 : cd = 1 := by rw [← HC.out]; unfold codeOf; rw [open_one] at hbad; rw [if_neg hl2, if_pos hbad]
      have e2 : T = ⟨#[]⟩ := by rw [← HT.out]; unfold readT; rw [HC.out, if_neg (by rw [e1]; decide)]
      subst e1 e2
      have O := open_bad A L c (some ⟨w.heap.size + 1 + 1, 0, none⟩) [s] 1 a0 a1 a2 a3 a4 _ hE0 hL0 hN (by simp) hsN hlong hbad
      go_enter Tryd.func12, Tryd.ntmps12
      go_wp2_with (fail)
      refine O.mono ?_
      rintro e w1 ⟨rfl, hb1⟩
      have hw1 := hb0.trans (hb1.mono hb0.size)
      have hT1 := hT0.below hb1 hT0.lt
      have F := fileCode_any a0 a1 a2 a3 a4 w1 (hE0.below hb1) 1 a1 rfl
      have t0 := hT1.cell (i := 0) rfl
      have t1 := hT1.cell (i := 1) rfl
      have t2 := hT1.cell (i := 2) rfl
      have f0 := hT1.froz 0
      have f1 := hT1.froz 1
      have f2 := hT1.froz 2
      go_wp2_with (fail)
      refine F.mono ?_
      rintro e w2 ⟨rfl, rfl⟩
      go_wp2
      have hp := ((hT1.put 0 (.string ⟨#[]⟩)).put 1 (.int .i64 0)).put 2 (.int .i64 1)
      have k0 := hp.cell (i := 0) rfl
      have k1 := hp.cell (i := 1) rfl
      have k2 := hp.cell (i := 2) rfl
      refine bodyPost_ret (v := .agg #[.string ⟨#[]⟩, .int .i64 0, .int .i64 1]) (by simp only [results, Tryd.results12]; simp [go_sem, k0, k1, k2]) rfl ⟨rfl, ?_⟩
      exact ((hw1.setCell (by simp) _).setCell (by simp) _).setCell (by simp) _
end Go.Proofs.YtmdjfgnmjelmhaaDoor
