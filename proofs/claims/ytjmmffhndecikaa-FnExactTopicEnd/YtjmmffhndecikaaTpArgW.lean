/- spec.TopicPublish. The contract of tooLong. impl.TopicPublish; the two answer alike. An argument that is a topic. -/
import Derived.Test.YtjmmffhndecikaaTpRSW
import Derived.Test.YtjmmffhndecikaaTpRIW
import Derived.BigQuiet
import Derived.Test.YtjmmffhndecikaaRwkW
import Derived.Test.YtjmmffhndecikaaCmW
namespace Go.Proofs.Ytjmmffhndecikaa
open Go.RowKit
set_option linter.unusedVariables false
set_option maxRecDepth 1000000

/-- TopicPublish. -/
noncomputable def pubT (t : Tpc) (s : ByteArray) : Ans :=
  if 20000 < s.size then ill 2 else if (topB t && inB s.size 1 40) = false then ill 1 else if 20 ≤ t.held.length ∨ 1000000000 ≤ t.base + t.held.length then ill 9
  else ⟨⟨t.name, t.base, t.held ++ [s], t.groups⟩, [], t.base + t.held.length, 0⟩
theorem pub_end {w w1 w9 : World} (nm s : ByteArray) {bs : Int} {H : List ByteArray} {G : List Grp} {A B : Option Addr} {a b : Nat} {R : Ans} (h : R = ⟨⟨nm, bs, H ++ [s], G⟩, [], bs + H.length, 0⟩) (hS : w9.ownsRow w1.heap.size 9 1 (.slice A (H.length + 1) a) (H ++ [s]).length ((H ++ [s]).map Value.string)) (hG : OwnG w9 w1.heap.size (.slice B G.length b) G) (hb : Below w.heap.size w w9) :
    SpO w w9 (.returned (outV nm bs (.slice A (H.length + 1) a) (.slice B G.length b) (.slice none 0 0) (bs + H.length) 0)) R := by
  subst h
  have e : (H ++ [s]).length = H.length + 1 := by simp
  refine ⟨A, a, B, b, none, 0, by rw [e]; rfl, ?_, hG.grs, strs_nil _ _ _, Cap.own hS, Cap.own hG, hb⟩
  have hS' : OwnS w9 w1.heap.size (.slice A (H ++ [s]).length a) (H ++ [s]) := by unfold OwnS; rw [e] at hS ⊢; exact hS
  exact (OwnS.strs hS').2
set_option maxHeartbeats 8000000 in
theorem specTopicPublish_any (t : Tpc) (s : ByteArray) (A : Option Addr) (c : Nat) (B : Option Addr) (d : Nat) (w : World) (hf : t.fits) (hs : s.size ≤ maxLen) (hA : Strs w w.heap.size A t.held) (hB : Grs w w.heap.size B t.groups) (hc : Cap A t.held.length c) (hd : Cap B t.groups.length d) :
    Calls Try.prog 19 #[topV t.name t.base (.slice A t.held.length c) (.slice B t.groups.length d), .string s] w fun e w' => SpO w w' e (pubT t s) := by
  have TR := Lib.hid (fun W (h : Below w.heap.size w W) => specTopicRight_any t A c B d W hf (hA.on h) (hB.on h))
  have HR0 : Hid (pubT t s = _) := Lib.hid (pubT.eq_def t s)
  have HO := Lib.hid (topB_iff (t := t))
  generalize pubT t s = R at HR0 ⊢
  obtain ⟨nm, bs, H, G⟩ := t
  have hs' := hs
  unfold maxLen at hs'
  simp only at TR HR0 hA hB hc hd ⊢
  have K := (Blk.fresh w 26 [.string nm, .int .i64 bs, .slice A H.length c, .slice B G.length d]).alloc (.cells #[.string ⟨#[]⟩, .int .i64 0, .slice none 0 0, .slice none 0 0, .slice none 0 0, .int .i64 0, .int .i64 0] 30)
  have O := Blk.fresh (w.alloc (.cells #[.string nm, .int .i64 bs, .slice A H.length c, .slice B G.length d] 26)) 30 [.string ⟨#[]⟩, .int .i64 0, .slice none 0 0, .slice none 0 0, .slice none 0 0, .int .i64 0, .int .i64 0]
  have hb : Below w.heap.size w ((w.alloc (.cells #[.string nm, .int .i64 bs, .slice A H.length c, .slice B G.length d] 26)).alloc (.cells #[.string ⟨#[]⟩, .int .i64 0, .slice none 0 0, .slice none 0 0, .slice none 0 0, .int .i64 0, .int .i64 0] 30)) := ((Below.refl _ _).alloc (Nat.le_refl _) _).alloc (by simp) _
  simp only [World.size_alloc] at K O
  replace K : Blk ((w.alloc (.cells #[.string nm, .int .i64 bs, .slice A H.length c, .slice B G.length d] 26)).alloc (.cells #[.string ⟨#[]⟩, .int .i64 0, .slice none 0 0, .slice none 0 0, .slice none 0 0, .int .i64 0, .int .i64 0] 30)) w.heap.size 26 [.string nm, .int .i64 bs, .slice A H.length c, .slice B G.length d] := K
  replace O : Blk ((w.alloc (.cells #[.string nm, .int .i64 bs, .slice A H.length c, .slice B G.length d] 26)).alloc (.cells #[.string ⟨#[]⟩, .int .i64 0, .slice none 0 0, .slice none 0 0, .slice none 0 0, .int .i64 0, .int .i64 0] 30)) (w.heap.size + 1) 30 [.string ⟨#[]⟩, .int .i64 0, .slice none 0 0, .slice none 0 0, .slice none 0 0, .int .i64 0, .int .i64 0] := O
  by_cases h1 : 20000 < s.size
  · have h1' : (20000 : Int) < (s.size : Int) := by omega
    have HR : Hid (R = ill 2) := Lib.hid (by rw [HR0.out, if_pos h1])
    go_enter Try.func19, Try.ntmps19
    go_wp2_with (fail)
    generalize (w.alloc (.cells #[.string nm, .int .i64 bs, .slice A H.length c, .slice B G.length d] 26)).alloc (.cells #[.string ⟨#[]⟩, .int .i64 0, .slice none 0 0, .slice none 0 0, .slice none 0 0, .int .i64 0, .int .i64 0] 30) = v0 at K O hb ⊢
    refine (l07Ill_any 2 _).mono ?_
    rintro e w1 ⟨rfl, hb1⟩
    replace K := K.below hb1 K.lt
    replace O := O.below hb1 O.lt
    replace hb := hb.trans (hb1.mono hb.size)
    have qc0 := O.cell (i := 0) rfl
    have qf0 := O.froz 0
    have qc1 := O.cell (i := 1) rfl
    have qf1 := O.froz 1
    have qc2 := O.cell (i := 2) rfl
    have qf2 := O.froz 2
    have qc3 := O.cell (i := 3) rfl
    have qf3 := O.froz 3
    have qc4 := O.cell (i := 4) rfl
    have qf4 := O.froz 4
    have qc5 := O.cell (i := 5) rfl
    have qf5 := O.froz 5
    have qc6 := O.cell (i := 6) rfl
    have qf6 := O.froz 6
    go_wp2
    clear qc0 qf0 qc1 qf1 qc2 qf2 qc3 qf3 qc4 qf4 qc5 qf5 qc6 qf6
    have O9 := (((((((O.put 0 (.string ⟨#[]⟩)).put 1 (.int .i64 0)).put 2 (.slice none 0 0)).put 3 (.slice none 0 0)).put 4 (.slice none 0 0)).put 5 (.int .i64 0)).put 6 (.int .i64 2))
    have hb9 := (((((((hb.setCell (p := ⟨w.heap.size + 1, 0, none⟩) (by simp <;> omega) (.string ⟨#[]⟩)).setCell (p := ⟨w.heap.size + 1, 1, none⟩) (by simp <;> omega) (.int .i64 0)).setCell (p := ⟨w.heap.size + 1, 2, none⟩) (by simp <;> omega) (.slice none 0 0)).setCell (p := ⟨w.heap.size + 1, 3, none⟩) (by simp <;> omega) (.slice none 0 0)).setCell (p := ⟨w.heap.size + 1, 4, none⟩) (by simp <;> omega) (.slice none 0 0)).setCell (p := ⟨w.heap.size + 1, 5, none⟩) (by simp <;> omega) (.int .i64 0)).setCell (p := ⟨w.heap.size + 1, 6, none⟩) (by simp <;> omega) (.int .i64 2))
    simp only [List.set_cons_succ, List.set_cons_zero] at O9
    generalize ((((((w1.setCell ⟨w.heap.size + 1, 0, none⟩ (.string ⟨#[]⟩)).setCell ⟨w.heap.size + 1, 1, none⟩ (.int .i64 0)).setCell ⟨w.heap.size + 1, 2, none⟩ (.slice none 0 0)).setCell ⟨w.heap.size + 1, 3, none⟩ (.slice none 0 0)).setCell ⟨w.heap.size + 1, 4, none⟩ (.slice none 0 0)).setCell ⟨w.heap.size + 1, 5, none⟩ (.int .i64 0)).setCell ⟨w.heap.size + 1, 6, none⟩ (.int .i64 2) = w9 at O9 hb9  ⊢
    have oc0 := O9.cell (i := 0) rfl
    have oc1 := O9.cell (i := 1) rfl
    have oc2 := O9.cell (i := 2) rfl
    have oc3 := O9.cell (i := 3) rfl
    have oc4 := O9.cell (i := 4) rfl
    have oc5 := O9.cell (i := 5) rfl
    have oc6 := O9.cell (i := 6) rfl
    exact bodyPost_ret (v := .agg #[.string ⟨#[]⟩, .int .i64 0, .slice none 0 0, .slice none 0 0, .slice none 0 0, .int .i64 0, .int .i64 2]) (by simp [results, Try.results19, go_sem, oc0, oc1, oc2, oc3, oc4, oc5, oc6]) rfl (by rw [HR.out]; exact SpO.ill hb9)
  have h1' : ¬ (20000 : Int) < (s.size : Int) := by omega
  rcases Bool.eq_false_or_eq_true (topB ⟨nm, bs, H, G⟩) with hT | hT
  rotate_left
  · have HR : Hid (R = ill 1) := Lib.hid (by rw [HR0.out, if_neg h1, if_pos (by rw [hT]; rfl)])
    rw [hT] at TR
    go_enter Try.func19, Try.ntmps19
    go_wp2_with (fail)
    generalize (w.alloc (.cells #[.string nm, .int .i64 bs, .slice A H.length c, .slice B G.length d] 26)).alloc (.cells #[.string ⟨#[]⟩, .int .i64 0, .slice none 0 0, .slice none 0 0, .slice none 0 0, .int .i64 0, .int .i64 0] 30) = v0 at K O hb ⊢
    refine (TR.out _ hb).mono ?_
    rintro e w0 ⟨rfl, hb0⟩
    replace K := K.below hb0 K.lt
    replace O := O.below hb0 O.lt
    replace hb := hb.trans (hb0.mono hb.size)
    go_wp2_with (fail)
    refine (l07Ill_any 1 _).mono ?_
    rintro e w1 ⟨rfl, hb1⟩
    replace K := K.below hb1 K.lt
    replace O := O.below hb1 O.lt
    replace hb := hb.trans (hb1.mono hb.size)
    have qc0 := O.cell (i := 0) rfl
    have qf0 := O.froz 0
    have qc1 := O.cell (i := 1) rfl
    have qf1 := O.froz 1
    have qc2 := O.cell (i := 2) rfl
    have qf2 := O.froz 2
    have qc3 := O.cell (i := 3) rfl
    have qf3 := O.froz 3
    have qc4 := O.cell (i := 4) rfl
    have qf4 := O.froz 4
    have qc5 := O.cell (i := 5) rfl
    have qf5 := O.froz 5
    have qc6 := O.cell (i := 6) rfl
    have qf6 := O.froz 6
    go_wp2
    clear qc0 qf0 qc1 qf1 qc2 qf2 qc3 qf3 qc4 qf4 qc5 qf5 qc6 qf6
    have O9 := (((((((O.put 0 (.string ⟨#[]⟩)).put 1 (.int .i64 0)).put 2 (.slice none 0 0)).put 3 (.slice none 0 0)).put 4 (.slice none 0 0)).put 5 (.int .i64 0)).put 6 (.int .i64 1))
    have hb9 := (((((((hb.setCell (p := ⟨w.heap.size + 1, 0, none⟩) (by simp <;> omega) (.string ⟨#[]⟩)).setCell (p := ⟨w.heap.size + 1, 1, none⟩) (by simp <;> omega) (.int .i64 0)).setCell (p := ⟨w.heap.size + 1, 2, none⟩) (by simp <;> omega) (.slice none 0 0)).setCell (p := ⟨w.heap.size + 1, 3, none⟩) (by simp <;> omega) (.slice none 0 0)).setCell (p := ⟨w.heap.size + 1, 4, none⟩) (by simp <;> omega) (.slice none 0 0)).setCell (p := ⟨w.heap.size + 1, 5, none⟩) (by simp <;> omega) (.int .i64 0)).setCell (p := ⟨w.heap.size + 1, 6, none⟩) (by simp <;> omega) (.int .i64 1))
    simp only [List.set_cons_succ, List.set_cons_zero] at O9
    generalize ((((((w1.setCell ⟨w.heap.size + 1, 0, none⟩ (.string ⟨#[]⟩)).setCell ⟨w.heap.size + 1, 1, none⟩ (.int .i64 0)).setCell ⟨w.heap.size + 1, 2, none⟩ (.slice none 0 0)).setCell ⟨w.heap.size + 1, 3, none⟩ (.slice none 0 0)).setCell ⟨w.heap.size + 1, 4, none⟩ (.slice none 0 0)).setCell ⟨w.heap.size + 1, 5, none⟩ (.int .i64 0)).setCell ⟨w.heap.size + 1, 6, none⟩ (.int .i64 1) = w9 at O9 hb9  ⊢
    have oc0 := O9.cell (i := 0) rfl
    have oc1 := O9.cell (i := 1) rfl
    have oc2 := O9.cell (i := 2) rfl
    have oc3 := O9.cell (i := 3) rfl
    have oc4 := O9.cell (i := 4) rfl
    have oc5 := O9.cell (i := 5) rfl
    have oc6 := O9.cell (i := 6) rfl
    exact bodyPost_ret (v := .agg #[.string ⟨#[]⟩, .int .i64 0, .slice none 0 0, .slice none 0 0, .slice none 0 0, .int .i64 0, .int .i64 1]) (by simp [results, Try.results19, go_sem, oc0, oc1, oc2, oc3, oc4, oc5, oc6]) rfl (by rw [HR.out]; exact SpO.ill hb9)
  rw [hT] at TR
  have hO := HO.out.1 hT
  have hbs := inB_true hO.2.1
  have hl : H.length ≤ 20 := hO.2.2.1
  have hg4 : G.length ≤ 4 := hO.2.2.2.2.1
  clear HO hO
  rcases Bool.eq_false_or_eq_true (inB s.size 1 40) with hM | hM
  rotate_left
  · have HR : Hid (R = ill 1) := Lib.hid (by rw [HR0.out, if_neg h1, if_pos (by rw [hM, Bool.and_false])])
    have TX := l07Text_b hM hs
    go_enter Try.func19, Try.ntmps19
    go_wp2_with (fail)
    generalize (w.alloc (.cells #[.string nm, .int .i64 bs, .slice A H.length c, .slice B G.length d] 26)).alloc (.cells #[.string ⟨#[]⟩, .int .i64 0, .slice none 0 0, .slice none 0 0, .slice none 0 0, .int .i64 0, .int .i64 0] 30) = v0 at K O hb ⊢
    refine (TR.out _ hb).mono ?_
    rintro e w0 ⟨rfl, hb0⟩
    replace K := K.below hb0 K.lt
    replace O := O.below hb0 O.lt
    replace hb := hb.trans (hb0.mono hb.size)
    go_wp2_with (fail)
    refine (TX _).mono ?_
    rintro e w0' ⟨rfl, rfl⟩
    go_wp2_with (fail)
    refine (l07Ill_any 1 _).mono ?_
    rintro e w1 ⟨rfl, hb1⟩
    replace K := K.below hb1 K.lt
    replace O := O.below hb1 O.lt
    replace hb := hb.trans (hb1.mono hb.size)
    have qc0 := O.cell (i := 0) rfl
    have qf0 := O.froz 0
    have qc1 := O.cell (i := 1) rfl
    have qf1 := O.froz 1
    have qc2 := O.cell (i := 2) rfl
    have qf2 := O.froz 2
    have qc3 := O.cell (i := 3) rfl
    have qf3 := O.froz 3
    have qc4 := O.cell (i := 4) rfl
    have qf4 := O.froz 4
    have qc5 := O.cell (i := 5) rfl
    have qf5 := O.froz 5
    have qc6 := O.cell (i := 6) rfl
    have qf6 := O.froz 6
    go_wp2
    clear qc0 qf0 qc1 qf1 qc2 qf2 qc3 qf3 qc4 qf4 qc5 qf5 qc6 qf6
    have O9 := (((((((O.put 0 (.string ⟨#[]⟩)).put 1 (.int .i64 0)).put 2 (.slice none 0 0)).put 3 (.slice none 0 0)).put 4 (.slice none 0 0)).put 5 (.int .i64 0)).put 6 (.int .i64 1))
    have hb9 := (((((((hb.setCell (p := ⟨w.heap.size + 1, 0, none⟩) (by simp <;> omega) (.string ⟨#[]⟩)).setCell (p := ⟨w.heap.size + 1, 1, none⟩) (by simp <;> omega) (.int .i64 0)).setCell (p := ⟨w.heap.size + 1, 2, none⟩) (by simp <;> omega) (.slice none 0 0)).setCell (p := ⟨w.heap.size + 1, 3, none⟩) (by simp <;> omega) (.slice none 0 0)).setCell (p := ⟨w.heap.size + 1, 4, none⟩) (by simp <;> omega) (.slice none 0 0)).setCell (p := ⟨w.heap.size + 1, 5, none⟩) (by simp <;> omega) (.int .i64 0)).setCell (p := ⟨w.heap.size + 1, 6, none⟩) (by simp <;> omega) (.int .i64 1))
    simp only [List.set_cons_succ, List.set_cons_zero] at O9
    generalize ((((((w1.setCell ⟨w.heap.size + 1, 0, none⟩ (.string ⟨#[]⟩)).setCell ⟨w.heap.size + 1, 1, none⟩ (.int .i64 0)).setCell ⟨w.heap.size + 1, 2, none⟩ (.slice none 0 0)).setCell ⟨w.heap.size + 1, 3, none⟩ (.slice none 0 0)).setCell ⟨w.heap.size + 1, 4, none⟩ (.slice none 0 0)).setCell ⟨w.heap.size + 1, 5, none⟩ (.int .i64 0)).setCell ⟨w.heap.size + 1, 6, none⟩ (.int .i64 1) = w9 at O9 hb9  ⊢
    have oc0 := O9.cell (i := 0) rfl
    have oc1 := O9.cell (i := 1) rfl
    have oc2 := O9.cell (i := 2) rfl
    have oc3 := O9.cell (i := 3) rfl
    have oc4 := O9.cell (i := 4) rfl
    have oc5 := O9.cell (i := 5) rfl
    have oc6 := O9.cell (i := 6) rfl
    exact bodyPost_ret (v := .agg #[.string ⟨#[]⟩, .int .i64 0, .slice none 0 0, .slice none 0 0, .slice none 0 0, .int .i64 0, .int .i64 1]) (by simp [results, Try.results19, go_sem, oc0, oc1, oc2, oc3, oc4, oc5, oc6]) rfl (by rw [HR.out]; exact SpO.ill hb9)
  have TX := l07Text_b hM hs
  have HR1 : Hid (R = if 20 ≤ H.length ∨ 1000000000 ≤ bs + H.length then ill 9 else ⟨⟨nm, bs, H ++ [s], G⟩, [], bs + H.length, 0⟩) := Lib.hid (by rw [HR0.out, if_neg h1, if_neg (by rw [hT, hM]; decide)])
  clear HR0
  go_enter Try.func19, Try.ntmps19
  go_wp2_with (fail)
  generalize (w.alloc (.cells #[.string nm, .int .i64 bs, .slice A H.length c, .slice B G.length d] 26)).alloc (.cells #[.string ⟨#[]⟩, .int .i64 0, .slice none 0 0, .slice none 0 0, .slice none 0 0, .int .i64 0, .int .i64 0] 30) = v0 at K O hb ⊢
  refine (TR.out _ hb).mono ?_
  rintro e w0 ⟨rfl, hb0⟩
  replace K := K.below hb0 K.lt
  replace O := O.below hb0 O.lt
  replace hb := hb.trans (hb0.mono hb.size)
  clear TR hb0
  go_wp2_with (fail)
  refine (TX _).mono ?_
  rintro e w0' ⟨rfl, rfl⟩
  clear TX
  have kc0 := K.cell (i := 0) rfl
  have kc1 := K.cell (i := 1) rfl
  have kc2 := K.cell (i := 2) rfl
  have kc3 := K.cell (i := 3) rfl
  by_cases h20 : 20 ≤ H.length
  · have HR : Hid (R = ill 9) := Lib.hid (by rw [HR1.out, if_pos (.inl h20)])
    have h20' : (20 : Int) ≤ (H.length : Int) := by omega
    go_wp2_with (fail)
    refine (l07Ill_any 9 _).mono ?_
    rintro e w1 ⟨rfl, hb1⟩
    replace K := K.below hb1 K.lt
    replace O := O.below hb1 O.lt
    replace hb := hb.trans (hb1.mono hb.size)
    have qc0 := O.cell (i := 0) rfl
    have qf0 := O.froz 0
    have qc1 := O.cell (i := 1) rfl
    have qf1 := O.froz 1
    have qc2 := O.cell (i := 2) rfl
    have qf2 := O.froz 2
    have qc3 := O.cell (i := 3) rfl
    have qf3 := O.froz 3
    have qc4 := O.cell (i := 4) rfl
    have qf4 := O.froz 4
    have qc5 := O.cell (i := 5) rfl
    have qf5 := O.froz 5
    have qc6 := O.cell (i := 6) rfl
    have qf6 := O.froz 6
    go_wp2
    clear qc0 qf0 qc1 qf1 qc2 qf2 qc3 qf3 qc4 qf4 qc5 qf5 qc6 qf6
    have O9 := (((((((O.put 0 (.string ⟨#[]⟩)).put 1 (.int .i64 0)).put 2 (.slice none 0 0)).put 3 (.slice none 0 0)).put 4 (.slice none 0 0)).put 5 (.int .i64 0)).put 6 (.int .i64 9))
    have hb9 := (((((((hb.setCell (p := ⟨w.heap.size + 1, 0, none⟩) (by simp <;> omega) (.string ⟨#[]⟩)).setCell (p := ⟨w.heap.size + 1, 1, none⟩) (by simp <;> omega) (.int .i64 0)).setCell (p := ⟨w.heap.size + 1, 2, none⟩) (by simp <;> omega) (.slice none 0 0)).setCell (p := ⟨w.heap.size + 1, 3, none⟩) (by simp <;> omega) (.slice none 0 0)).setCell (p := ⟨w.heap.size + 1, 4, none⟩) (by simp <;> omega) (.slice none 0 0)).setCell (p := ⟨w.heap.size + 1, 5, none⟩) (by simp <;> omega) (.int .i64 0)).setCell (p := ⟨w.heap.size + 1, 6, none⟩) (by simp <;> omega) (.int .i64 9))
    simp only [List.set_cons_succ, List.set_cons_zero] at O9
    generalize ((((((w1.setCell ⟨w.heap.size + 1, 0, none⟩ (.string ⟨#[]⟩)).setCell ⟨w.heap.size + 1, 1, none⟩ (.int .i64 0)).setCell ⟨w.heap.size + 1, 2, none⟩ (.slice none 0 0)).setCell ⟨w.heap.size + 1, 3, none⟩ (.slice none 0 0)).setCell ⟨w.heap.size + 1, 4, none⟩ (.slice none 0 0)).setCell ⟨w.heap.size + 1, 5, none⟩ (.int .i64 0)).setCell ⟨w.heap.size + 1, 6, none⟩ (.int .i64 9) = w9 at O9 hb9  ⊢
    have oc0 := O9.cell (i := 0) rfl
    have oc1 := O9.cell (i := 1) rfl
    have oc2 := O9.cell (i := 2) rfl
    have oc3 := O9.cell (i := 3) rfl
    have oc4 := O9.cell (i := 4) rfl
    have oc5 := O9.cell (i := 5) rfl
    have oc6 := O9.cell (i := 6) rfl
    exact bodyPost_ret (v := .agg #[.string ⟨#[]⟩, .int .i64 0, .slice none 0 0, .slice none 0 0, .slice none 0 0, .int .i64 0, .int .i64 9]) (by simp [results, Try.results19, go_sem, oc0, oc1, oc2, oc3, oc4, oc5, oc6]) rfl (by rw [HR.out]; exact SpO.ill hb9)
  have h20' : ¬ (20 : Int) ≤ (H.length : Int) := by omega
  have EN := Lib.hid (l07End_any nm bs A H.length c (.slice B G.length d) (by omega) hbs.1 hbs.2 rfl)
  go_wp2_with (fail)
  refine (EN.out _).mono ?_
  rintro e w1 ⟨rfl, hb1⟩
  replace K := K.below hb1 K.lt
  replace O := O.below hb1 O.lt
  replace hb := hb.trans (hb1.mono hb.size)
  clear hb1
  clear kc0 kc1 kc2 kc3
  by_cases hmx : 1000000000 ≤ bs + (H.length : Int)
  · have HR : Hid (R = ill 9) := Lib.hid (by rw [HR1.out, if_pos (.inr hmx)])
    go_wp2_with (fail)
    refine (l07Ill_any 9 _).mono ?_
    rintro e w2 ⟨rfl, hb2⟩
    replace K := K.below hb2 K.lt
    replace O := O.below hb2 O.lt
    replace hb := hb.trans (hb2.mono hb.size)
    have qc0 := O.cell (i := 0) rfl
    have qf0 := O.froz 0
    have qc1 := O.cell (i := 1) rfl
    have qf1 := O.froz 1
    have qc2 := O.cell (i := 2) rfl
    have qf2 := O.froz 2
    have qc3 := O.cell (i := 3) rfl
    have qf3 := O.froz 3
    have qc4 := O.cell (i := 4) rfl
    have qf4 := O.froz 4
    have qc5 := O.cell (i := 5) rfl
    have qf5 := O.froz 5
    have qc6 := O.cell (i := 6) rfl
    have qf6 := O.froz 6
    go_wp2
    clear qc0 qf0 qc1 qf1 qc2 qf2 qc3 qf3 qc4 qf4 qc5 qf5 qc6 qf6
    have O9 := (((((((O.put 0 (.string ⟨#[]⟩)).put 1 (.int .i64 0)).put 2 (.slice none 0 0)).put 3 (.slice none 0 0)).put 4 (.slice none 0 0)).put 5 (.int .i64 0)).put 6 (.int .i64 9))
    have hb9 := (((((((hb.setCell (p := ⟨w.heap.size + 1, 0, none⟩) (by simp <;> omega) (.string ⟨#[]⟩)).setCell (p := ⟨w.heap.size + 1, 1, none⟩) (by simp <;> omega) (.int .i64 0)).setCell (p := ⟨w.heap.size + 1, 2, none⟩) (by simp <;> omega) (.slice none 0 0)).setCell (p := ⟨w.heap.size + 1, 3, none⟩) (by simp <;> omega) (.slice none 0 0)).setCell (p := ⟨w.heap.size + 1, 4, none⟩) (by simp <;> omega) (.slice none 0 0)).setCell (p := ⟨w.heap.size + 1, 5, none⟩) (by simp <;> omega) (.int .i64 0)).setCell (p := ⟨w.heap.size + 1, 6, none⟩) (by simp <;> omega) (.int .i64 9))
    simp only [List.set_cons_succ, List.set_cons_zero] at O9
    generalize ((((((w2.setCell ⟨w.heap.size + 1, 0, none⟩ (.string ⟨#[]⟩)).setCell ⟨w.heap.size + 1, 1, none⟩ (.int .i64 0)).setCell ⟨w.heap.size + 1, 2, none⟩ (.slice none 0 0)).setCell ⟨w.heap.size + 1, 3, none⟩ (.slice none 0 0)).setCell ⟨w.heap.size + 1, 4, none⟩ (.slice none 0 0)).setCell ⟨w.heap.size + 1, 5, none⟩ (.int .i64 0)).setCell ⟨w.heap.size + 1, 6, none⟩ (.int .i64 9) = w9 at O9 hb9  ⊢
    have oc0 := O9.cell (i := 0) rfl
    have oc1 := O9.cell (i := 1) rfl
    have oc2 := O9.cell (i := 2) rfl
    have oc3 := O9.cell (i := 3) rfl
    have oc4 := O9.cell (i := 4) rfl
    have oc5 := O9.cell (i := 5) rfl
    have oc6 := O9.cell (i := 6) rfl
    exact bodyPost_ret (v := .agg #[.string ⟨#[]⟩, .int .i64 0, .slice none 0 0, .slice none 0 0, .slice none 0 0, .int .i64 0, .int .i64 9]) (by simp [results, Try.results19, go_sem, oc0, oc1, oc2, oc3, oc4, oc5, oc6]) rfl (by rw [HR.out]; exact SpO.ill hb9)
  have HR : Hid (R = ⟨⟨nm, bs, H ++ [s], G⟩, [], bs + H.length, 0⟩) := Lib.hid (by rw [HR1.out, if_neg (by omega)])
  have hmx' : ¬ 1000000000 ≤ bs + (H.length : Int) := hmx
  clear HR1
  have kc0 := K.cell (i := 0) rfl
  have kc1 := K.cell (i := 1) rfl
  have kc2 := K.cell (i := 2) rfl
  have kc3 := K.cell (i := 3) rfl
  go_wp2_with (fail)
  refine (l07Copy_any nm bs A H c B G d w1 (hA.on hb) (hB.on hb) hc hd hl hg4).mono ?_
  rintro e w2 ⟨A2, c2, B2, d2, rfl, oS, oG, hb2⟩
  clear kc0 kc1 kc2 kc3
  have ho1 := O.lt
  have hkS : ∀ k, (Value.slice A2 H.length c2).ownBlock = some k → w1.heap.size ≤ k ∧ k < w2.heap.size := oS.lt
  replace K := K.below hb2 K.lt
  replace O := O.below hb2 O.lt
  replace hb := hb.trans (hb2.mono hb.size)
  have hz1 := hb2.size
  clear hb2
  have P := Blk.fresh w2 26 [.string nm, .int .i64 bs, .slice A2 H.length c2, .slice B2 G.length d2]
  have hb3 := below_box w2 (.cells #[.string nm, .int .i64 bs, .slice A2 H.length c2, .slice B2 G.length d2] 26)
  replace P : Blk (w2.alloc (.cells #[.string nm, .int .i64 bs, .slice A2 H.length c2, .slice B2 G.length d2] 26)) w2.heap.size 26 [.string nm, .int .i64 bs, .slice A2 H.length c2, .slice B2 G.length d2] := P
  have hz3 : w2.heap.size < (w2.alloc (.cells #[.string nm, .int .i64 bs, .slice A2 H.length c2, .slice B2 G.length d2] 26)).heap.size := by simp
  go_upto_region 8 with (fail)
  generalize w2.alloc (.cells #[.string nm, .int .i64 bs, .slice A2 H.length c2, .slice B2 G.length d2] 26) = w3 at P hb3 hz3 ⊢
  replace K := K.below hb3 K.lt
  replace O := O.below hb3 O.lt
  replace hb := hb.trans (hb3.mono hb.size)
  replace oS := row_below oS hb3 (Nat.le_refl _)
  replace oG := row_below oG hb3 (Nat.le_refl _)
  clear hb3
  have hb4 := below_box w3 (.cells #[.string s] 9)
  have hX := strs_one w3 s 9
  have pc2 := P.cell (i := 2) rfl
  go_upto_region 9 with (at_builtin; (refine wpList_app_str rfl (.tmp 32) (.tmp 34) rfl w1.heap.size (.slice A2 H.length c2) H rfl (row_below oS hb4 (Nat.le_refl _)) (w3.heap.size + 1) (some ⟨w3.heap.size, 0, none⟩) [s] 1 rfl (fun e => by cases e) hX (by simp; omega) (by simp; omega) ?_); intro A4 c4 w4 o4 hg; have P4 := (P.alloc (.cells #[.string s] 9)).grown hg (fun e => by have := hkS _ e.symm; omega); have p4c2 := P4.cell (i := 2) rfl; have p4f2 := P4.froz 2)
  have K4 := (K.alloc (.cells #[.string s] 9)).grown hg (fun e => by have := hkS _ e.symm; omega)
  have O4 := (O.alloc (.cells #[.string s] 9)).grown hg (fun e => by have := hkS _ e.symm; omega)
  have G4 : OwnG w4 w1.heap.size (.slice B2 G.length d2) G := World.ownsRow.kept (row_below oG hb4 (Nat.le_refl _)) hg (own_apart (row_below oG hb4 (Nat.le_refl _)) (row_below oS hb4 (Nat.le_refl _)) (by decide))
  have hb5 := below_row (hb.trans (hb4.mono hb.size)) (Nat.le_refl _) hg (fun k e => by have := hkS _ e; omega)
  clear pc2 hX p4c2 p4f2 hb4 oS oG
  rw [show (H ++ [s]).length = H.length + 1 by simp] at o4
  have P5 := P4.put 2 (.slice A4 (H.length + 1) c4)
  have K5 := K4.far (p := ⟨w2.heap.size, 2, none⟩) (by simp; omega) (.slice A4 (H.length + 1) c4)
  have O5 := O4.far (p := ⟨w2.heap.size, 2, none⟩) (by simp; omega) (.slice A4 (H.length + 1) c4)
  have S5 := row_off o4 (p := ⟨w2.heap.size, 2, none⟩) (own_not o4 P4 (by decide)) (.slice A4 (H.length + 1) c4)
  have G5 := row_off G4 (p := ⟨w2.heap.size, 2, none⟩) (own_not G4 P4 (by decide)) (.slice A4 (H.length + 1) c4)
  have hb6 := hb5.setCell (p := ⟨w2.heap.size, 2, none⟩) (by simp; omega) (.slice A4 (H.length + 1) c4)
  simp only [List.set_cons_succ, List.set_cons_zero] at P5
  generalize w4.setCell ⟨w2.heap.size, 2, none⟩ (.slice A4 (H.length + 1) c4) = w5 at P5 K5 O5 S5 G5 hb6 ⊢
  clear P4 K4 O4 G4 o4 hb5 P K O hg hb
  obtain ⟨I, fw, hI, g5', h6, g6', g7'⟩ := class_grown w5
  have a0 := fun s => kept_cell (h6 s) (K5.cell (i := 0) rfl)
  have a1 := fun s => kept_cell (h6 s) (K5.cell (i := 1) rfl)
  have a2 := fun s => kept_cell (h6 s) (K5.cell (i := 2) rfl)
  have a3 := fun s => kept_cell (h6 s) (K5.cell (i := 3) rfl)
  have b0 := fun s => kept_cell (h6 s) (P5.cell (i := 0) rfl)
  have b1 := fun s => kept_cell (h6 s) (P5.cell (i := 1) rfl)
  have b2 := fun s => kept_cell (h6 s) (P5.cell (i := 2) rfl)
  have b3 := fun s => kept_cell (h6 s) (P5.cell (i := 3) rfl)
  have G7 := Lib.hid g7'
  have G6 := Lib.hid g6'
  clear h6 g7' g6'
  refine wp_region_class_tail (C := fun w' => ∃ s, w' = fw s) 4 (by kernel_rfl) (by kernel_rfl) g5' ?_
  simp only [List.take_succ_cons, List.take_zero, List.drop_succ_cons, List.drop_zero]
  repeat (first
    | go_big_quiet_skip
    | (go_big_quiet_want; go_big_quiet_op; first | go_big_quiet_on | (apply Exists.intro; refine ⟨fun s => ?_, ?_⟩; (go_at_call 59; (with_reducible refine (EN.out _).mono ?_); rintro e w9 ⟨rfl, hb9'⟩; exact ⟨rfl, G6.out _ _ hb9'⟩); go_big_quiet_on)))
  refine wpQuiet_nil ?_
  intro w6 h6
  have hb67 := G7.out _ h6
  have hb := hb6.trans (hb67.mono hb6.size)
  clear hb6
  have O := O5.below hb67 O5.lt
  have S6 := row_below S5 hb67 (Nat.le_refl _)
  have G6_ := row_below G5 hb67 (Nat.le_refl _)
  clear a0 a1 a2 a3 b0 b1 b2 b3 g5' h6 S5 G5 O5 P5 K5 hb67
  have qc0 := O.cell (i := 0) rfl
  have qf0 := O.froz 0
  have qc1 := O.cell (i := 1) rfl
  have qf1 := O.froz 1
  have qc2 := O.cell (i := 2) rfl
  have qf2 := O.froz 2
  have qc3 := O.cell (i := 3) rfl
  have qf3 := O.froz 3
  have qc4 := O.cell (i := 4) rfl
  have qf4 := O.froz 4
  have qc5 := O.cell (i := 5) rfl
  have qf5 := O.froz 5
  have qc6 := O.cell (i := 6) rfl
  have qf6 := O.froz 6
  go_wp2
  clear qc0 qf0 qc1 qf1 qc2 qf2 qc3 qf3 qc4 qf4 qc5 qf5 qc6 qf6
  have hz9 := hz1
  have hS0 : w.heap.size + 1 < w1.heap.size := ho1
  have O9 := (((((((O.put 0 (.string nm)).put 1 (.int .i64 bs)).put 2 (.slice A4 (H.length + 1) c4)).put 3 (.slice B2 G.length d2)).put 4 (.slice none 0 0)).put 5 (.int .i64 (bs + H.length))).put 6 (.int .i64 0))
  have hb9 := (((((((hb.setCell (p := ⟨w.heap.size + 1, 0, none⟩) (by simp <;> omega) (.string nm)).setCell (p := ⟨w.heap.size + 1, 1, none⟩) (by simp <;> omega) (.int .i64 bs)).setCell (p := ⟨w.heap.size + 1, 2, none⟩) (by simp <;> omega) (.slice A4 (H.length + 1) c4)).setCell (p := ⟨w.heap.size + 1, 3, none⟩) (by simp <;> omega) (.slice B2 G.length d2)).setCell (p := ⟨w.heap.size + 1, 4, none⟩) (by simp <;> omega) (.slice none 0 0)).setCell (p := ⟨w.heap.size + 1, 5, none⟩) (by simp <;> omega) (.int .i64 (bs + H.length))).setCell (p := ⟨w.heap.size + 1, 6, none⟩) (by simp <;> omega) (.int .i64 0))
  have S69 := (row_far (row_far (row_far (row_far (row_far (row_far (row_far S6 (p := ⟨w.heap.size + 1, 0, none⟩) (by simp <;> omega) (.string nm)) (p := ⟨w.heap.size + 1, 1, none⟩) (by simp <;> omega) (.int .i64 bs)) (p := ⟨w.heap.size + 1, 2, none⟩) (by simp <;> omega) (.slice A4 (H.length + 1) c4)) (p := ⟨w.heap.size + 1, 3, none⟩) (by simp <;> omega) (.slice B2 G.length d2)) (p := ⟨w.heap.size + 1, 4, none⟩) (by simp <;> omega) (.slice none 0 0)) (p := ⟨w.heap.size + 1, 5, none⟩) (by simp <;> omega) (.int .i64 (bs + H.length))) (p := ⟨w.heap.size + 1, 6, none⟩) (by simp <;> omega) (.int .i64 0))
  have G6_9 := (row_far (row_far (row_far (row_far (row_far (row_far (row_far G6_ (p := ⟨w.heap.size + 1, 0, none⟩) (by simp <;> omega) (.string nm)) (p := ⟨w.heap.size + 1, 1, none⟩) (by simp <;> omega) (.int .i64 bs)) (p := ⟨w.heap.size + 1, 2, none⟩) (by simp <;> omega) (.slice A4 (H.length + 1) c4)) (p := ⟨w.heap.size + 1, 3, none⟩) (by simp <;> omega) (.slice B2 G.length d2)) (p := ⟨w.heap.size + 1, 4, none⟩) (by simp <;> omega) (.slice none 0 0)) (p := ⟨w.heap.size + 1, 5, none⟩) (by simp <;> omega) (.int .i64 (bs + H.length))) (p := ⟨w.heap.size + 1, 6, none⟩) (by simp <;> omega) (.int .i64 0))
  simp only [List.set_cons_succ, List.set_cons_zero] at O9
  generalize ((((((w6.setCell ⟨w.heap.size + 1, 0, none⟩ (.string nm)).setCell ⟨w.heap.size + 1, 1, none⟩ (.int .i64 bs)).setCell ⟨w.heap.size + 1, 2, none⟩ (.slice A4 (H.length + 1) c4)).setCell ⟨w.heap.size + 1, 3, none⟩ (.slice B2 G.length d2)).setCell ⟨w.heap.size + 1, 4, none⟩ (.slice none 0 0)).setCell ⟨w.heap.size + 1, 5, none⟩ (.int .i64 (bs + H.length))).setCell ⟨w.heap.size + 1, 6, none⟩ (.int .i64 0) = w9 at O9 hb9 S69 G6_9 ⊢
  have oc0 := O9.cell (i := 0) rfl
  have oc1 := O9.cell (i := 1) rfl
  have oc2 := O9.cell (i := 2) rfl
  have oc3 := O9.cell (i := 3) rfl
  have oc4 := O9.cell (i := 4) rfl
  have oc5 := O9.cell (i := 5) rfl
  have oc6 := O9.cell (i := 6) rfl
  exact bodyPost_ret (v := .agg #[.string nm, .int .i64 bs, .slice A4 (H.length + 1) c4, .slice B2 G.length d2, .slice none 0 0, .int .i64 (bs + H.length), .int .i64 0]) (by simp [results, Try.results19, go_sem, oc0, oc1, oc2, oc3, oc4, oc5, oc6]) rfl (pub_end nm s HR.out S69 G6_9 hb9)
end Go.Proofs.Ytjmmffhndecikaa

namespace Go.Proofs.Ytjmmffhndecikaa
open Go.RowKit
set_option linter.unusedVariables false
theorem tooLong_any (s : ByteArray) (w : World) (hs : s.size ≤ maxLen) : Calls Try.prog 52 #[.string s] w fun e w' => e = .returned (.bool (decide (20000 < s.size))) ∧ w' = w := by
  unfold maxLen at hs
  go_enter Try.func52, Try.ntmps52
  go_wp2
  go_ret
  exact ⟨retB (by simp; omega), rfl⟩
end Go.Proofs.Ytjmmffhndecikaa

namespace Go.Proofs.Ytjmmffhndecikaa
open Go.RowKit Go.Deep
set_option linter.unusedVariables false
set_option maxRecDepth 1000000
theorem pubT_of {t : Tpc} {s : ByteArray} (h : ¬ 20000 < s.size) : pubT t s = pubR t s (inB s.size 1 40) := by
  unfold pubT pubR
  rw [if_neg h]
  rcases Bool.eq_false_or_eq_true (topB t && inB s.size 1 40) with hb | hb
  rotate_left
  · rw [if_pos hb, if_pos hb]
  · have hn : ¬ (topB t && inB s.size 1 40) = false := by rw [hb]; simp
    rw [if_neg hn, if_neg hn]
    have ho := topB_iff.1 (by simp at hb; exact hb.1 : topB t = true)
    have h1 := ho.2.2.1
    have h2 := ho.2.2.2.2.2.1
    by_cases hf : t.held.length = 20 ∨ t.base + t.held.length = 1000000000
    · have h3 : 20 ≤ t.held.length ∨ 1000000000 ≤ t.base + t.held.length := by omega
      rw [if_pos h3, if_pos (fullB_true hf)]
    · have h3 : ¬ (20 ≤ t.held.length ∨ 1000000000 ≤ t.base + t.held.length) := by omega
      have h4 : ¬ fullB t = true := by rw [fullB_false hf]; simp
      rw [if_neg h3, if_neg h4]
theorem pub_small (t : Tpc) (s : ByteArray) : (pubT t s).o.held.length ≤ maxLen ∧ (pubT t s).o.groups.length ≤ maxLen ∧ (pubT t s).texts.length ≤ maxLen ∧ 1 + (pubT t s).o.held.length + 2 * (pubT t s).o.groups.length + (pubT t s).texts.length ≤ 3900001 := by
  have hi : ∀ c, (ill c).o.held.length ≤ maxLen ∧ (ill c).o.groups.length ≤ maxLen ∧ (ill c).texts.length ≤ maxLen ∧ 1 + (ill c).o.held.length + 2 * (ill c).o.groups.length + (ill c).texts.length ≤ 3900001 := fun c => by simp [ill, maxLen]
  unfold pubT
  split
  · exact hi _
  · split
    · exact hi _
    · rename_i hb
      split
      · exact hi _
      · have ho := topB_iff.1 (by simp at hb; exact hb.1 : topB t = true)
        have h1 := ho.2.2.1
        have h2 := ho.2.2.2.2.1
        simp [maxLen]
        omega
theorem Sl.off {w : World} {lo hi g : Nat} {t t' : TypeId} {A : Option Addr} {xs cs : List Value} (h : Sl w lo hi t A xs) (hB : Blk w g t' cs) (ht : t ≠ t') (i : Nat) (v : Value) : Sl (w.setCell ⟨g, i, none⟩ v) lo hi t A xs := by
  rcases h with h | ⟨g', off, ds, h1, h2, h3, h4⟩
  · exact .inl h
  · refine .inr ⟨g', off, ds, h1, h2, h3.far (fun e => ?_) v, h4⟩
    simp only at e
    subst e
    unfold Blk at h3 hB
    rw [h3] at hB
    injection hB with hB
    injection hB with _ h5 _
    exact ht h5
theorem pub_out {w w6 w9 : World} {on : ByteArray} {ob n co : Int} {oH N : List ByteArray} {oG : List Grp} {A1 B1 T1 : Option Addr} {a1 b1 x1 : Nat} (hsz : w9.heap.size = w6.heap.size) (rA : Sl w9 w.heap.size w6.heap.size 9 A1 (oH.map Value.string)) (rB : Sl w9 w.heap.size w6.heap.size 47 B1 (gflat oG)) (rT : Sl w9 w.heap.size w6.heap.size 9 T1 (N.map Value.string)) (hap : Apart A1 T1) (cA : Cap A1 oH.length a1) (cB : Cap B1 oG.length b1) (hb : Below w.heap.size w w9) :
    ImO w w9 (.returned (outV on ob (.slice A1 oH.length a1) (.slice B1 oG.length b1) (.slice T1 N.length x1) n co)) ⟨⟨on, ob, oH, oG⟩, N, n, co⟩ :=
  ⟨A1, a1, B1, b1, T1, x1, rfl, by rw [hsz]; exact rA, by rw [hsz]; exact rB, by rw [hsz]; exact rT, hap, cA, cB, hb⟩
set_option maxHeartbeats 8000000 in
theorem implTopicPublish_any (t : Tpc) (s : ByteArray) (A : Option Addr) (c : Nat) (B : Option Addr) (d : Nat) (w : World) (hf : t.fits) (hsm : t.small) (hs : s.size ≤ maxLen) (hs1 : s.size ≤ 1048576) (hA : Strs w w.heap.size A t.held) (hB : Grs w w.heap.size B t.groups) :
    Calls Try.prog 16 #[topV t.name t.base (.slice A t.held.length c) (.slice B t.groups.length d), .string s] w fun e w' => ImO w w' e (pubT t s) := by
  have HL : Hid (20000 < s.size → pubT t s = ill 2) := Lib.hid fun h => by unfold pubT; rw [if_pos h]
  have HS : Hid (¬ 20000 < s.size → pubT t s = pubR t s (inB s.size 1 40)) := Lib.hid pubT_of
  have TL := fun W => tooLong_any s W hs
  obtain ⟨rm, HM⟩ : ∃ x, Hid (inB s.size 1 40 = x) := ⟨_, Lib.hid rfl⟩
  have TX := textRight_b HM.out hs
  rw [HM.out] at HS
  have RN := Lib.hid (fun W p (h : Below w.heap.size w W) (hp : w.heap.size ≤ p) P => runPub_any t s rm w.heap.size p A c B d W hf hsm hs1 (hA.on h) (hB.on h) hp P)
  obtain ⟨R, HR0⟩ : ∃ x, Hid (pubT t s = x) := ⟨_, Lib.hid rfl⟩
  rw [HR0.out] at HL HS ⊢
  obtain ⟨nm, bs, H, G⟩ := t
  simp only at RN hA hB ⊢
  have K := (Blk.fresh w 26 [.string nm, .int .i64 bs, .slice A H.length c, .slice B G.length d]).alloc (.cells #[.string ⟨#[]⟩, .int .i64 0, .slice none 0 0, .slice none 0 0, .slice none 0 0, .int .i64 0, .int .i64 0] 30)
  have O := Blk.fresh (w.alloc (.cells #[.string nm, .int .i64 bs, .slice A H.length c, .slice B G.length d] 26)) 30 [.string ⟨#[]⟩, .int .i64 0, .slice none 0 0, .slice none 0 0, .slice none 0 0, .int .i64 0, .int .i64 0]
  have hb : Below w.heap.size w ((w.alloc (.cells #[.string nm, .int .i64 bs, .slice A H.length c, .slice B G.length d] 26)).alloc (.cells #[.string ⟨#[]⟩, .int .i64 0, .slice none 0 0, .slice none 0 0, .slice none 0 0, .int .i64 0, .int .i64 0] 30)) := ((Below.refl _ _).alloc (Nat.le_refl _) _).alloc (by simp) _
  simp only [World.size_alloc] at K O
  replace K : Blk ((w.alloc (.cells #[.string nm, .int .i64 bs, .slice A H.length c, .slice B G.length d] 26)).alloc (.cells #[.string ⟨#[]⟩, .int .i64 0, .slice none 0 0, .slice none 0 0, .slice none 0 0, .int .i64 0, .int .i64 0] 30)) w.heap.size 26 [.string nm, .int .i64 bs, .slice A H.length c, .slice B G.length d] := K
  replace O : Blk ((w.alloc (.cells #[.string nm, .int .i64 bs, .slice A H.length c, .slice B G.length d] 26)).alloc (.cells #[.string ⟨#[]⟩, .int .i64 0, .slice none 0 0, .slice none 0 0, .slice none 0 0, .int .i64 0, .int .i64 0] 30)) (w.heap.size + 1) 30 [.string ⟨#[]⟩, .int .i64 0, .slice none 0 0, .slice none 0 0, .slice none 0 0, .int .i64 0, .int .i64 0] := O
  by_cases h1 : 20000 < s.size
  · have HR := Lib.hid (HL.out h1)
    have hd : decide (20000 < s.size) = true := by simpa using h1
    rw [hd] at TL
    clear h1 hd
    go_enter Try.func16, Try.ntmps16
    go_wp2_with (fail)
    generalize (w.alloc (.cells #[.string nm, .int .i64 bs, .slice A H.length c, .slice B G.length d] 26)).alloc (.cells #[.string ⟨#[]⟩, .int .i64 0, .slice none 0 0, .slice none 0 0, .slice none 0 0, .int .i64 0, .int .i64 0] 30) = v0 at K O hb ⊢
    refine (TL v0).mono ?_
    rintro e w1 ⟨rfl, rfl⟩
    have qc0 := O.cell (i := 0) rfl
    have qf0 := O.froz 0
    have qc1 := O.cell (i := 1) rfl
    have qf1 := O.froz 1
    have qc2 := O.cell (i := 2) rfl
    have qf2 := O.froz 2
    have qc3 := O.cell (i := 3) rfl
    have qf3 := O.froz 3
    have qc4 := O.cell (i := 4) rfl
    have qf4 := O.froz 4
    have qc5 := O.cell (i := 5) rfl
    have qf5 := O.froz 5
    have qc6 := O.cell (i := 6) rfl
    have qf6 := O.froz 6
    go_wp2
    clear qc0 qf0 qc1 qf1 qc2 qf2 qc3 qf3 qc4 qf4 qc5 qf5 qc6 qf6
    have O9 := (((((((O.put 0 (.string ⟨#[]⟩)).put 1 (.int .i64 0)).put 2 (.slice none 0 0)).put 3 (.slice none 0 0)).put 4 (.slice none 0 0)).put 5 (.int .i64 0)).put 6 (.int .i64 2))
    have hb9 := (((((((hb.setCell (p := ⟨w.heap.size + 1, 0, none⟩) (by simp <;> omega) (.string ⟨#[]⟩)).setCell (p := ⟨w.heap.size + 1, 1, none⟩) (by simp <;> omega) (.int .i64 0)).setCell (p := ⟨w.heap.size + 1, 2, none⟩) (by simp <;> omega) (.slice none 0 0)).setCell (p := ⟨w.heap.size + 1, 3, none⟩) (by simp <;> omega) (.slice none 0 0)).setCell (p := ⟨w.heap.size + 1, 4, none⟩) (by simp <;> omega) (.slice none 0 0)).setCell (p := ⟨w.heap.size + 1, 5, none⟩) (by simp <;> omega) (.int .i64 0)).setCell (p := ⟨w.heap.size + 1, 6, none⟩) (by simp <;> omega) (.int .i64 2))
    simp only [List.set_cons_succ, List.set_cons_zero] at O9
    generalize ((((((w1.setCell ⟨w.heap.size + 1, 0, none⟩ (.string ⟨#[]⟩)).setCell ⟨w.heap.size + 1, 1, none⟩ (.int .i64 0)).setCell ⟨w.heap.size + 1, 2, none⟩ (.slice none 0 0)).setCell ⟨w.heap.size + 1, 3, none⟩ (.slice none 0 0)).setCell ⟨w.heap.size + 1, 4, none⟩ (.slice none 0 0)).setCell ⟨w.heap.size + 1, 5, none⟩ (.int .i64 0)).setCell ⟨w.heap.size + 1, 6, none⟩ (.int .i64 2) = w9 at O9 hb9  ⊢
    have oc0 := O9.cell (i := 0) rfl
    have oc1 := O9.cell (i := 1) rfl
    have oc2 := O9.cell (i := 2) rfl
    have oc3 := O9.cell (i := 3) rfl
    have oc4 := O9.cell (i := 4) rfl
    have oc5 := O9.cell (i := 5) rfl
    have oc6 := O9.cell (i := 6) rfl
    exact bodyPost_ret (v := .agg #[.string ⟨#[]⟩, .int .i64 0, .slice none 0 0, .slice none 0 0, .slice none 0 0, .int .i64 0, .int .i64 2]) (by simp [results, Try.results16, go_sem, oc0, oc1, oc2, oc3, oc4, oc5, oc6]) rfl (by rw [HR.out]; exact ImO.ill hb9)
  have HR := Lib.hid (HS.out h1)
  have hd : decide (20000 < s.size) = false := by simpa using h1
  rw [hd] at TL
  clear h1 hd HL HS
  go_enter Try.func16, Try.ntmps16
  go_wp2_with (fail)
  generalize (w.alloc (.cells #[.string nm, .int .i64 bs, .slice A H.length c, .slice B G.length d] 26)).alloc (.cells #[.string ⟨#[]⟩, .int .i64 0, .slice none 0 0, .slice none 0 0, .slice none 0 0, .int .i64 0, .int .i64 0] 30) = v0 at K O hb ⊢
  refine (TL v0).mono ?_
  rintro e w1 ⟨rfl, rfl⟩
  have hK := K.alloc (.cells #[.string ⟨#[]⟩, .int .i64 0, .slice none 0 0, .slice none 0 0, .string s, .int .i64 0, .slice none 0 0, .int .i64 0] 69)
  have hO := O.alloc (.cells #[.string ⟨#[]⟩, .int .i64 0, .slice none 0 0, .slice none 0 0, .string s, .int .i64 0, .slice none 0 0, .int .i64 0] 69)
  have hP := Blk.fresh w1 69 [.string ⟨#[]⟩, .int .i64 0, .slice none 0 0, .slice none 0 0, .string s, .int .i64 0, .slice none 0 0, .int .i64 0]
  have hb2 := hb.alloc hb.size (.cells #[.string ⟨#[]⟩, .int .i64 0, .slice none 0 0, .slice none 0 0, .string s, .int .i64 0, .slice none 0 0, .int .i64 0] 69)
  have hlt := O.lt
  go_wp2_with (fail)
  generalize w1.alloc (.cells #[.string ⟨#[]⟩, .int .i64 0, .slice none 0 0, .slice none 0 0, .string s, .int .i64 0, .slice none 0 0, .int .i64 0] 69) = w2 at hK hO hP hb2 ⊢
  clear K O hb
  have TXb := Lib.hid (fun W => bl (TX W))
  clear TX TL
  obtain ⟨I, fw, hI, g5', h6, g6', g7'⟩ := class_grown w2
  have kk0 := fun q => kept_cell (h6 q) (hK.cell (i := 0) rfl)
  have kk1 := fun q => kept_cell (h6 q) (hK.cell (i := 1) rfl)
  have kk2 := fun q => kept_cell (h6 q) (hK.cell (i := 2) rfl)
  have kk3 := fun q => kept_cell (h6 q) (hK.cell (i := 3) rfl)
  have G7 := Lib.hid g7'
  have G6 := Lib.hid g6'
  clear h6 g7' g6'
  refine wp_region_class_tail (C := fun w' => ∃ q, w' = fw q) 4 (by kernel_rfl) (by kernel_rfl) g5' ?_
  simp only [List.take_succ_cons, List.take_zero, List.drop_succ_cons, List.drop_zero]
  repeat (first
    | go_big_quiet_skip
    | (go_big_quiet_want; go_big_quiet_op; first | go_big_quiet_on | (apply Exists.intro; refine ⟨fun q => ?_, ?_⟩; (go_at_call 54; (with_reducible refine (TXb.out _).mono ?_); rintro e w9 ⟨rfl, hb9'⟩; exact ⟨rfl, G6.out _ _ hb9'⟩); go_big_quiet_on)))
  refine wpQuiet_nil ?_
  intro w5 h5
  have hb5 := G7.out _ h5
  have hP5 := hP.below hb5 hP.lt
  have hO5 := hO.below hb5 hO.lt
  have hw5 := hb2.trans (hb5.mono hb2.size)
  clear kk0 kk1 kk2 kk3 g5' h5 hK hP hO hb5
  have RN5 := RN.out w5 w1.heap.size hw5 (by omega) hP5
  rw [← HR.out] at RN5
  obtain ⟨⟨on, ob, oH, oG⟩, N, n, co⟩ := R
  clear RN HR
  go_wp2_with (fail)
  refine RN5.mono ?_
  rintro e w6 ⟨⟨A1, a1, B1, b1, T1, x1, rfl, sA, sB, sT, hap, cA, cB, hb6⟩, kp⟩
  simp only at sA sB sT cA cB
  have O := kp _ _ (Nat.ne_of_lt hlt) hO5
  have hb := hw5.trans hb6
  clear RN5 kp hO5 hP5 hw5 hb6 hb2
  have qc0 := O.cell (i := 0) rfl
  have qf0 := O.froz 0
  have qc1 := O.cell (i := 1) rfl
  have qf1 := O.froz 1
  have qc2 := O.cell (i := 2) rfl
  have qf2 := O.froz 2
  have qc3 := O.cell (i := 3) rfl
  have qf3 := O.froz 3
  have qc4 := O.cell (i := 4) rfl
  have qf4 := O.froz 4
  have qc5 := O.cell (i := 5) rfl
  have qf5 := O.froz 5
  have qc6 := O.cell (i := 6) rfl
  have qf6 := O.froz 6
  go_wp2
  clear qc0 qf0 qc1 qf1 qc2 qf2 qc3 qf3 qc4 qf4 qc5 qf5 qc6 qf6
  have hsz : (((((((w6.setCell ⟨w.heap.size + 1, 0, none⟩ (.string on)).setCell ⟨w.heap.size + 1, 1, none⟩ (.int .i64 ob)).setCell ⟨w.heap.size + 1, 2, none⟩ (.slice A1 oH.length a1)).setCell ⟨w.heap.size + 1, 3, none⟩ (.slice B1 oG.length b1)).setCell ⟨w.heap.size + 1, 4, none⟩ (.slice T1 N.length x1)).setCell ⟨w.heap.size + 1, 5, none⟩ (.int .i64 n)).setCell ⟨w.heap.size + 1, 6, none⟩ (.int .i64 co)).heap.size = w6.heap.size := by simp [World.setCell]
  have rA := (((((((sA.off O (by decide) 0 (.string on)).off (O.put 0 (.string on)) (by decide) 1 (.int .i64 ob)).off ((O.put 0 (.string on)).put 1 (.int .i64 ob)) (by decide) 2 (.slice A1 oH.length a1)).off (((O.put 0 (.string on)).put 1 (.int .i64 ob)).put 2 (.slice A1 oH.length a1)) (by decide) 3 (.slice B1 oG.length b1)).off ((((O.put 0 (.string on)).put 1 (.int .i64 ob)).put 2 (.slice A1 oH.length a1)).put 3 (.slice B1 oG.length b1)) (by decide) 4 (.slice T1 N.length x1)).off (((((O.put 0 (.string on)).put 1 (.int .i64 ob)).put 2 (.slice A1 oH.length a1)).put 3 (.slice B1 oG.length b1)).put 4 (.slice T1 N.length x1)) (by decide) 5 (.int .i64 n)).off ((((((O.put 0 (.string on)).put 1 (.int .i64 ob)).put 2 (.slice A1 oH.length a1)).put 3 (.slice B1 oG.length b1)).put 4 (.slice T1 N.length x1)).put 5 (.int .i64 n)) (by decide) 6 (.int .i64 co))
  have rB := (((((((sB.off O (by decide) 0 (.string on)).off (O.put 0 (.string on)) (by decide) 1 (.int .i64 ob)).off ((O.put 0 (.string on)).put 1 (.int .i64 ob)) (by decide) 2 (.slice A1 oH.length a1)).off (((O.put 0 (.string on)).put 1 (.int .i64 ob)).put 2 (.slice A1 oH.length a1)) (by decide) 3 (.slice B1 oG.length b1)).off ((((O.put 0 (.string on)).put 1 (.int .i64 ob)).put 2 (.slice A1 oH.length a1)).put 3 (.slice B1 oG.length b1)) (by decide) 4 (.slice T1 N.length x1)).off (((((O.put 0 (.string on)).put 1 (.int .i64 ob)).put 2 (.slice A1 oH.length a1)).put 3 (.slice B1 oG.length b1)).put 4 (.slice T1 N.length x1)) (by decide) 5 (.int .i64 n)).off ((((((O.put 0 (.string on)).put 1 (.int .i64 ob)).put 2 (.slice A1 oH.length a1)).put 3 (.slice B1 oG.length b1)).put 4 (.slice T1 N.length x1)).put 5 (.int .i64 n)) (by decide) 6 (.int .i64 co))
  have rT := (((((((sT.off O (by decide) 0 (.string on)).off (O.put 0 (.string on)) (by decide) 1 (.int .i64 ob)).off ((O.put 0 (.string on)).put 1 (.int .i64 ob)) (by decide) 2 (.slice A1 oH.length a1)).off (((O.put 0 (.string on)).put 1 (.int .i64 ob)).put 2 (.slice A1 oH.length a1)) (by decide) 3 (.slice B1 oG.length b1)).off ((((O.put 0 (.string on)).put 1 (.int .i64 ob)).put 2 (.slice A1 oH.length a1)).put 3 (.slice B1 oG.length b1)) (by decide) 4 (.slice T1 N.length x1)).off (((((O.put 0 (.string on)).put 1 (.int .i64 ob)).put 2 (.slice A1 oH.length a1)).put 3 (.slice B1 oG.length b1)).put 4 (.slice T1 N.length x1)) (by decide) 5 (.int .i64 n)).off ((((((O.put 0 (.string on)).put 1 (.int .i64 ob)).put 2 (.slice A1 oH.length a1)).put 3 (.slice B1 oG.length b1)).put 4 (.slice T1 N.length x1)).put 5 (.int .i64 n)) (by decide) 6 (.int .i64 co))
  have O9 := (((((((O.put 0 (.string on)).put 1 (.int .i64 ob)).put 2 (.slice A1 oH.length a1)).put 3 (.slice B1 oG.length b1)).put 4 (.slice T1 N.length x1)).put 5 (.int .i64 n)).put 6 (.int .i64 co))
  have hb9 := (((((((hb.setCell (p := ⟨w.heap.size + 1, 0, none⟩) (by simp <;> omega) (.string on)).setCell (p := ⟨w.heap.size + 1, 1, none⟩) (by simp <;> omega) (.int .i64 ob)).setCell (p := ⟨w.heap.size + 1, 2, none⟩) (by simp <;> omega) (.slice A1 oH.length a1)).setCell (p := ⟨w.heap.size + 1, 3, none⟩) (by simp <;> omega) (.slice B1 oG.length b1)).setCell (p := ⟨w.heap.size + 1, 4, none⟩) (by simp <;> omega) (.slice T1 N.length x1)).setCell (p := ⟨w.heap.size + 1, 5, none⟩) (by simp <;> omega) (.int .i64 n)).setCell (p := ⟨w.heap.size + 1, 6, none⟩) (by simp <;> omega) (.int .i64 co))
  simp only [List.set_cons_succ, List.set_cons_zero] at O9
  generalize ((((((w6.setCell ⟨w.heap.size + 1, 0, none⟩ (.string on)).setCell ⟨w.heap.size + 1, 1, none⟩ (.int .i64 ob)).setCell ⟨w.heap.size + 1, 2, none⟩ (.slice A1 oH.length a1)).setCell ⟨w.heap.size + 1, 3, none⟩ (.slice B1 oG.length b1)).setCell ⟨w.heap.size + 1, 4, none⟩ (.slice T1 N.length x1)).setCell ⟨w.heap.size + 1, 5, none⟩ (.int .i64 n)).setCell ⟨w.heap.size + 1, 6, none⟩ (.int .i64 co) = w9 at O9 hb9 hsz rA rB rT  ⊢
  have oc0 := O9.cell (i := 0) rfl
  have oc1 := O9.cell (i := 1) rfl
  have oc2 := O9.cell (i := 2) rfl
  have oc3 := O9.cell (i := 3) rfl
  have oc4 := O9.cell (i := 4) rfl
  have oc5 := O9.cell (i := 5) rfl
  have oc6 := O9.cell (i := 6) rfl
  exact bodyPost_ret (v := .agg #[.string on, .int .i64 ob, .slice A1 oH.length a1, .slice B1 oG.length b1, .slice T1 N.length x1, .int .i64 n, .int .i64 co]) (by simp [results, Try.results16, go_sem, oc0, oc1, oc2, oc3, oc4, oc5, oc6]) rfl (pub_out hsz rA rB rT hap cA cB hb9)
/-- The two answer alike. -/
theorem bothTopicPublish (t : Tpc) (s : ByteArray) (hf : t.fits) (hS : t.small) (hs : s.size ≤ maxLen) (hb : s.size ≤ 1048576) :
    ∃ (o : Tpc) (N : List ByteArray) (n co : Int), o.held.length ≤ maxLen ∧ o.groups.length ≤ maxLen ∧ N.length ≤ maxLen ∧ 1 + o.held.length + 2 * o.groups.length + N.length ≤ 3900001 ∧
      (∀ A c B d w, Strs w w.heap.size A t.held → Grs w w.heap.size B t.groups → Cap A t.held.length c → Cap B t.groups.length d → Calls Try.prog 19 #[topV t.name t.base (.slice A t.held.length c) (.slice B t.groups.length d), .string s] w fun e w' => SpO w w' e ⟨o, N, n, co⟩) ∧
      (∀ A c B d w, Strs w w.heap.size A t.held → Grs w w.heap.size B t.groups → Cap A t.held.length c → Cap B t.groups.length d → Calls Try.prog 16 #[topV t.name t.base (.slice A t.held.length c) (.slice B t.groups.length d), .string s] w fun e w' => ImO w w' e ⟨o, N, n, co⟩) :=
  ⟨(pubT t s).o, (pubT t s).texts, (pubT t s).n, (pubT t s).code, (pub_small t s).1, (pub_small t s).2.1, (pub_small t s).2.2.1, (pub_small t s).2.2.2, fun A c B d w h1 h2 h3 h4 => specTopicPublish_any t s A c B d w hf hs h1 h2 h3 h4, fun A c B d w h1 h2 _ _ => implTopicPublish_any t s A c B d w hf hS hs hb h1 h2⟩
end Go.Proofs.Ytjmmffhndecikaa

namespace Go.Proofs.Ytjmmffhndecikaa
open Go.RowKit Go.ChangeShapes Go.WideShapes Go.Deep
set_option linter.unusedVariables false
theorem cellsTop : Try.prog.cellsOf 51 = 4 := by kernel_rfl
theorem cellsGr : Try.prog.cellsOf 110 = 2 := by kernel_rfl
theorem cellsSlS : Try.prog.cellsOf 23 = 1 := by kernel_rfl
theorem cellsSlG : Try.prog.cellsOf 49 = 1 := by kernel_rfl
set_option maxRecDepth 1000000 in
theorem strs_cell {H : Type} {enc : TypeId × Value → H} {W : World} {c0 : Value} {n : Nat} {y0 : DataW H × List MemPlace} (hm' : DataW.trod enc Try.prog W 0 (fun _ => true) true n 23 [c0] = some y0) :
    ∃ A L c, c0 = .slice A L.length c ∧ Strs W W.heap.size A L ∧ ∀ s ∈ L, s.size ≤ maxLen := by
  rcases open_strings Try.underlying23 Try.underlying9 cellsStr1 hm' with ⟨h1, _⟩ | ⟨a, len, cap, zs, h1, _, hl, hc, hz, _, hcell, hwf⟩
  · injection h1 with h1 _
    subst h1
    exact ⟨none, [], 0, rfl, ⟨by simp [maxLen], fun i h => absurd h (by simp)⟩, fun s h => absurd h (by simp)⟩
  · injection h1 with h1 _
    subst h1
    have hzl : zs.length = cap := by simpa using hz
    have htl : (zs.take len).length = len := by simp; omega
    refine ⟨some a, zs.take len, cap, by rw [htl], ⟨by rw [htl]; omega, fun i hi => ?_⟩, fun s hs => hwf s (List.mem_of_mem_take hs)⟩
    have hi' : i < zs.length := by rw [htl] at hi; omega
    have hc1 := hcell i hi'
    have hg : zs.getD i ByteArray.empty = (zs.take len)[i] := by rw [List.getElem_take]; simp [List.getD, hi']
    rw [hg] at hc1
    exact ⟨a, rfl, by have := World.block_lt_of_cell? W _ hc1; rw [add_blk] at this; exact this, hc1⟩
set_option maxRecDepth 1000000 in
theorem grs_cell {H : Type} {enc : TypeId × Value → H} {W : World} {c0 : Value} {n : Nat} {y0 : DataW H × List MemPlace} (h1 : DataW.trod enc Try.prog W 0 (fun _ => true) true n 49 [c0] = some y0) :
    ∃ A L c, c0 = .slice A L.length c ∧ Grs W W.heap.size A L ∧ ∀ g ∈ L, g.fits := by
  rcases open_slice Try.underlying49 h1 with ⟨hc, _⟩ | ⟨a, len, cap, m, n', D, Pl, hc, _, hl, hm, hmm, _, hi⟩
  · injection hc with hc _
    subst hc
    exact ⟨none, [], 0, rfl, ⟨by simp [maxLen], fun i h => absurd h (by simp)⟩, fun g h => absurd h (by simp)⟩
  · injection hc with hc _
    subst hc
    have hmm' : m = cap := by simpa using hmm
    subst hmm'
    have key : ∀ i, i < len → ∃ f : Grp, W.cell? (a.add (i * 2)) = some (.string f.name) ∧ W.cell? (a.add (i * 2 + 1)) = some (.int .i64 f.acked) ∧ f.fits := by
      intro i hil
      obtain ⟨cs', hcc, ht⟩ := hi i (by omega)
      rw [cellsGr] at hcc
      obtain ⟨_, hcl, hat⟩ := World.cells?_some hcc
      obtain ⟨ys, n2, _, _, _, hyl, hfs⟩ := DataW.trod_struct Try.underlying110 ht
      match cs', hcl with
      | [u0, u1], _ =>
        match ys, hyl with
        | [z0, z1], _ =>
          have g0 := hfs 0 _ rfl
          have g1 := hfs 1 _ rfl
          simp only [List.getElem?_cons_zero, List.getElem?_cons_succ] at g0 g1
          obtain ⟨s0, e0, _, q0⟩ := DataW.trod_string Try.underlying9 g0
          obtain ⟨k2, e2, _, q2⟩ := DataW.trod_int Try.underlying2 g1
          injection e0 with e0 _; injection e2 with e2 _
          subst e0 e2
          have a0 := hat 0 (by omega)
          have a1 := hat 1 (by omega)
          rw [ofNat_add] at a0 a1
          have q := wf_i64 q2
          exact ⟨⟨s0, k2⟩, a0, a1, q0, q.1, q.2⟩
    let F : Nat → Grp := fun i => if h : i < len then (key i h).choose else default
    have hF : ∀ i, i < len → W.cell? (a.add (i * 2)) = some (.string (F i).name) ∧ W.cell? (a.add (i * 2 + 1)) = some (.int .i64 (F i).acked) ∧ (F i).fits := by
      intro i hil
      simp only [F, hil, dif_pos]
      exact (key i hil).choose_spec
    refine ⟨some a, (List.range len).map F, m, by simp, ⟨by simp; omega, fun i hi => ?_⟩, fun g hg => ?_⟩
    · have hil : i < len := by simpa using hi
      obtain ⟨c0, c1, c3⟩ := hF i hil
      have hbl := World.block_lt_of_cell? W _ c0
      rw [add_blk] at hbl
      exact ⟨a, rfl, hbl, by simpa using c0, by simpa using c1⟩
    · obtain ⟨i, hi, rfl⟩ := List.mem_map.1 hg
      exact (hF i (by simpa using hi)).2.2
set_option maxRecDepth 1000000 in
/-- What is known of a topic that came in. -/
theorem topic_arg {H : Type} {enc : TypeId × Value → H} {W : World} {r : Reach} {b0 : Nat} {v : Value} {d : DataW H} {p : List MemPlace} (hval : Value.okWide Try.prog W r b0 51 v) (h : DataW.Trod enc Try.prog W 0 (fun _ => true) true 51 v d p) :
    ∃ (t : Tpc) (A : Option Addr) (c : Nat) (B : Option Addr) (d : Nat), v = topV t.name t.base (.slice A t.held.length c) (.slice B t.groups.length d) ∧ t.fits ∧ Strs W W.heap.size A t.held ∧ Grs W W.heap.size B t.groups := by
  obtain ⟨cs, rfl, hsz⟩ := okWide_struct Try.underlying51 hval
  rw [cellsTop] at hsz
  obtain ⟨l⟩ := cs
  match l, hsz with
  | [c0, c1, c2, c3], _ =>
    obtain ⟨fuel, hf⟩ := h
    obtain ⟨ys, n2, _, _, _, hyl, hfs⟩ := DataW.trod_struct Try.underlying51 hf
    match ys, hyl with
    | [z0, z1, z2, z3], _ =>
      have g0 := hfs 0 _ rfl
      have g1 := hfs 1 _ rfl
      have g2 := hfs 2 _ rfl
      have g3 := hfs 3 _ rfl
      have g0' : DataW.trod enc Try.prog W 0 (fun _ => true) true n2 9 [c0] = some z0 := by simpa [Value.cells, cellsStr] using g0
      have g1' : DataW.trod enc Try.prog W 0 (fun _ => true) true n2 2 [c1] = some z1 := by simpa [Value.cells, cellsI64] using g1
      have g2' : DataW.trod enc Try.prog W 0 (fun _ => true) true n2 23 [c2] = some z2 := by simpa [Value.cells, cellsSlS] using g2
      have g3' : DataW.trod enc Try.prog W 0 (fun _ => true) true n2 49 [c3] = some z3 := by simpa [Value.cells, cellsSlG] using g3
      obtain ⟨s0, e0, _, q0⟩ := DataW.trod_string Try.underlying9 g0'
      obtain ⟨k1, e1, _, q1⟩ := DataW.trod_int Try.underlying2 g1'
      injection e0 with e0 _; injection e1 with e1 _
      subst e0 e1
      obtain ⟨A, L, c, rfl, hL, hLf⟩ := strs_cell g2'
      obtain ⟨B, M, d, rfl, hM, hMf⟩ := grs_cell g3'
      exact ⟨⟨s0, k1, L, M⟩, A, c, B, d, rfl, ⟨q0, wf_i64 q1, hLf, hMf⟩, hL, hM⟩
end Go.Proofs.Ytjmmffhndecikaa
