/- The method run of topicWork, with publish. impl.TopicPublish; the two answer alike. The method run of topicWork, with any operation (Ret). impl.TopicRetain; the two answer alike. -/
import Derived.Test.YtodnmbppgjbpmaaTpPubXW
import Derived.Test.YtodnmbppgjbpmaaTpRTW
import Derived.Test.YtodnmbppgjbpmaaTpFtW
import Derived.Test.YtodnmbppgjbpmaaTpOpMW
import Derived.Test.YtodnmbppgjbpmaaTpOpDW
import Derived.BigQuiet
import Derived.Test.YtodnmbppgjbpmaaTpPubSW
import Derived.Test.YtodnmbppgjbpmaaTpEndW
import Derived.Test.YtodnmbppgjbpmaaTpBegW
namespace Go.Proofs.Ytodnmbppgjbpmaa
open Go.RowKit Go.Deep
set_option linter.unusedVariables false
set_option maxRecDepth 1000000
/-- TopicPublish behind the tests of its arguments. -/
noncomputable def pubR (t : Tpc) (s : ByteArray) (r : Bool) : Ans :=
  if (topB t && r) = false then ill 1 else if fullB t = true then ill 9 else ⟨⟨t.name, t.base, t.held ++ [s], t.groups⟩, [], t.base + t.held.length, 0⟩
theorem run_end {lo : Nat} {w w9 : World} {nm : ByteArray} {s : ByteArray} {bs : Int} {H : List ByteArray} {G : List Grp} {E B : Option Addr} {c b : Nat} {R : Ans} (h : R = ⟨⟨nm, bs, H ++ [s], G⟩, [], bs + H.length, 0⟩) (hS : OwnS w9 lo (.slice E (H ++ [s]).length c) (H ++ [s])) (hG : OwnG w9 lo (.slice B G.length b) G) (hb : Below lo w w9) :
    RunO lo w w9 (.returned (outV nm bs (.slice E (H.length + 1) c) (.slice B G.length b) (.slice none 0 0) (bs + H.length) 0)) R := by
  subst h
  have e : (H ++ [s]).length = H.length + 1 := by simp
  rw [← e]
  exact ⟨E, c, B, b, none, 0, rfl, Sl.of_own hS rfl, Sl.of_own hG rfl, .inl rfl, (fun a b h h2 => by cases h2), Cap.own hS, Cap.own hG, hb⟩
set_option maxHeartbeats 8000000 in
theorem runPub_any (t : Tpc) (s : ByteArray) (r : Bool) (lo p : Nat) (A : Option Addr) (c : Nat) (B : Option Addr) (d : Nat) (w : World) (hf : t.fits) (hsm : t.small) (hs : s.size ≤ 1048576) (hA : Strs w w.heap.size A t.held) (hB : Grs w w.heap.size B t.groups) (hp : lo ≤ p) (P : Blk w p 61 [.string ⟨#[]⟩, .int .i64 0, .slice none 0 0, .slice none 0 0, .string s, .int .i64 0, .slice none 0 0, .int .i64 0]) :
    Calls Try.prog 48 #[.pointer (some ⟨p, 0, none⟩), topV t.name t.base (.slice A t.held.length c) (.slice B t.groups.length d), .bool r, (.func (.func 50) #[.pointer (some ⟨p, 0, none⟩)] #[])] w fun e w' => RunO lo w w' e (pubR t s r) ∧ Kp w w' p := by
  have hlow : lo ≤ w.heap.size := Nat.le_trans hp (Nat.le_of_lt P.lt)
  have hplt := P.lt
  have TR := Lib.hid (fun W (h : Below w.heap.size w W) => implTopicRight_any t A c B d W hf (hA.on h) (hB.on h))
  have HR0 : Hid (pubR t s r = _) := Lib.hid (pubR.eq_def t s r)
  have HO := Lib.hid (topB_iff (t := t))
  have FT := Lib.hid (fun W (h : Below w.heap.size w W) (ho : topOK t) => freshTopic_any t A c B d W hsm.1 (fun x hx => by obtain ⟨i, hi, rfl⟩ := List.mem_iff_getElem.1 hx; exact hsm.2.1.2 i hi) (fun x hx => by obtain ⟨i, hi, rfl⟩ := List.mem_iff_getElem.1 hx; exact hsm.2.2.2 i hi) ho.2.2.1 ho.2.2.2.2.1 (hA.on h) (hB.on h))
  have PB := Lib.hid (fun W A2 a2 B2 b2 (h : Wk W lo p t s 0 A2 a2 B2 b2) (ho : topOK t) => publish_any t s 0 lo p A2 a2 B2 b2 W h hp hs ho.2.2.1 (inB_true ho.2.1).1 ho.2.2.2.2.2.1)
  obtain ⟨rr, HRR⟩ : ∃ x, Hid (pubR t s r = x) := ⟨_, Lib.hid rfl⟩
  rw [HRR.out] at HR0 ⊢
  obtain ⟨nm, bs, H, G⟩ := t
  simp only at TR HR0 FT hA hB ⊢
  have K := (Blk.fresh w 32 [.string nm, .int .i64 bs, .slice A H.length c, .slice B G.length d]).alloc (.cells #[.string ⟨#[]⟩, .int .i64 0, .slice none 0 0, .slice none 0 0, .slice none 0 0, .int .i64 0, .int .i64 0] 36)
  have O := Blk.fresh (w.alloc (.cells #[.string nm, .int .i64 bs, .slice A H.length c, .slice B G.length d] 32)) 36 [.string ⟨#[]⟩, .int .i64 0, .slice none 0 0, .slice none 0 0, .slice none 0 0, .int .i64 0, .int .i64 0]
  have hb : Below w.heap.size w ((w.alloc (.cells #[.string nm, .int .i64 bs, .slice A H.length c, .slice B G.length d] 32)).alloc (.cells #[.string ⟨#[]⟩, .int .i64 0, .slice none 0 0, .slice none 0 0, .slice none 0 0, .int .i64 0, .int .i64 0] 36)) := ((Below.refl _ _).alloc (Nat.le_refl _) _).alloc (by simp) _
  simp only [World.size_alloc] at K O
  replace K : Blk ((w.alloc (.cells #[.string nm, .int .i64 bs, .slice A H.length c, .slice B G.length d] 32)).alloc (.cells #[.string ⟨#[]⟩, .int .i64 0, .slice none 0 0, .slice none 0 0, .slice none 0 0, .int .i64 0, .int .i64 0] 36)) w.heap.size 32 [.string nm, .int .i64 bs, .slice A H.length c, .slice B G.length d] := K
  replace O : Blk ((w.alloc (.cells #[.string nm, .int .i64 bs, .slice A H.length c, .slice B G.length d] 32)).alloc (.cells #[.string ⟨#[]⟩, .int .i64 0, .slice none 0 0, .slice none 0 0, .slice none 0 0, .int .i64 0, .int .i64 0] 36)) (w.heap.size + 1) 36 [.string ⟨#[]⟩, .int .i64 0, .slice none 0 0, .slice none 0 0, .slice none 0 0, .int .i64 0, .int .i64 0] := O
  have hbw := hb
  replace hb := hb.mono hlow
  have kp := ((Kp.refl w p).alloc (.cells #[.string nm, .int .i64 bs, .slice A H.length c, .slice B G.length d] 32)).alloc (.cells #[.string ⟨#[]⟩, .int .i64 0, .slice none 0 0, .slice none 0 0, .slice none 0 0, .int .i64 0, .int .i64 0] 36)
  replace P := (P.alloc (.cells #[.string nm, .int .i64 bs, .slice A H.length c, .slice B G.length d] 32)).alloc (.cells #[.string ⟨#[]⟩, .int .i64 0, .slice none 0 0, .slice none 0 0, .slice none 0 0, .int .i64 0, .int .i64 0] 36)
  cases r with
  | false =>
    have HR : Hid (rr = ill 1) := Lib.hid (by rw [HR0.out, if_pos (by simp)])
    clear HR0
    go_enter Try.func48, Try.ntmps48
    go_upto_region 2 with (fail)
    generalize (w.alloc (.cells #[.string nm, .int .i64 bs, .slice A H.length c, .slice B G.length d] 32)).alloc (.cells #[.string ⟨#[]⟩, .int .i64 0, .slice none 0 0, .slice none 0 0, .slice none 0 0, .int .i64 0, .int .i64 0] 36) = v0 at K O P hb hbw kp ⊢
    have qc0 := O.cell (i := 0) rfl
    have qf0 := O.froz 0
    have qc1 := O.cell (i := 1) rfl
    have qf1 := O.froz 1
    have qc2 := O.cell (i := 2) rfl
    have qf2 := O.froz 2
    have qc3 := O.cell (i := 3) rfl
    have qf3 := O.froz 3
    have qc4 := O.cell (i := 4) rfl
    have qf4 := O.froz 4
    have qc5 := O.cell (i := 5) rfl
    have qf5 := O.froz 5
    have qc6 := O.cell (i := 6) rfl
    have qf6 := O.froz 6
    go_wp2
    clear qc0 qf0 qc1 qf1 qc2 qf2 qc3 qf3 qc4 qf4 qc5 qf5 qc6 qf6
    have O9 := (((((((O.put 0 (.string ⟨#[]⟩)).put 1 (.int .i64 0)).put 2 (.slice none 0 0)).put 3 (.slice none 0 0)).put 4 (.slice none 0 0)).put 5 (.int .i64 0)).put 6 (.int .i64 1))
    have hb9 := (((((((hb.setCell (p := ⟨w.heap.size + 1, 0, none⟩) (by simp <;> omega) (.string ⟨#[]⟩)).setCell (p := ⟨w.heap.size + 1, 1, none⟩) (by simp <;> omega) (.int .i64 0)).setCell (p := ⟨w.heap.size + 1, 2, none⟩) (by simp <;> omega) (.slice none 0 0)).setCell (p := ⟨w.heap.size + 1, 3, none⟩) (by simp <;> omega) (.slice none 0 0)).setCell (p := ⟨w.heap.size + 1, 4, none⟩) (by simp <;> omega) (.slice none 0 0)).setCell (p := ⟨w.heap.size + 1, 5, none⟩) (by simp <;> omega) (.int .i64 0)).setCell (p := ⟨w.heap.size + 1, 6, none⟩) (by simp <;> omega) (.int .i64 1))
    have kp9 := (((((((kp.put ⟨w.heap.size + 1, 0, none⟩ (.inr (by simp)) (.string ⟨#[]⟩)).put ⟨w.heap.size + 1, 1, none⟩ (.inr (by simp)) (.int .i64 0)).put ⟨w.heap.size + 1, 2, none⟩ (.inr (by simp)) (.slice none 0 0)).put ⟨w.heap.size + 1, 3, none⟩ (.inr (by simp)) (.slice none 0 0)).put ⟨w.heap.size + 1, 4, none⟩ (.inr (by simp)) (.slice none 0 0)).put ⟨w.heap.size + 1, 5, none⟩ (.inr (by simp)) (.int .i64 0)).put ⟨w.heap.size + 1, 6, none⟩ (.inr (by simp)) (.int .i64 1))
    simp only [List.set_cons_succ, List.set_cons_zero] at O9
    generalize ((((((v0.setCell ⟨w.heap.size + 1, 0, none⟩ (.string ⟨#[]⟩)).setCell ⟨w.heap.size + 1, 1, none⟩ (.int .i64 0)).setCell ⟨w.heap.size + 1, 2, none⟩ (.slice none 0 0)).setCell ⟨w.heap.size + 1, 3, none⟩ (.slice none 0 0)).setCell ⟨w.heap.size + 1, 4, none⟩ (.slice none 0 0)).setCell ⟨w.heap.size + 1, 5, none⟩ (.int .i64 0)).setCell ⟨w.heap.size + 1, 6, none⟩ (.int .i64 1) = w9 at O9 hb9 kp9  ⊢
    have oc0 := O9.cell (i := 0) rfl
    have oc1 := O9.cell (i := 1) rfl
    have oc2 := O9.cell (i := 2) rfl
    have oc3 := O9.cell (i := 3) rfl
    have oc4 := O9.cell (i := 4) rfl
    have oc5 := O9.cell (i := 5) rfl
    have oc6 := O9.cell (i := 6) rfl
    exact bodyPost_ret (v := .agg #[.string ⟨#[]⟩, .int .i64 0, .slice none 0 0, .slice none 0 0, .slice none 0 0, .int .i64 0, .int .i64 1]) (by simp [results, Try.results48, go_sem, oc0, oc1, oc2, oc3, oc4, oc5, oc6]) rfl (⟨by rw [HR.out]; exact RunO.ill hb9, kp9⟩)
  | true =>
  rcases Bool.eq_false_or_eq_true (topB ⟨nm, bs, H, G⟩) with hT | hT
  rotate_left
  · have HR : Hid (rr = ill 1) := Lib.hid (by rw [HR0.out, if_pos (by rw [hT]; rfl)])
    rw [hT] at TR
    clear HR0
    go_enter Try.func48, Try.ntmps48
    go_wp2_with (fail)
    generalize (w.alloc (.cells #[.string nm, .int .i64 bs, .slice A H.length c, .slice B G.length d] 32)).alloc (.cells #[.string ⟨#[]⟩, .int .i64 0, .slice none 0 0, .slice none 0 0, .slice none 0 0, .int .i64 0, .int .i64 0] 36) = v0 at K O P hb hbw kp ⊢
    refine (TR.out _ hbw).mono ?_
    rintro e w0 ⟨rfl, hb0⟩
    replace K := K.below hb0 K.lt
    replace O := O.below hb0 O.lt
    replace P := P.below hb0 P.lt
    replace hb := hb.trans (hb0.mono (Nat.le_trans hlow hb.size))
    replace kp := kp.below hb0
    have qc0 := O.cell (i := 0) rfl
    have qf0 := O.froz 0
    have qc1 := O.cell (i := 1) rfl
    have qf1 := O.froz 1
    have qc2 := O.cell (i := 2) rfl
    have qf2 := O.froz 2
    have qc3 := O.cell (i := 3) rfl
    have qf3 := O.froz 3
    have qc4 := O.cell (i := 4) rfl
    have qf4 := O.froz 4
    have qc5 := O.cell (i := 5) rfl
    have qf5 := O.froz 5
    have qc6 := O.cell (i := 6) rfl
    have qf6 := O.froz 6
    go_wp2
    clear qc0 qf0 qc1 qf1 qc2 qf2 qc3 qf3 qc4 qf4 qc5 qf5 qc6 qf6
    have O9 := (((((((O.put 0 (.string ⟨#[]⟩)).put 1 (.int .i64 0)).put 2 (.slice none 0 0)).put 3 (.slice none 0 0)).put 4 (.slice none 0 0)).put 5 (.int .i64 0)).put 6 (.int .i64 1))
    have hb9 := (((((((hb.setCell (p := ⟨w.heap.size + 1, 0, none⟩) (by simp <;> omega) (.string ⟨#[]⟩)).setCell (p := ⟨w.heap.size + 1, 1, none⟩) (by simp <;> omega) (.int .i64 0)).setCell (p := ⟨w.heap.size + 1, 2, none⟩) (by simp <;> omega) (.slice none 0 0)).setCell (p := ⟨w.heap.size + 1, 3, none⟩) (by simp <;> omega) (.slice none 0 0)).setCell (p := ⟨w.heap.size + 1, 4, none⟩) (by simp <;> omega) (.slice none 0 0)).setCell (p := ⟨w.heap.size + 1, 5, none⟩) (by simp <;> omega) (.int .i64 0)).setCell (p := ⟨w.heap.size + 1, 6, none⟩) (by simp <;> omega) (.int .i64 1))
    have kp9 := (((((((kp.put ⟨w.heap.size + 1, 0, none⟩ (.inr (by simp)) (.string ⟨#[]⟩)).put ⟨w.heap.size + 1, 1, none⟩ (.inr (by simp)) (.int .i64 0)).put ⟨w.heap.size + 1, 2, none⟩ (.inr (by simp)) (.slice none 0 0)).put ⟨w.heap.size + 1, 3, none⟩ (.inr (by simp)) (.slice none 0 0)).put ⟨w.heap.size + 1, 4, none⟩ (.inr (by simp)) (.slice none 0 0)).put ⟨w.heap.size + 1, 5, none⟩ (.inr (by simp)) (.int .i64 0)).put ⟨w.heap.size + 1, 6, none⟩ (.inr (by simp)) (.int .i64 1))
    simp only [List.set_cons_succ, List.set_cons_zero] at O9
    generalize ((((((w0.setCell ⟨w.heap.size + 1, 0, none⟩ (.string ⟨#[]⟩)).setCell ⟨w.heap.size + 1, 1, none⟩ (.int .i64 0)).setCell ⟨w.heap.size + 1, 2, none⟩ (.slice none 0 0)).setCell ⟨w.heap.size + 1, 3, none⟩ (.slice none 0 0)).setCell ⟨w.heap.size + 1, 4, none⟩ (.slice none 0 0)).setCell ⟨w.heap.size + 1, 5, none⟩ (.int .i64 0)).setCell ⟨w.heap.size + 1, 6, none⟩ (.int .i64 1) = w9 at O9 hb9 kp9  ⊢
    have oc0 := O9.cell (i := 0) rfl
    have oc1 := O9.cell (i := 1) rfl
    have oc2 := O9.cell (i := 2) rfl
    have oc3 := O9.cell (i := 3) rfl
    have oc4 := O9.cell (i := 4) rfl
    have oc5 := O9.cell (i := 5) rfl
    have oc6 := O9.cell (i := 6) rfl
    exact bodyPost_ret (v := .agg #[.string ⟨#[]⟩, .int .i64 0, .slice none 0 0, .slice none 0 0, .slice none 0 0, .int .i64 0, .int .i64 1]) (by simp [results, Try.results48, go_sem, oc0, oc1, oc2, oc3, oc4, oc5, oc6]) rfl (⟨by rw [HR.out]; exact RunO.ill hb9, kp9⟩)
  rw [hT] at TR
  have hO := HO.out.1 hT
  have HR1 : Hid (rr = if fullB ⟨nm, bs, H, G⟩ = true then ill 9 else ⟨⟨nm, bs, H ++ [s], G⟩, [], bs + H.length, 0⟩) := Lib.hid (by rw [HR0.out, if_neg (by rw [hT]; decide)])
  have FT1 := Lib.hid (fun W h => FT.out W h hO)
  have PB1 := Lib.hid (fun W A2 a2 B2 b2 h => PB.out W A2 a2 B2 b2 h hO)
  clear HR0 FT PB HO hO hT
  go_enter Try.func48, Try.ntmps48
  go_wp2_with (fail)
  generalize (w.alloc (.cells #[.string nm, .int .i64 bs, .slice A H.length c, .slice B G.length d] 32)).alloc (.cells #[.string ⟨#[]⟩, .int .i64 0, .slice none 0 0, .slice none 0 0, .slice none 0 0, .int .i64 0, .int .i64 0] 36) = v0 at K O P hb hbw kp ⊢
  refine (TR.out _ hbw).mono ?_
  rintro e w1 ⟨rfl, hb1⟩
  replace K := K.below hb1 K.lt
  replace O := O.below hb1 O.lt
  replace P := P.below hb1 P.lt
  replace hb := hb.trans (hb1.mono (Nat.le_trans hlow hb.size))
  replace kp := kp.below hb1
  replace hbw := hbw.trans (hb1.mono hbw.size)
  clear TR hb1
  have kc0 := K.cell (i := 0) rfl
  have kc1 := K.cell (i := 1) rfl
  have kc2 := K.cell (i := 2) rfl
  have kc3 := K.cell (i := 3) rfl
  go_wp2_with (fail)
  refine (FT1.out _ hbw).mono ?_
  rintro e w2 ⟨A2, a2, B2, b2, rfl, oS, oG, hb2⟩
  have hl1 : lo ≤ w1.heap.size := Nat.le_trans hlow hbw.size
  clear kc0 kc1 kc2 kc3
  replace K := K.below hb2 K.lt
  replace O := O.below hb2 O.lt
  replace P := P.below hb2 P.lt
  replace hb := hb.trans (hb2.mono (Nat.le_trans hlow hb.size))
  replace kp := kp.below hb2
  replace oS : OwnS w2 lo (.slice A2 H.length a2) H := own_base oS hl1
  replace oG : OwnG w2 lo (.slice B2 G.length b2) G := own_base oG hl1
  have hl2 : lo ≤ w2.heap.size := Nat.le_trans hl1 hb2.size
  clear FT1 hb2 hbw
  have uc0 := P.cell (i := 0) rfl
  have uf0 := P.froz 0
  have uc1 := P.cell (i := 1) rfl
  have uf1 := P.froz 1
  have uc2 := P.cell (i := 2) rfl
  have uf2 := P.froz 2
  have uc3 := P.cell (i := 3) rfl
  have uf3 := P.froz 3
  go_wp2_with (fail)
  clear uc0 uf0 uc1 uf1 uc2 uf2 uc3 uf3
  have nS := own_not oS P (by decide)
  have nG := own_not oG P (by decide)
  have P3 := ((((P.put 0 (.string nm)).put 1 (.int .i64 bs)).put 2 (.slice A2 H.length a2)).put 3 (.slice B2 G.length b2))
  have O3 := ((((O.far (p := ⟨p, 0, none⟩) (by simp <;> omega) (.string nm)).far (p := ⟨p, 1, none⟩) (by simp <;> omega) (.int .i64 bs)).far (p := ⟨p, 2, none⟩) (by simp <;> omega) (.slice A2 H.length a2)).far (p := ⟨p, 3, none⟩) (by simp <;> omega) (.slice B2 G.length b2))
  have oS3 := (row_off (row_off (row_off (row_off oS (p := ⟨p, 0, none⟩) nS (.string nm)) (p := ⟨p, 1, none⟩) nS (.int .i64 bs)) (p := ⟨p, 2, none⟩) nS (.slice A2 H.length a2)) (p := ⟨p, 3, none⟩) nS (.slice B2 G.length b2))
  have oG3 := (row_off (row_off (row_off (row_off oG (p := ⟨p, 0, none⟩) nG (.string nm)) (p := ⟨p, 1, none⟩) nG (.int .i64 bs)) (p := ⟨p, 2, none⟩) nG (.slice A2 H.length a2)) (p := ⟨p, 3, none⟩) nG (.slice B2 G.length b2))
  have hb3 := ((((hb.setCell (p := ⟨p, 0, none⟩) (by simp <;> omega) (.string nm)).setCell (p := ⟨p, 1, none⟩) (by simp <;> omega) (.int .i64 bs)).setCell (p := ⟨p, 2, none⟩) (by simp <;> omega) (.slice A2 H.length a2)).setCell (p := ⟨p, 3, none⟩) (by simp <;> omega) (.slice B2 G.length b2))
  have kp3 := ((((kp.put ⟨p, 0, none⟩ (.inl rfl) (.string nm)).put ⟨p, 1, none⟩ (.inl rfl) (.int .i64 bs)).put ⟨p, 2, none⟩ (.inl rfl) (.slice A2 H.length a2)).put ⟨p, 3, none⟩ (.inl rfl) (.slice B2 G.length b2))
  simp only [List.set_cons_succ, List.set_cons_zero] at P3
  generalize (((w2.setCell ⟨p, 0, none⟩ (.string nm)).setCell ⟨p, 1, none⟩ (.int .i64 bs)).setCell ⟨p, 2, none⟩ (.slice A2 H.length a2)).setCell ⟨p, 3, none⟩ (.slice B2 G.length b2) = w3 at P3 O3 oS3 oG3 hb3 kp3 ⊢
  clear P O K oS oG hb nS nG
  have hz3 := O3.lt
  refine (PB1.out w3 A2 a2 B2 b2 ⟨P3, oS3, oG3⟩).mono ?_
  rintro e w4 ⟨hb4, hkp, hpost⟩
  have O4 := hkp _ _ (Nat.ne_of_gt (Nat.lt_of_lt_of_le hplt (Nat.le_succ _))) O3
  have hb5 := hb3.trans hb4
  replace kp := kp3.then hkp
  clear kp3
  clear PB1 P3 O3 oS3 oG3 hb3 hb4 hkp
  rcases Bool.eq_false_or_eq_true (fullB ⟨nm, bs, H, G⟩) with hF | hF
  · rw [if_pos hF] at hpost
    subst hpost
    have HR : Hid (rr = ill 9) := Lib.hid (by rw [HR1.out, if_pos hF])
    clear HR1 hF
    have O := O4
    have hb := hb5
    have qc0 := O.cell (i := 0) rfl
    have qf0 := O.froz 0
    have qc1 := O.cell (i := 1) rfl
    have qf1 := O.froz 1
    have qc2 := O.cell (i := 2) rfl
    have qf2 := O.froz 2
    have qc3 := O.cell (i := 3) rfl
    have qf3 := O.froz 3
    have qc4 := O.cell (i := 4) rfl
    have qf4 := O.froz 4
    have qc5 := O.cell (i := 5) rfl
    have qf5 := O.froz 5
    have qc6 := O.cell (i := 6) rfl
    have qf6 := O.froz 6
    go_wp2
    clear qc0 qf0 qc1 qf1 qc2 qf2 qc3 qf3 qc4 qf4 qc5 qf5 qc6 qf6
    have O9 := (((((((O.put 0 (.string ⟨#[]⟩)).put 1 (.int .i64 0)).put 2 (.slice none 0 0)).put 3 (.slice none 0 0)).put 4 (.slice none 0 0)).put 5 (.int .i64 0)).put 6 (.int .i64 9))
    have hb9 := (((((((hb.setCell (p := ⟨w.heap.size + 1, 0, none⟩) (by simp <;> omega) (.string ⟨#[]⟩)).setCell (p := ⟨w.heap.size + 1, 1, none⟩) (by simp <;> omega) (.int .i64 0)).setCell (p := ⟨w.heap.size + 1, 2, none⟩) (by simp <;> omega) (.slice none 0 0)).setCell (p := ⟨w.heap.size + 1, 3, none⟩) (by simp <;> omega) (.slice none 0 0)).setCell (p := ⟨w.heap.size + 1, 4, none⟩) (by simp <;> omega) (.slice none 0 0)).setCell (p := ⟨w.heap.size + 1, 5, none⟩) (by simp <;> omega) (.int .i64 0)).setCell (p := ⟨w.heap.size + 1, 6, none⟩) (by simp <;> omega) (.int .i64 9))
    have kp9 := (((((((kp.put ⟨w.heap.size + 1, 0, none⟩ (.inr (by simp)) (.string ⟨#[]⟩)).put ⟨w.heap.size + 1, 1, none⟩ (.inr (by simp)) (.int .i64 0)).put ⟨w.heap.size + 1, 2, none⟩ (.inr (by simp)) (.slice none 0 0)).put ⟨w.heap.size + 1, 3, none⟩ (.inr (by simp)) (.slice none 0 0)).put ⟨w.heap.size + 1, 4, none⟩ (.inr (by simp)) (.slice none 0 0)).put ⟨w.heap.size + 1, 5, none⟩ (.inr (by simp)) (.int .i64 0)).put ⟨w.heap.size + 1, 6, none⟩ (.inr (by simp)) (.int .i64 9))
    simp only [List.set_cons_succ, List.set_cons_zero] at O9
    generalize ((((((w4.setCell ⟨w.heap.size + 1, 0, none⟩ (.string ⟨#[]⟩)).setCell ⟨w.heap.size + 1, 1, none⟩ (.int .i64 0)).setCell ⟨w.heap.size + 1, 2, none⟩ (.slice none 0 0)).setCell ⟨w.heap.size + 1, 3, none⟩ (.slice none 0 0)).setCell ⟨w.heap.size + 1, 4, none⟩ (.slice none 0 0)).setCell ⟨w.heap.size + 1, 5, none⟩ (.int .i64 0)).setCell ⟨w.heap.size + 1, 6, none⟩ (.int .i64 9) = w9 at O9 hb9 kp9  ⊢
    have oc0 := O9.cell (i := 0) rfl
    have oc1 := O9.cell (i := 1) rfl
    have oc2 := O9.cell (i := 2) rfl
    have oc3 := O9.cell (i := 3) rfl
    have oc4 := O9.cell (i := 4) rfl
    have oc5 := O9.cell (i := 5) rfl
    have oc6 := O9.cell (i := 6) rfl
    exact bodyPost_ret (v := .agg #[.string ⟨#[]⟩, .int .i64 0, .slice none 0 0, .slice none 0 0, .slice none 0 0, .int .i64 0, .int .i64 9]) (by simp [results, Try.results48, go_sem, oc0, oc1, oc2, oc3, oc4, oc5, oc6]) rfl (⟨by rw [HR.out]; exact RunO.ill hb9, kp9⟩)
  rw [if_neg (by rw [hF]; simp)] at hpost
  obtain ⟨rfl, E, c9, P4, oS4, oG4⟩ := hpost
  have HR : Hid (rr = ⟨⟨nm, bs, H ++ [s], G⟩, [], bs + H.length, 0⟩) := Lib.hid (by rw [HR1.out, if_neg (by rw [hF]; simp)])
  clear HR1 hF
  simp only at P4 oS4 oG4
  rw [show (H ++ [s]).length = H.length + 1 by simp] at P4
  replace O4 : Blk w4 (w.heap.size + 1) 36 _ := O4
  go_wp2_with (fail)
  obtain ⟨I, fw, hI, g5', h6, g6', g7'⟩ := class_grown w4
  have bb0 := fun q => kept_cell (h6 q) (P4.cell (i := 0) rfl)
  have bb1 := fun q => kept_cell (h6 q) (P4.cell (i := 1) rfl)
  have bb2 := fun q => kept_cell (h6 q) (P4.cell (i := 2) rfl)
  have bb3 := fun q => kept_cell (h6 q) (P4.cell (i := 3) rfl)
  have bb6 := fun q => kept_cell (h6 q) (P4.cell (i := 6) rfl)
  have bb7 := fun q => kept_cell (h6 q) (P4.cell (i := 7) rfl)
  have G7 := Lib.hid g7'
  clear h6 g7' g6'
  refine wp_region_class_tail (C := fun w' => ∃ q, w' = fw q) 13 (by kernel_rfl) (by kernel_rfl) g5' ?_
  simp only [List.take_succ_cons, List.take_zero, List.drop_succ_cons, List.drop_zero]
  repeat (first
    | go_big_quiet_skip
    | (go_big_quiet_want; go_big_quiet_op; go_big_quiet_on))
  refine wpQuiet_nil ?_
  intro w6 h6
  have hb67 := G7.out _ h6
  have hb := hb5.trans (hb67.mono (Nat.le_trans (Nat.le_trans hlow (Nat.le_of_lt (Nat.lt_of_succ_lt O4.lt))) (Nat.le_refl _)))
  have O := O4.below hb67 O4.lt
  replace kp := kp.below hb67
  have S6 := row_below oS4 hb67 (Nat.le_refl _)
  have G6_ := row_below oG4 hb67 (Nat.le_refl _)
  have nS := own_not S6 O (by decide)
  have nG := own_not G6_ O (by decide)
  clear bb0 bb1 bb2 bb3 bb6 bb7 g5' h6 oS4 oG4 P4 hb67 O4 hb5
  have qc0 := O.cell (i := 0) rfl
  have qf0 := O.froz 0
  have qc1 := O.cell (i := 1) rfl
  have qf1 := O.froz 1
  have qc2 := O.cell (i := 2) rfl
  have qf2 := O.froz 2
  have qc3 := O.cell (i := 3) rfl
  have qf3 := O.froz 3
  have qc4 := O.cell (i := 4) rfl
  have qf4 := O.froz 4
  have qc5 := O.cell (i := 5) rfl
  have qf5 := O.froz 5
  have qc6 := O.cell (i := 6) rfl
  have qf6 := O.froz 6
  go_wp2
  clear qc0 qf0 qc1 qf1 qc2 qf2 qc3 qf3 qc4 qf4 qc5 qf5 qc6 qf6
  have S69 := (row_off (row_off (row_off (row_off (row_off (row_off (row_off S6 (p := ⟨w.heap.size + 1, 0, none⟩) nS (.string nm)) (p := ⟨w.heap.size + 1, 1, none⟩) nS (.int .i64 bs)) (p := ⟨w.heap.size + 1, 2, none⟩) nS (.slice E (H.length + 1) c9)) (p := ⟨w.heap.size + 1, 3, none⟩) nS (.slice B2 G.length b2)) (p := ⟨w.heap.size + 1, 4, none⟩) nS (.slice none 0 0)) (p := ⟨w.heap.size + 1, 5, none⟩) nS (.int .i64 (bs + H.length))) (p := ⟨w.heap.size + 1, 6, none⟩) nS (.int .i64 0))
  have G6_9 := (row_off (row_off (row_off (row_off (row_off (row_off (row_off G6_ (p := ⟨w.heap.size + 1, 0, none⟩) nG (.string nm)) (p := ⟨w.heap.size + 1, 1, none⟩) nG (.int .i64 bs)) (p := ⟨w.heap.size + 1, 2, none⟩) nG (.slice E (H.length + 1) c9)) (p := ⟨w.heap.size + 1, 3, none⟩) nG (.slice B2 G.length b2)) (p := ⟨w.heap.size + 1, 4, none⟩) nG (.slice none 0 0)) (p := ⟨w.heap.size + 1, 5, none⟩) nG (.int .i64 (bs + H.length))) (p := ⟨w.heap.size + 1, 6, none⟩) nG (.int .i64 0))
  have O9 := (((((((O.put 0 (.string nm)).put 1 (.int .i64 bs)).put 2 (.slice E (H.length + 1) c9)).put 3 (.slice B2 G.length b2)).put 4 (.slice none 0 0)).put 5 (.int .i64 (bs + H.length))).put 6 (.int .i64 0))
  have hb9 := (((((((hb.setCell (p := ⟨w.heap.size + 1, 0, none⟩) (by simp <;> omega) (.string nm)).setCell (p := ⟨w.heap.size + 1, 1, none⟩) (by simp <;> omega) (.int .i64 bs)).setCell (p := ⟨w.heap.size + 1, 2, none⟩) (by simp <;> omega) (.slice E (H.length + 1) c9)).setCell (p := ⟨w.heap.size + 1, 3, none⟩) (by simp <;> omega) (.slice B2 G.length b2)).setCell (p := ⟨w.heap.size + 1, 4, none⟩) (by simp <;> omega) (.slice none 0 0)).setCell (p := ⟨w.heap.size + 1, 5, none⟩) (by simp <;> omega) (.int .i64 (bs + H.length))).setCell (p := ⟨w.heap.size + 1, 6, none⟩) (by simp <;> omega) (.int .i64 0))
  have kp9 := (((((((kp.put ⟨w.heap.size + 1, 0, none⟩ (.inr (by simp)) (.string nm)).put ⟨w.heap.size + 1, 1, none⟩ (.inr (by simp)) (.int .i64 bs)).put ⟨w.heap.size + 1, 2, none⟩ (.inr (by simp)) (.slice E (H.length + 1) c9)).put ⟨w.heap.size + 1, 3, none⟩ (.inr (by simp)) (.slice B2 G.length b2)).put ⟨w.heap.size + 1, 4, none⟩ (.inr (by simp)) (.slice none 0 0)).put ⟨w.heap.size + 1, 5, none⟩ (.inr (by simp)) (.int .i64 (bs + H.length))).put ⟨w.heap.size + 1, 6, none⟩ (.inr (by simp)) (.int .i64 0))
  simp only [List.set_cons_succ, List.set_cons_zero] at O9
  generalize ((((((w6.setCell ⟨w.heap.size + 1, 0, none⟩ (.string nm)).setCell ⟨w.heap.size + 1, 1, none⟩ (.int .i64 bs)).setCell ⟨w.heap.size + 1, 2, none⟩ (.slice E (H.length + 1) c9)).setCell ⟨w.heap.size + 1, 3, none⟩ (.slice B2 G.length b2)).setCell ⟨w.heap.size + 1, 4, none⟩ (.slice none 0 0)).setCell ⟨w.heap.size + 1, 5, none⟩ (.int .i64 (bs + H.length))).setCell ⟨w.heap.size + 1, 6, none⟩ (.int .i64 0) = w9 at O9 hb9 kp9 S69 G6_9  ⊢
  have oc0 := O9.cell (i := 0) rfl
  have oc1 := O9.cell (i := 1) rfl
  have oc2 := O9.cell (i := 2) rfl
  have oc3 := O9.cell (i := 3) rfl
  have oc4 := O9.cell (i := 4) rfl
  have oc5 := O9.cell (i := 5) rfl
  have oc6 := O9.cell (i := 6) rfl
  exact bodyPost_ret (v := .agg #[.string nm, .int .i64 bs, .slice E (H.length + 1) c9, .slice B2 G.length b2, .slice none 0 0, .int .i64 (bs + H.length), .int .i64 0]) (by simp [results, Try.results48, go_sem, oc0, oc1, oc2, oc3, oc4, oc5, oc6]) rfl (⟨run_end HR.out S69 G6_9 hb9, kp9⟩)
end Go.Proofs.Ytodnmbppgjbpmaa

namespace Go.Proofs.Ytodnmbppgjbpmaa
open Go.RowKit Go.Deep
set_option linter.unusedVariables false
set_option maxRecDepth 1000000
theorem pubT_of {t : Tpc} {s : ByteArray} (h : ¬ 20000 < s.size) : pubT t s = pubR t s (inB s.size 1 40) := by
  unfold pubT pubR
  rw [if_neg h]
  rcases Bool.eq_false_or_eq_true (topB t && inB s.size 1 40) with hb | hb
  rotate_left
  · rw [if_pos hb, if_pos hb]
  · have hn : ¬ (topB t && inB s.size 1 40) = false := by rw [hb]; simp
    rw [if_neg hn, if_neg hn]
    have ho := topB_iff.1 (by simp at hb; exact hb.1 : topB t = true)
    have h1 := ho.2.2.1
    have h2 := ho.2.2.2.2.2.1
    by_cases hf : t.held.length = 20 ∨ t.base + t.held.length = 1000000000
    · have h3 : 20 ≤ t.held.length ∨ 1000000000 ≤ t.base + t.held.length := by omega
      rw [if_pos h3, if_pos (fullB_true hf)]
    · have h3 : ¬ (20 ≤ t.held.length ∨ 1000000000 ≤ t.base + t.held.length) := by omega
      have h4 : ¬ fullB t = true := by rw [fullB_false hf]; simp
      rw [if_neg h3, if_neg h4]
theorem pub_small (t : Tpc) (s : ByteArray) : (pubT t s).o.held.length ≤ maxLen ∧ (pubT t s).o.groups.length ≤ maxLen ∧ (pubT t s).texts.length ≤ maxLen ∧ 1 + (pubT t s).o.held.length + 2 * (pubT t s).o.groups.length + (pubT t s).texts.length ≤ 3900001 := by
  have hi : ∀ c, (ill c).o.held.length ≤ maxLen ∧ (ill c).o.groups.length ≤ maxLen ∧ (ill c).texts.length ≤ maxLen ∧ 1 + (ill c).o.held.length + 2 * (ill c).o.groups.length + (ill c).texts.length ≤ 3900001 := fun c => by simp [ill, maxLen]
  unfold pubT
  split
  · exact hi _
  · split
    · exact hi _
    · rename_i hb
      split
      · exact hi _
      · have ho := topB_iff.1 (by simp at hb; exact hb.1 : topB t = true)
        have h1 := ho.2.2.1
        have h2 := ho.2.2.2.2.1
        simp [maxLen]
        omega
set_option maxHeartbeats 8000000 in
theorem implTopicPublish_any (t : Tpc) (s : ByteArray) (A : Option Addr) (c : Nat) (B : Option Addr) (d : Nat) (w : World) (hf : t.fits) (hsm : t.small) (hs : s.size ≤ maxLen) (hs1 : s.size ≤ 1048576) (hA : Strs w w.heap.size A t.held) (hB : Grs w w.heap.size B t.groups) :
    Calls Try.prog 16 #[topV t.name t.base (.slice A t.held.length c) (.slice B t.groups.length d), .string s] w fun e w' => ImO w w' e (pubT t s) := by
  have HL : Hid (20000 < s.size → pubT t s = ill 2) := Lib.hid fun h => by unfold pubT; rw [if_pos h]
  have HS : Hid (¬ 20000 < s.size → pubT t s = pubR t s (inB s.size 1 40)) := Lib.hid pubT_of
  have TL := fun W => tooLong_any s W hs
  obtain ⟨rm, HM⟩ : ∃ x, Hid (inB s.size 1 40 = x) := ⟨_, Lib.hid rfl⟩
  have TX := textRight_b HM.out hs
  rw [HM.out] at HS
  have RN := Lib.hid (fun W p (h : Below w.heap.size w W) (hp : w.heap.size ≤ p) P => runPub_any t s rm w.heap.size p A c B d W hf hsm hs1 (hA.on h) (hB.on h) hp P)
  obtain ⟨R, HR0⟩ : ∃ x, Hid (pubT t s = x) := ⟨_, Lib.hid rfl⟩
  rw [HR0.out] at HL HS ⊢
  obtain ⟨nm, bs, H, G⟩ := t
  simp only at RN hA hB ⊢
  have K := (Blk.fresh w 32 [.string nm, .int .i64 bs, .slice A H.length c, .slice B G.length d]).alloc (.cells #[.string ⟨#[]⟩, .int .i64 0, .slice none 0 0, .slice none 0 0, .slice none 0 0, .int .i64 0, .int .i64 0] 36)
  have O := Blk.fresh (w.alloc (.cells #[.string nm, .int .i64 bs, .slice A H.length c, .slice B G.length d] 32)) 36 [.string ⟨#[]⟩, .int .i64 0, .slice none 0 0, .slice none 0 0, .slice none 0 0, .int .i64 0, .int .i64 0]
  have hb : Below w.heap.size w ((w.alloc (.cells #[.string nm, .int .i64 bs, .slice A H.length c, .slice B G.length d] 32)).alloc (.cells #[.string ⟨#[]⟩, .int .i64 0, .slice none 0 0, .slice none 0 0, .slice none 0 0, .int .i64 0, .int .i64 0] 36)) := ((Below.refl _ _).alloc (Nat.le_refl _) _).alloc (by simp) _
  simp only [World.size_alloc] at K O
  replace K : Blk ((w.alloc (.cells #[.string nm, .int .i64 bs, .slice A H.length c, .slice B G.length d] 32)).alloc (.cells #[.string ⟨#[]⟩, .int .i64 0, .slice none 0 0, .slice none 0 0, .slice none 0 0, .int .i64 0, .int .i64 0] 36)) w.heap.size 32 [.string nm, .int .i64 bs, .slice A H.length c, .slice B G.length d] := K
  replace O : Blk ((w.alloc (.cells #[.string nm, .int .i64 bs, .slice A H.length c, .slice B G.length d] 32)).alloc (.cells #[.string ⟨#[]⟩, .int .i64 0, .slice none 0 0, .slice none 0 0, .slice none 0 0, .int .i64 0, .int .i64 0] 36)) (w.heap.size + 1) 36 [.string ⟨#[]⟩, .int .i64 0, .slice none 0 0, .slice none 0 0, .slice none 0 0, .int .i64 0, .int .i64 0] := O
  by_cases h1 : 20000 < s.size
  · have HR := Lib.hid (HL.out h1)
    have hd : decide (20000 < s.size) = true := by simpa using h1
    rw [hd] at TL
    clear h1 hd
    go_enter Try.func16, Try.ntmps16
    go_wp2_with (fail)
    generalize (w.alloc (.cells #[.string nm, .int .i64 bs, .slice A H.length c, .slice B G.length d] 32)).alloc (.cells #[.string ⟨#[]⟩, .int .i64 0, .slice none 0 0, .slice none 0 0, .slice none 0 0, .int .i64 0, .int .i64 0] 36) = v0 at K O hb ⊢
    refine (TL v0).mono ?_
    rintro e w1 ⟨rfl, rfl⟩
    have qc0 := O.cell (i := 0) rfl
    have qf0 := O.froz 0
    have qc1 := O.cell (i := 1) rfl
    have qf1 := O.froz 1
    have qc2 := O.cell (i := 2) rfl
    have qf2 := O.froz 2
    have qc3 := O.cell (i := 3) rfl
    have qf3 := O.froz 3
    have qc4 := O.cell (i := 4) rfl
    have qf4 := O.froz 4
    have qc5 := O.cell (i := 5) rfl
    have qf5 := O.froz 5
    have qc6 := O.cell (i := 6) rfl
    have qf6 := O.froz 6
    go_wp2
    clear qc0 qf0 qc1 qf1 qc2 qf2 qc3 qf3 qc4 qf4 qc5 qf5 qc6 qf6
    have O9 := (((((((O.put 0 (.string ⟨#[]⟩)).put 1 (.int .i64 0)).put 2 (.slice none 0 0)).put 3 (.slice none 0 0)).put 4 (.slice none 0 0)).put 5 (.int .i64 0)).put 6 (.int .i64 2))
    have hb9 := (((((((hb.setCell (p := ⟨w.heap.size + 1, 0, none⟩) (by simp <;> omega) (.string ⟨#[]⟩)).setCell (p := ⟨w.heap.size + 1, 1, none⟩) (by simp <;> omega) (.int .i64 0)).setCell (p := ⟨w.heap.size + 1, 2, none⟩) (by simp <;> omega) (.slice none 0 0)).setCell (p := ⟨w.heap.size + 1, 3, none⟩) (by simp <;> omega) (.slice none 0 0)).setCell (p := ⟨w.heap.size + 1, 4, none⟩) (by simp <;> omega) (.slice none 0 0)).setCell (p := ⟨w.heap.size + 1, 5, none⟩) (by simp <;> omega) (.int .i64 0)).setCell (p := ⟨w.heap.size + 1, 6, none⟩) (by simp <;> omega) (.int .i64 2))
    simp only [List.set_cons_succ, List.set_cons_zero] at O9
    generalize ((((((w1.setCell ⟨w.heap.size + 1, 0, none⟩ (.string ⟨#[]⟩)).setCell ⟨w.heap.size + 1, 1, none⟩ (.int .i64 0)).setCell ⟨w.heap.size + 1, 2, none⟩ (.slice none 0 0)).setCell ⟨w.heap.size + 1, 3, none⟩ (.slice none 0 0)).setCell ⟨w.heap.size + 1, 4, none⟩ (.slice none 0 0)).setCell ⟨w.heap.size + 1, 5, none⟩ (.int .i64 0)).setCell ⟨w.heap.size + 1, 6, none⟩ (.int .i64 2) = w9 at O9 hb9  ⊢
    have oc0 := O9.cell (i := 0) rfl
    have oc1 := O9.cell (i := 1) rfl
    have oc2 := O9.cell (i := 2) rfl
    have oc3 := O9.cell (i := 3) rfl
    have oc4 := O9.cell (i := 4) rfl
    have oc5 := O9.cell (i := 5) rfl
    have oc6 := O9.cell (i := 6) rfl
    exact bodyPost_ret (v := .agg #[.string ⟨#[]⟩, .int .i64 0, .slice none 0 0, .slice none 0 0, .slice none 0 0, .int .i64 0, .int .i64 2]) (by simp [results, Try.results16, go_sem, oc0, oc1, oc2, oc3, oc4, oc5, oc6]) rfl (by rw [HR.out]; exact ImO.ill hb9)
  have HR := Lib.hid (HS.out h1)
  have hd : decide (20000 < s.size) = false := by simpa using h1
  rw [hd] at TL
  clear h1 hd HL HS
  go_enter Try.func16, Try.ntmps16
  go_wp2_with (fail)
  generalize (w.alloc (.cells #[.string nm, .int .i64 bs, .slice A H.length c, .slice B G.length d] 32)).alloc (.cells #[.string ⟨#[]⟩, .int .i64 0, .slice none 0 0, .slice none 0 0, .slice none 0 0, .int .i64 0, .int .i64 0] 36) = v0 at K O hb ⊢
  refine (TL v0).mono ?_
  rintro e w1 ⟨rfl, rfl⟩
  have hK := K.alloc (.cells #[.string ⟨#[]⟩, .int .i64 0, .slice none 0 0, .slice none 0 0, .string s, .int .i64 0, .slice none 0 0, .int .i64 0] 61)
  have hO := O.alloc (.cells #[.string ⟨#[]⟩, .int .i64 0, .slice none 0 0, .slice none 0 0, .string s, .int .i64 0, .slice none 0 0, .int .i64 0] 61)
  have hP := Blk.fresh w1 61 [.string ⟨#[]⟩, .int .i64 0, .slice none 0 0, .slice none 0 0, .string s, .int .i64 0, .slice none 0 0, .int .i64 0]
  have hb2 := hb.alloc hb.size (.cells #[.string ⟨#[]⟩, .int .i64 0, .slice none 0 0, .slice none 0 0, .string s, .int .i64 0, .slice none 0 0, .int .i64 0] 61)
  have hlt := O.lt
  go_wp2_with (fail)
  generalize w1.alloc (.cells #[.string ⟨#[]⟩, .int .i64 0, .slice none 0 0, .slice none 0 0, .string s, .int .i64 0, .slice none 0 0, .int .i64 0] 61) = w2 at hK hO hP hb2 ⊢
  clear K O hb
  have TXb := Lib.hid (fun W => bl (TX W))
  clear TX TL
  obtain ⟨I, fw, hI, g5', h6, g6', g7'⟩ := class_grown w2
  have kk0 := fun q => kept_cell (h6 q) (hK.cell (i := 0) rfl)
  have kk1 := fun q => kept_cell (h6 q) (hK.cell (i := 1) rfl)
  have kk2 := fun q => kept_cell (h6 q) (hK.cell (i := 2) rfl)
  have kk3 := fun q => kept_cell (h6 q) (hK.cell (i := 3) rfl)
  have G7 := Lib.hid g7'
  have G6 := Lib.hid g6'
  clear h6 g7' g6'
  refine wp_region_class_tail (C := fun w' => ∃ q, w' = fw q) 4 (by kernel_rfl) (by kernel_rfl) g5' ?_
  simp only [List.take_succ_cons, List.take_zero, List.drop_succ_cons, List.drop_zero]
  repeat (first
    | go_big_quiet_skip
    | (go_big_quiet_want; go_big_quiet_op; first | go_big_quiet_on | (apply Exists.intro; refine ⟨fun q => ?_, ?_⟩; (go_at_call 49; (with_reducible refine (TXb.out _).mono ?_); rintro e w9 ⟨rfl, hb9'⟩; exact ⟨rfl, G6.out _ _ hb9'⟩); go_big_quiet_on)))
  refine wpQuiet_nil ?_
  intro w5 h5
  have hb5 := G7.out _ h5
  have hP5 := hP.below hb5 hP.lt
  have hO5 := hO.below hb5 hO.lt
  have hw5 := hb2.trans (hb5.mono hb2.size)
  clear kk0 kk1 kk2 kk3 g5' h5 hK hP hO hb5
  have RN5 := RN.out w5 w1.heap.size hw5 (by omega) hP5
  rw [← HR.out] at RN5
  obtain ⟨⟨on, ob, oH, oG⟩, N, n, co⟩ := R
  clear RN HR
  go_wp2_with (fail)
  refine RN5.mono ?_
  rintro e w6 ⟨⟨A1, a1, B1, b1, T1, x1, rfl, sA, sB, sT, hap, cA, cB, hb6⟩, kp⟩
  simp only at sA sB sT cA cB
  have O := kp _ _ (Nat.ne_of_lt hlt) hO5
  have hb := hw5.trans hb6
  clear RN5 kp hO5 hP5 hw5 hb6 hb2
  have qc0 := O.cell (i := 0) rfl
  have qf0 := O.froz 0
  have qc1 := O.cell (i := 1) rfl
  have qf1 := O.froz 1
  have qc2 := O.cell (i := 2) rfl
  have qf2 := O.froz 2
  have qc3 := O.cell (i := 3) rfl
  have qf3 := O.froz 3
  have qc4 := O.cell (i := 4) rfl
  have qf4 := O.froz 4
  have qc5 := O.cell (i := 5) rfl
  have qf5 := O.froz 5
  have qc6 := O.cell (i := 6) rfl
  have qf6 := O.froz 6
  go_wp2
  clear qc0 qf0 qc1 qf1 qc2 qf2 qc3 qf3 qc4 qf4 qc5 qf5 qc6 qf6
  have hsz : (((((((w6.setCell ⟨w.heap.size + 1, 0, none⟩ (.string on)).setCell ⟨w.heap.size + 1, 1, none⟩ (.int .i64 ob)).setCell ⟨w.heap.size + 1, 2, none⟩ (.slice A1 oH.length a1)).setCell ⟨w.heap.size + 1, 3, none⟩ (.slice B1 oG.length b1)).setCell ⟨w.heap.size + 1, 4, none⟩ (.slice T1 N.length x1)).setCell ⟨w.heap.size + 1, 5, none⟩ (.int .i64 n)).setCell ⟨w.heap.size + 1, 6, none⟩ (.int .i64 co)).heap.size = w6.heap.size := by simp [World.setCell]
  have rA := (((((((sA.off O (by decide) 0 (.string on)).off (O.put 0 (.string on)) (by decide) 1 (.int .i64 ob)).off ((O.put 0 (.string on)).put 1 (.int .i64 ob)) (by decide) 2 (.slice A1 oH.length a1)).off (((O.put 0 (.string on)).put 1 (.int .i64 ob)).put 2 (.slice A1 oH.length a1)) (by decide) 3 (.slice B1 oG.length b1)).off ((((O.put 0 (.string on)).put 1 (.int .i64 ob)).put 2 (.slice A1 oH.length a1)).put 3 (.slice B1 oG.length b1)) (by decide) 4 (.slice T1 N.length x1)).off (((((O.put 0 (.string on)).put 1 (.int .i64 ob)).put 2 (.slice A1 oH.length a1)).put 3 (.slice B1 oG.length b1)).put 4 (.slice T1 N.length x1)) (by decide) 5 (.int .i64 n)).off ((((((O.put 0 (.string on)).put 1 (.int .i64 ob)).put 2 (.slice A1 oH.length a1)).put 3 (.slice B1 oG.length b1)).put 4 (.slice T1 N.length x1)).put 5 (.int .i64 n)) (by decide) 6 (.int .i64 co))
  have rB := (((((((sB.off O (by decide) 0 (.string on)).off (O.put 0 (.string on)) (by decide) 1 (.int .i64 ob)).off ((O.put 0 (.string on)).put 1 (.int .i64 ob)) (by decide) 2 (.slice A1 oH.length a1)).off (((O.put 0 (.string on)).put 1 (.int .i64 ob)).put 2 (.slice A1 oH.length a1)) (by decide) 3 (.slice B1 oG.length b1)).off ((((O.put 0 (.string on)).put 1 (.int .i64 ob)).put 2 (.slice A1 oH.length a1)).put 3 (.slice B1 oG.length b1)) (by decide) 4 (.slice T1 N.length x1)).off (((((O.put 0 (.string on)).put 1 (.int .i64 ob)).put 2 (.slice A1 oH.length a1)).put 3 (.slice B1 oG.length b1)).put 4 (.slice T1 N.length x1)) (by decide) 5 (.int .i64 n)).off ((((((O.put 0 (.string on)).put 1 (.int .i64 ob)).put 2 (.slice A1 oH.length a1)).put 3 (.slice B1 oG.length b1)).put 4 (.slice T1 N.length x1)).put 5 (.int .i64 n)) (by decide) 6 (.int .i64 co))
  have rT := (((((((sT.off O (by decide) 0 (.string on)).off (O.put 0 (.string on)) (by decide) 1 (.int .i64 ob)).off ((O.put 0 (.string on)).put 1 (.int .i64 ob)) (by decide) 2 (.slice A1 oH.length a1)).off (((O.put 0 (.string on)).put 1 (.int .i64 ob)).put 2 (.slice A1 oH.length a1)) (by decide) 3 (.slice B1 oG.length b1)).off ((((O.put 0 (.string on)).put 1 (.int .i64 ob)).put 2 (.slice A1 oH.length a1)).put 3 (.slice B1 oG.length b1)) (by decide) 4 (.slice T1 N.length x1)).off (((((O.put 0 (.string on)).put 1 (.int .i64 ob)).put 2 (.slice A1 oH.length a1)).put 3 (.slice B1 oG.length b1)).put 4 (.slice T1 N.length x1)) (by decide) 5 (.int .i64 n)).off ((((((O.put 0 (.string on)).put 1 (.int .i64 ob)).put 2 (.slice A1 oH.length a1)).put 3 (.slice B1 oG.length b1)).put 4 (.slice T1 N.length x1)).put 5 (.int .i64 n)) (by decide) 6 (.int .i64 co))
  have O9 := (((((((O.put 0 (.string on)).put 1 (.int .i64 ob)).put 2 (.slice A1 oH.length a1)).put 3 (.slice B1 oG.length b1)).put 4 (.slice T1 N.length x1)).put 5 (.int .i64 n)).put 6 (.int .i64 co))
  have hb9 := (((((((hb.setCell (p := ⟨w.heap.size + 1, 0, none⟩) (by simp <;> omega) (.string on)).setCell (p := ⟨w.heap.size + 1, 1, none⟩) (by simp <;> omega) (.int .i64 ob)).setCell (p := ⟨w.heap.size + 1, 2, none⟩) (by simp <;> omega) (.slice A1 oH.length a1)).setCell (p := ⟨w.heap.size + 1, 3, none⟩) (by simp <;> omega) (.slice B1 oG.length b1)).setCell (p := ⟨w.heap.size + 1, 4, none⟩) (by simp <;> omega) (.slice T1 N.length x1)).setCell (p := ⟨w.heap.size + 1, 5, none⟩) (by simp <;> omega) (.int .i64 n)).setCell (p := ⟨w.heap.size + 1, 6, none⟩) (by simp <;> omega) (.int .i64 co))
  simp only [List.set_cons_succ, List.set_cons_zero] at O9
  generalize ((((((w6.setCell ⟨w.heap.size + 1, 0, none⟩ (.string on)).setCell ⟨w.heap.size + 1, 1, none⟩ (.int .i64 ob)).setCell ⟨w.heap.size + 1, 2, none⟩ (.slice A1 oH.length a1)).setCell ⟨w.heap.size + 1, 3, none⟩ (.slice B1 oG.length b1)).setCell ⟨w.heap.size + 1, 4, none⟩ (.slice T1 N.length x1)).setCell ⟨w.heap.size + 1, 5, none⟩ (.int .i64 n)).setCell ⟨w.heap.size + 1, 6, none⟩ (.int .i64 co) = w9 at O9 hb9 hsz rA rB rT  ⊢
  have oc0 := O9.cell (i := 0) rfl
  have oc1 := O9.cell (i := 1) rfl
  have oc2 := O9.cell (i := 2) rfl
  have oc3 := O9.cell (i := 3) rfl
  have oc4 := O9.cell (i := 4) rfl
  have oc5 := O9.cell (i := 5) rfl
  have oc6 := O9.cell (i := 6) rfl
  exact bodyPost_ret (v := .agg #[.string on, .int .i64 ob, .slice A1 oH.length a1, .slice B1 oG.length b1, .slice T1 N.length x1, .int .i64 n, .int .i64 co]) (by simp [results, Try.results16, go_sem, oc0, oc1, oc2, oc3, oc4, oc5, oc6]) rfl (pub_out hsz rA rB rT hap cA cB hb9)
/-- The two answer alike. -/
theorem bothTopicPublish (t : Tpc) (s : ByteArray) (hf : t.fits) (hS : t.small) (hs : s.size ≤ maxLen) (hb : s.size ≤ 1048576) :
    ∃ (o : Tpc) (N : List ByteArray) (n co : Int), o.held.length ≤ maxLen ∧ o.groups.length ≤ maxLen ∧ N.length ≤ maxLen ∧ 1 + o.held.length + 2 * o.groups.length + N.length ≤ 3900001 ∧
      (∀ A c B d w, Strs w w.heap.size A t.held → Grs w w.heap.size B t.groups → Cap A t.held.length c → Cap B t.groups.length d → Calls Try.prog 19 #[topV t.name t.base (.slice A t.held.length c) (.slice B t.groups.length d), .string s] w fun e w' => SpO w w' e ⟨o, N, n, co⟩) ∧
      (∀ A c B d w, Strs w w.heap.size A t.held → Grs w w.heap.size B t.groups → Cap A t.held.length c → Cap B t.groups.length d → Calls Try.prog 16 #[topV t.name t.base (.slice A t.held.length c) (.slice B t.groups.length d), .string s] w fun e w' => ImO w w' e ⟨o, N, n, co⟩) :=
  ⟨(pubT t s).o, (pubT t s).texts, (pubT t s).n, (pubT t s).code, (pub_small t s).1, (pub_small t s).2.1, (pub_small t s).2.2.1, (pub_small t s).2.2.2, fun A c B d w h1 h2 h3 h4 => specTopicPublish_any t s A c B d w hf hs h1 h2 h3 h4, fun A c B d w h1 h2 _ _ => implTopicPublish_any t s A c B d w hf hS hs hb h1 h2⟩
end Go.Proofs.Ytodnmbppgjbpmaa

namespace Go.Proofs.Ytodnmbppgjbpmaa
open Go.RowKit Go.Deep
set_option linter.unusedVariables false
set_option maxRecDepth 1000000
set_option maxHeartbeats 8000000 in
theorem runRet_any (t : Tpc) (s : ByteArray) (n : Int) (r : Bool) (R : Ans) (lo p : Nat) (A : Option Addr) (c : Nat) (B : Option Addr) (d : Nat) (w : World) (hf : t.fits) (hsm : t.small) (hA : Strs w w.heap.size A t.held) (hB : Grs w w.heap.size B t.groups) (hp : lo ≤ p) (HOP : ∀ W A2 a2 B2 b2, Kept w W p → topOK t → r = true → Wk W lo p t s n A2 a2 B2 b2 → Calls Try.prog 74 #[.pointer (some ⟨p, 0, none⟩)] W (OpPost lo p s n R W)) (P : Blk w p 61 [.string ⟨#[]⟩, .int .i64 0, .slice none 0 0, .slice none 0 0, .string s, .int .i64 n, .slice none 0 0, .int .i64 0]) :
    Calls Try.prog 48 #[.pointer (some ⟨p, 0, none⟩), topV t.name t.base (.slice A t.held.length c) (.slice B t.groups.length d), .bool r, (.func (.func 74) #[.pointer (some ⟨p, 0, none⟩)] #[])] w fun e w' => RunO lo w w' e (runR t r R) ∧ Kp w w' p := by
  have hlow : lo ≤ w.heap.size := Nat.le_trans hp (Nat.le_of_lt P.lt)
  have hplt := P.lt
  have TR := Lib.hid (fun W (h : Below w.heap.size w W) => implTopicRight_any t A c B d W hf (hA.on h) (hB.on h))
  have HR0 : Hid (runR t r R = _) := Lib.hid (runR.eq_def t r R)
  have HO := Lib.hid (topB_iff (t := t))
  have FT := Lib.hid (fun W (h : Below w.heap.size w W) (ho : topOK t) => freshTopic_any t A c B d W hsm.1 (fun x hx => by obtain ⟨i, hi, rfl⟩ := List.mem_iff_getElem.1 hx; exact hsm.2.1.2 i hi) (fun x hx => by obtain ⟨i, hi, rfl⟩ := List.mem_iff_getElem.1 hx; exact hsm.2.2.2 i hi) ho.2.2.1 ho.2.2.2.2.1 (hA.on h) (hB.on h))
  have PB := Lib.hid HOP
  clear HOP
  obtain ⟨rr, HRR⟩ : ∃ x, Hid (runR t r R = x) := ⟨_, Lib.hid rfl⟩
  rw [HRR.out] at HR0 ⊢
  obtain ⟨nm, bs, H, G⟩ := t
  simp only at TR HR0 FT hA hB ⊢
  have K := (Blk.fresh w 32 [.string nm, .int .i64 bs, .slice A H.length c, .slice B G.length d]).alloc (.cells #[.string ⟨#[]⟩, .int .i64 0, .slice none 0 0, .slice none 0 0, .slice none 0 0, .int .i64 0, .int .i64 0] 36)
  have O := Blk.fresh (w.alloc (.cells #[.string nm, .int .i64 bs, .slice A H.length c, .slice B G.length d] 32)) 36 [.string ⟨#[]⟩, .int .i64 0, .slice none 0 0, .slice none 0 0, .slice none 0 0, .int .i64 0, .int .i64 0]
  have hb : Below w.heap.size w ((w.alloc (.cells #[.string nm, .int .i64 bs, .slice A H.length c, .slice B G.length d] 32)).alloc (.cells #[.string ⟨#[]⟩, .int .i64 0, .slice none 0 0, .slice none 0 0, .slice none 0 0, .int .i64 0, .int .i64 0] 36)) := ((Below.refl _ _).alloc (Nat.le_refl _) _).alloc (by simp) _
  simp only [World.size_alloc] at K O
  replace K : Blk ((w.alloc (.cells #[.string nm, .int .i64 bs, .slice A H.length c, .slice B G.length d] 32)).alloc (.cells #[.string ⟨#[]⟩, .int .i64 0, .slice none 0 0, .slice none 0 0, .slice none 0 0, .int .i64 0, .int .i64 0] 36)) w.heap.size 32 [.string nm, .int .i64 bs, .slice A H.length c, .slice B G.length d] := K
  replace O : Blk ((w.alloc (.cells #[.string nm, .int .i64 bs, .slice A H.length c, .slice B G.length d] 32)).alloc (.cells #[.string ⟨#[]⟩, .int .i64 0, .slice none 0 0, .slice none 0 0, .slice none 0 0, .int .i64 0, .int .i64 0] 36)) (w.heap.size + 1) 36 [.string ⟨#[]⟩, .int .i64 0, .slice none 0 0, .slice none 0 0, .slice none 0 0, .int .i64 0, .int .i64 0] := O
  have hbw := hb
  replace hb := hb.mono hlow
  have kt := ((Kept.refl w p).alloc (.cells #[.string nm, .int .i64 bs, .slice A H.length c, .slice B G.length d] 32)).alloc (.cells #[.string ⟨#[]⟩, .int .i64 0, .slice none 0 0, .slice none 0 0, .slice none 0 0, .int .i64 0, .int .i64 0] 36)
  have kp := ((Kp.refl w p).alloc (.cells #[.string nm, .int .i64 bs, .slice A H.length c, .slice B G.length d] 32)).alloc (.cells #[.string ⟨#[]⟩, .int .i64 0, .slice none 0 0, .slice none 0 0, .slice none 0 0, .int .i64 0, .int .i64 0] 36)
  replace P := (P.alloc (.cells #[.string nm, .int .i64 bs, .slice A H.length c, .slice B G.length d] 32)).alloc (.cells #[.string ⟨#[]⟩, .int .i64 0, .slice none 0 0, .slice none 0 0, .slice none 0 0, .int .i64 0, .int .i64 0] 36)
  cases r with
  | false =>
    have HR : Hid (rr = ill 1) := Lib.hid (by rw [HR0.out, if_pos (by simp)])
    clear HR0
    go_enter Try.func48, Try.ntmps48
    go_upto_region 2 with (fail)
    generalize (w.alloc (.cells #[.string nm, .int .i64 bs, .slice A H.length c, .slice B G.length d] 32)).alloc (.cells #[.string ⟨#[]⟩, .int .i64 0, .slice none 0 0, .slice none 0 0, .slice none 0 0, .int .i64 0, .int .i64 0] 36) = v0 at K O P hb hbw kp kt ⊢
    have qc0 := O.cell (i := 0) rfl
    have qf0 := O.froz 0
    have qc1 := O.cell (i := 1) rfl
    have qf1 := O.froz 1
    have qc2 := O.cell (i := 2) rfl
    have qf2 := O.froz 2
    have qc3 := O.cell (i := 3) rfl
    have qf3 := O.froz 3
    have qc4 := O.cell (i := 4) rfl
    have qf4 := O.froz 4
    have qc5 := O.cell (i := 5) rfl
    have qf5 := O.froz 5
    have qc6 := O.cell (i := 6) rfl
    have qf6 := O.froz 6
    go_wp2
    clear qc0 qf0 qc1 qf1 qc2 qf2 qc3 qf3 qc4 qf4 qc5 qf5 qc6 qf6
    have O9 := (((((((O.put 0 (.string ⟨#[]⟩)).put 1 (.int .i64 0)).put 2 (.slice none 0 0)).put 3 (.slice none 0 0)).put 4 (.slice none 0 0)).put 5 (.int .i64 0)).put 6 (.int .i64 1))
    have hb9 := (((((((hb.setCell (p := ⟨w.heap.size + 1, 0, none⟩) (by simp <;> omega) (.string ⟨#[]⟩)).setCell (p := ⟨w.heap.size + 1, 1, none⟩) (by simp <;> omega) (.int .i64 0)).setCell (p := ⟨w.heap.size + 1, 2, none⟩) (by simp <;> omega) (.slice none 0 0)).setCell (p := ⟨w.heap.size + 1, 3, none⟩) (by simp <;> omega) (.slice none 0 0)).setCell (p := ⟨w.heap.size + 1, 4, none⟩) (by simp <;> omega) (.slice none 0 0)).setCell (p := ⟨w.heap.size + 1, 5, none⟩) (by simp <;> omega) (.int .i64 0)).setCell (p := ⟨w.heap.size + 1, 6, none⟩) (by simp <;> omega) (.int .i64 1))
    have kp9 := (((((((kp.put ⟨w.heap.size + 1, 0, none⟩ (.inr (by simp)) (.string ⟨#[]⟩)).put ⟨w.heap.size + 1, 1, none⟩ (.inr (by simp)) (.int .i64 0)).put ⟨w.heap.size + 1, 2, none⟩ (.inr (by simp)) (.slice none 0 0)).put ⟨w.heap.size + 1, 3, none⟩ (.inr (by simp)) (.slice none 0 0)).put ⟨w.heap.size + 1, 4, none⟩ (.inr (by simp)) (.slice none 0 0)).put ⟨w.heap.size + 1, 5, none⟩ (.inr (by simp)) (.int .i64 0)).put ⟨w.heap.size + 1, 6, none⟩ (.inr (by simp)) (.int .i64 1))
    simp only [List.set_cons_succ, List.set_cons_zero] at O9
    generalize ((((((v0.setCell ⟨w.heap.size + 1, 0, none⟩ (.string ⟨#[]⟩)).setCell ⟨w.heap.size + 1, 1, none⟩ (.int .i64 0)).setCell ⟨w.heap.size + 1, 2, none⟩ (.slice none 0 0)).setCell ⟨w.heap.size + 1, 3, none⟩ (.slice none 0 0)).setCell ⟨w.heap.size + 1, 4, none⟩ (.slice none 0 0)).setCell ⟨w.heap.size + 1, 5, none⟩ (.int .i64 0)).setCell ⟨w.heap.size + 1, 6, none⟩ (.int .i64 1) = w9 at O9 hb9 kp9  ⊢
    have oc0 := O9.cell (i := 0) rfl
    have oc1 := O9.cell (i := 1) rfl
    have oc2 := O9.cell (i := 2) rfl
    have oc3 := O9.cell (i := 3) rfl
    have oc4 := O9.cell (i := 4) rfl
    have oc5 := O9.cell (i := 5) rfl
    have oc6 := O9.cell (i := 6) rfl
    exact bodyPost_ret (v := .agg #[.string ⟨#[]⟩, .int .i64 0, .slice none 0 0, .slice none 0 0, .slice none 0 0, .int .i64 0, .int .i64 1]) (by simp [results, Try.results48, go_sem, oc0, oc1, oc2, oc3, oc4, oc5, oc6]) rfl (⟨by rw [HR.out]; exact RunO.ill hb9, kp9⟩)
  | true =>
  rcases Bool.eq_false_or_eq_true (topB ⟨nm, bs, H, G⟩) with hT | hT
  rotate_left
  · have HR : Hid (rr = ill 1) := Lib.hid (by rw [HR0.out, if_pos (by rw [hT]; rfl)])
    rw [hT] at TR
    clear HR0
    go_enter Try.func48, Try.ntmps48
    go_wp2_with (fail)
    generalize (w.alloc (.cells #[.string nm, .int .i64 bs, .slice A H.length c, .slice B G.length d] 32)).alloc (.cells #[.string ⟨#[]⟩, .int .i64 0, .slice none 0 0, .slice none 0 0, .slice none 0 0, .int .i64 0, .int .i64 0] 36) = v0 at K O P hb hbw kp kt ⊢
    refine (TR.out _ hbw).mono ?_
    rintro e w0 ⟨rfl, hb0⟩
    replace K := K.below hb0 K.lt
    replace O := O.below hb0 O.lt
    replace P := P.below hb0 P.lt
    replace hb := hb.trans (hb0.mono (Nat.le_trans hlow hb.size))
    replace kp := kp.below hb0
    replace kt := kt.below hb0
    have qc0 := O.cell (i := 0) rfl
    have qf0 := O.froz 0
    have qc1 := O.cell (i := 1) rfl
    have qf1 := O.froz 1
    have qc2 := O.cell (i := 2) rfl
    have qf2 := O.froz 2
    have qc3 := O.cell (i := 3) rfl
    have qf3 := O.froz 3
    have qc4 := O.cell (i := 4) rfl
    have qf4 := O.froz 4
    have qc5 := O.cell (i := 5) rfl
    have qf5 := O.froz 5
    have qc6 := O.cell (i := 6) rfl
    have qf6 := O.froz 6
    go_wp2
    clear qc0 qf0 qc1 qf1 qc2 qf2 qc3 qf3 qc4 qf4 qc5 qf5 qc6 qf6
    have O9 := (((((((O.put 0 (.string ⟨#[]⟩)).put 1 (.int .i64 0)).put 2 (.slice none 0 0)).put 3 (.slice none 0 0)).put 4 (.slice none 0 0)).put 5 (.int .i64 0)).put 6 (.int .i64 1))
    have hb9 := (((((((hb.setCell (p := ⟨w.heap.size + 1, 0, none⟩) (by simp <;> omega) (.string ⟨#[]⟩)).setCell (p := ⟨w.heap.size + 1, 1, none⟩) (by simp <;> omega) (.int .i64 0)).setCell (p := ⟨w.heap.size + 1, 2, none⟩) (by simp <;> omega) (.slice none 0 0)).setCell (p := ⟨w.heap.size + 1, 3, none⟩) (by simp <;> omega) (.slice none 0 0)).setCell (p := ⟨w.heap.size + 1, 4, none⟩) (by simp <;> omega) (.slice none 0 0)).setCell (p := ⟨w.heap.size + 1, 5, none⟩) (by simp <;> omega) (.int .i64 0)).setCell (p := ⟨w.heap.size + 1, 6, none⟩) (by simp <;> omega) (.int .i64 1))
    have kp9 := (((((((kp.put ⟨w.heap.size + 1, 0, none⟩ (.inr (by simp)) (.string ⟨#[]⟩)).put ⟨w.heap.size + 1, 1, none⟩ (.inr (by simp)) (.int .i64 0)).put ⟨w.heap.size + 1, 2, none⟩ (.inr (by simp)) (.slice none 0 0)).put ⟨w.heap.size + 1, 3, none⟩ (.inr (by simp)) (.slice none 0 0)).put ⟨w.heap.size + 1, 4, none⟩ (.inr (by simp)) (.slice none 0 0)).put ⟨w.heap.size + 1, 5, none⟩ (.inr (by simp)) (.int .i64 0)).put ⟨w.heap.size + 1, 6, none⟩ (.inr (by simp)) (.int .i64 1))
    simp only [List.set_cons_succ, List.set_cons_zero] at O9
    generalize ((((((w0.setCell ⟨w.heap.size + 1, 0, none⟩ (.string ⟨#[]⟩)).setCell ⟨w.heap.size + 1, 1, none⟩ (.int .i64 0)).setCell ⟨w.heap.size + 1, 2, none⟩ (.slice none 0 0)).setCell ⟨w.heap.size + 1, 3, none⟩ (.slice none 0 0)).setCell ⟨w.heap.size + 1, 4, none⟩ (.slice none 0 0)).setCell ⟨w.heap.size + 1, 5, none⟩ (.int .i64 0)).setCell ⟨w.heap.size + 1, 6, none⟩ (.int .i64 1) = w9 at O9 hb9 kp9  ⊢
    have oc0 := O9.cell (i := 0) rfl
    have oc1 := O9.cell (i := 1) rfl
    have oc2 := O9.cell (i := 2) rfl
    have oc3 := O9.cell (i := 3) rfl
    have oc4 := O9.cell (i := 4) rfl
    have oc5 := O9.cell (i := 5) rfl
    have oc6 := O9.cell (i := 6) rfl
    exact bodyPost_ret (v := .agg #[.string ⟨#[]⟩, .int .i64 0, .slice none 0 0, .slice none 0 0, .slice none 0 0, .int .i64 0, .int .i64 1]) (by simp [results, Try.results48, go_sem, oc0, oc1, oc2, oc3, oc4, oc5, oc6]) rfl (⟨by rw [HR.out]; exact RunO.ill hb9, kp9⟩)
  rw [hT] at TR
  have hO := HO.out.1 hT
  have HR1 : Hid (rr = R) := Lib.hid (by rw [HR0.out, if_neg (by rw [hT]; decide)])
  have FT1 := Lib.hid (fun W h => FT.out W h hO)
  have PB1 := Lib.hid (fun W A2 a2 B2 b2 k h => PB.out W A2 a2 B2 b2 k hO rfl h)
  clear HR0 FT PB HO hO hT
  go_enter Try.func48, Try.ntmps48
  go_wp2_with (fail)
  generalize (w.alloc (.cells #[.string nm, .int .i64 bs, .slice A H.length c, .slice B G.length d] 32)).alloc (.cells #[.string ⟨#[]⟩, .int .i64 0, .slice none 0 0, .slice none 0 0, .slice none 0 0, .int .i64 0, .int .i64 0] 36) = v0 at K O P hb hbw kp kt ⊢
  refine (TR.out _ hbw).mono ?_
  rintro e w1 ⟨rfl, hb1⟩
  replace K := K.below hb1 K.lt
  replace O := O.below hb1 O.lt
  replace P := P.below hb1 P.lt
  replace hb := hb.trans (hb1.mono (Nat.le_trans hlow hb.size))
  replace kp := kp.below hb1
  replace kt := kt.below hb1
  replace hbw := hbw.trans (hb1.mono hbw.size)
  clear TR hb1
  have kc0 := K.cell (i := 0) rfl
  have kc1 := K.cell (i := 1) rfl
  have kc2 := K.cell (i := 2) rfl
  have kc3 := K.cell (i := 3) rfl
  go_wp2_with (fail)
  refine (FT1.out _ hbw).mono ?_
  rintro e w2 ⟨A2, a2, B2, b2, rfl, oS, oG, hb2⟩
  have hl1 : lo ≤ w1.heap.size := Nat.le_trans hlow hbw.size
  clear kc0 kc1 kc2 kc3
  replace K := K.below hb2 K.lt
  replace O := O.below hb2 O.lt
  replace P := P.below hb2 P.lt
  replace hb := hb.trans (hb2.mono (Nat.le_trans hlow hb.size))
  replace kp := kp.below hb2
  replace kt := kt.below hb2
  replace oS : OwnS w2 lo (.slice A2 H.length a2) H := own_base oS hl1
  replace oG : OwnG w2 lo (.slice B2 G.length b2) G := own_base oG hl1
  have hl2 : lo ≤ w2.heap.size := Nat.le_trans hl1 hb2.size
  clear FT1 hb2 hbw
  have uc0 := P.cell (i := 0) rfl
  have uf0 := P.froz 0
  have uc1 := P.cell (i := 1) rfl
  have uf1 := P.froz 1
  have uc2 := P.cell (i := 2) rfl
  have uf2 := P.froz 2
  have uc3 := P.cell (i := 3) rfl
  have uf3 := P.froz 3
  go_wp2_with (fail)
  clear uc0 uf0 uc1 uf1 uc2 uf2 uc3 uf3
  have nS := own_not oS P (by decide)
  have nG := own_not oG P (by decide)
  have P3 := ((((P.put 0 (.string nm)).put 1 (.int .i64 bs)).put 2 (.slice A2 H.length a2)).put 3 (.slice B2 G.length b2))
  have O3 := ((((O.far (p := ⟨p, 0, none⟩) (by simp <;> omega) (.string nm)).far (p := ⟨p, 1, none⟩) (by simp <;> omega) (.int .i64 bs)).far (p := ⟨p, 2, none⟩) (by simp <;> omega) (.slice A2 H.length a2)).far (p := ⟨p, 3, none⟩) (by simp <;> omega) (.slice B2 G.length b2))
  have oS3 := (row_off (row_off (row_off (row_off oS (p := ⟨p, 0, none⟩) nS (.string nm)) (p := ⟨p, 1, none⟩) nS (.int .i64 bs)) (p := ⟨p, 2, none⟩) nS (.slice A2 H.length a2)) (p := ⟨p, 3, none⟩) nS (.slice B2 G.length b2))
  have oG3 := (row_off (row_off (row_off (row_off oG (p := ⟨p, 0, none⟩) nG (.string nm)) (p := ⟨p, 1, none⟩) nG (.int .i64 bs)) (p := ⟨p, 2, none⟩) nG (.slice A2 H.length a2)) (p := ⟨p, 3, none⟩) nG (.slice B2 G.length b2))
  have hb3 := ((((hb.setCell (p := ⟨p, 0, none⟩) (by simp <;> omega) (.string nm)).setCell (p := ⟨p, 1, none⟩) (by simp <;> omega) (.int .i64 bs)).setCell (p := ⟨p, 2, none⟩) (by simp <;> omega) (.slice A2 H.length a2)).setCell (p := ⟨p, 3, none⟩) (by simp <;> omega) (.slice B2 G.length b2))
  have kp3 := ((((kp.put ⟨p, 0, none⟩ (.inl rfl) (.string nm)).put ⟨p, 1, none⟩ (.inl rfl) (.int .i64 bs)).put ⟨p, 2, none⟩ (.inl rfl) (.slice A2 H.length a2)).put ⟨p, 3, none⟩ (.inl rfl) (.slice B2 G.length b2))
  have kt3 := ((((kt.put ⟨p, 0, none⟩ (.inl rfl) (.string nm)).put ⟨p, 1, none⟩ (.inl rfl) (.int .i64 bs)).put ⟨p, 2, none⟩ (.inl rfl) (.slice A2 H.length a2)).put ⟨p, 3, none⟩ (.inl rfl) (.slice B2 G.length b2))
  simp only [List.set_cons_succ, List.set_cons_zero] at P3
  generalize (((w2.setCell ⟨p, 0, none⟩ (.string nm)).setCell ⟨p, 1, none⟩ (.int .i64 bs)).setCell ⟨p, 2, none⟩ (.slice A2 H.length a2)).setCell ⟨p, 3, none⟩ (.slice B2 G.length b2) = w3 at P3 O3 oS3 oG3 hb3 kp3 kt3 ⊢
  clear P O K oS oG hb nS nG
  have hz3 := O3.lt
  obtain ⟨⟨on, ob, oH, oG⟩, N, rn, cd⟩ := R
  have PB2 := PB1.out w3 A2 a2 B2 b2 kt3 ⟨P3, oS3, oG3⟩
  clear PB1
  go_wp2_with (fail)
  refine PB2.mono ?_
  rintro e w4 ⟨hb4, hkp, rfl, hpost⟩
  have O4 := hkp _ _ (Nat.ne_of_gt (Nat.lt_of_lt_of_le hplt (Nat.le_succ _))) O3
  have hb5 := hb3.trans hb4
  replace kp := kp3.then hkp
  clear kp3 kt3 kt PB2 P3 O3 oS3 oG3 hb3 hb4 hkp
  simp only at hpost
  rcases hpost with ⟨hcd, hil⟩ | ⟨hcd, A9, a9, B9, b9, T9, x9, P4, sA, sB, sT, hap, cA, cB⟩
  · have HR : Hid (rr = ill cd) := Lib.hid (by rw [HR1.out, hil])
    clear HR1 hil
    have hd : (cd != 0) = true := by simpa using hcd
    have O := O4
    have hb := hb5
    have qc0 := O.cell (i := 0) rfl
    have qf0 := O.froz 0
    have qc1 := O.cell (i := 1) rfl
    have qf1 := O.froz 1
    have qc2 := O.cell (i := 2) rfl
    have qf2 := O.froz 2
    have qc3 := O.cell (i := 3) rfl
    have qf3 := O.froz 3
    have qc4 := O.cell (i := 4) rfl
    have qf4 := O.froz 4
    have qc5 := O.cell (i := 5) rfl
    have qf5 := O.froz 5
    have qc6 := O.cell (i := 6) rfl
    have qf6 := O.froz 6
    go_wp2
    clear qc0 qf0 qc1 qf1 qc2 qf2 qc3 qf3 qc4 qf4 qc5 qf5 qc6 qf6
    have O9 := (((((((O.put 0 (.string ⟨#[]⟩)).put 1 (.int .i64 0)).put 2 (.slice none 0 0)).put 3 (.slice none 0 0)).put 4 (.slice none 0 0)).put 5 (.int .i64 0)).put 6 (.int .i64 cd))
    have hb9 := (((((((hb.setCell (p := ⟨w.heap.size + 1, 0, none⟩) (by simp <;> omega) (.string ⟨#[]⟩)).setCell (p := ⟨w.heap.size + 1, 1, none⟩) (by simp <;> omega) (.int .i64 0)).setCell (p := ⟨w.heap.size + 1, 2, none⟩) (by simp <;> omega) (.slice none 0 0)).setCell (p := ⟨w.heap.size + 1, 3, none⟩) (by simp <;> omega) (.slice none 0 0)).setCell (p := ⟨w.heap.size + 1, 4, none⟩) (by simp <;> omega) (.slice none 0 0)).setCell (p := ⟨w.heap.size + 1, 5, none⟩) (by simp <;> omega) (.int .i64 0)).setCell (p := ⟨w.heap.size + 1, 6, none⟩) (by simp <;> omega) (.int .i64 cd))
    have kp9 := (((((((kp.put ⟨w.heap.size + 1, 0, none⟩ (.inr (by simp)) (.string ⟨#[]⟩)).put ⟨w.heap.size + 1, 1, none⟩ (.inr (by simp)) (.int .i64 0)).put ⟨w.heap.size + 1, 2, none⟩ (.inr (by simp)) (.slice none 0 0)).put ⟨w.heap.size + 1, 3, none⟩ (.inr (by simp)) (.slice none 0 0)).put ⟨w.heap.size + 1, 4, none⟩ (.inr (by simp)) (.slice none 0 0)).put ⟨w.heap.size + 1, 5, none⟩ (.inr (by simp)) (.int .i64 0)).put ⟨w.heap.size + 1, 6, none⟩ (.inr (by simp)) (.int .i64 cd))
    simp only [List.set_cons_succ, List.set_cons_zero] at O9
    generalize ((((((w4.setCell ⟨w.heap.size + 1, 0, none⟩ (.string ⟨#[]⟩)).setCell ⟨w.heap.size + 1, 1, none⟩ (.int .i64 0)).setCell ⟨w.heap.size + 1, 2, none⟩ (.slice none 0 0)).setCell ⟨w.heap.size + 1, 3, none⟩ (.slice none 0 0)).setCell ⟨w.heap.size + 1, 4, none⟩ (.slice none 0 0)).setCell ⟨w.heap.size + 1, 5, none⟩ (.int .i64 0)).setCell ⟨w.heap.size + 1, 6, none⟩ (.int .i64 cd) = w9 at O9 hb9 kp9  ⊢
    have oc0 := O9.cell (i := 0) rfl
    have oc1 := O9.cell (i := 1) rfl
    have oc2 := O9.cell (i := 2) rfl
    have oc3 := O9.cell (i := 3) rfl
    have oc4 := O9.cell (i := 4) rfl
    have oc5 := O9.cell (i := 5) rfl
    have oc6 := O9.cell (i := 6) rfl
    exact bodyPost_ret (v := .agg #[.string ⟨#[]⟩, .int .i64 0, .slice none 0 0, .slice none 0 0, .slice none 0 0, .int .i64 0, .int .i64 cd]) (by simp [results, Try.results48, go_sem, oc0, oc1, oc2, oc3, oc4, oc5, oc6]) rfl (⟨by rw [HR.out]; exact RunO.ill hb9, kp9⟩)
  subst hcd
  have HR : Hid (rr = ⟨⟨on, ob, oH, oG⟩, N, rn, 0⟩) := HR1
  clear HR1
  replace O4 : Blk w4 (w.heap.size + 1) 36 _ := O4
  go_wp2_with (fail)
  obtain ⟨I, fw, hI, g5', h6, g6', g7'⟩ := class_grown w4
  have bb0 := fun q => kept_cell (h6 q) (P4.cell (i := 0) rfl)
  have bb1 := fun q => kept_cell (h6 q) (P4.cell (i := 1) rfl)
  have bb2 := fun q => kept_cell (h6 q) (P4.cell (i := 2) rfl)
  have bb3 := fun q => kept_cell (h6 q) (P4.cell (i := 3) rfl)
  have bb6 := fun q => kept_cell (h6 q) (P4.cell (i := 6) rfl)
  have bb7 := fun q => kept_cell (h6 q) (P4.cell (i := 7) rfl)
  have G7 := Lib.hid g7'
  clear h6 g7' g6'
  refine wp_region_class_tail (C := fun w' => ∃ q, w' = fw q) 13 (by kernel_rfl) (by kernel_rfl) g5' ?_
  simp only [List.take_succ_cons, List.take_zero, List.drop_succ_cons, List.drop_zero]
  repeat (first
    | go_big_quiet_skip
    | (go_big_quiet_want; go_big_quiet_op; go_big_quiet_on))
  refine wpQuiet_nil ?_
  intro w6 h6
  have hb67 := G7.out _ h6
  have hb := hb5.trans (hb67.mono (Nat.le_trans (Nat.le_trans hlow (Nat.le_of_lt (Nat.lt_of_succ_lt O4.lt))) (Nat.le_refl _)))
  have O := O4.below hb67 O4.lt
  replace kp := kp.below hb67
  replace sA := sA.below hb67
  replace sB := sB.below hb67
  replace sT := sT.below hb67
  have hz46 := hb67.size
  clear bb0 bb1 bb2 bb3 bb6 bb7 g5' h6 P4 hb67 O4 hb5
  have qc0 := O.cell (i := 0) rfl
  have qf0 := O.froz 0
  have qc1 := O.cell (i := 1) rfl
  have qf1 := O.froz 1
  have qc2 := O.cell (i := 2) rfl
  have qf2 := O.froz 2
  have qc3 := O.cell (i := 3) rfl
  have qf3 := O.froz 3
  have qc4 := O.cell (i := 4) rfl
  have qf4 := O.froz 4
  have qc5 := O.cell (i := 5) rfl
  have qf5 := O.froz 5
  have qc6 := O.cell (i := 6) rfl
  have qf6 := O.froz 6
  go_wp2
  clear qc0 qf0 qc1 qf1 qc2 qf2 qc3 qf3 qc4 qf4 qc5 qf5 qc6 qf6
  have hsz : w4.heap.size ≤ (((((((w6.setCell ⟨w.heap.size + 1, 0, none⟩ (.string on)).setCell ⟨w.heap.size + 1, 1, none⟩ (.int .i64 ob)).setCell ⟨w.heap.size + 1, 2, none⟩ (.slice A9 oH.length a9)).setCell ⟨w.heap.size + 1, 3, none⟩ (.slice B9 oG.length b9)).setCell ⟨w.heap.size + 1, 4, none⟩ (.slice T9 N.length x9)).setCell ⟨w.heap.size + 1, 5, none⟩ (.int .i64 rn)).setCell ⟨w.heap.size + 1, 6, none⟩ (.int .i64 0)).heap.size := by simpa [World.setCell] using hz46
  have rA := (((((((sA.off O (by decide) 0 (.string on)).off (O.put 0 (.string on)) (by decide) 1 (.int .i64 ob)).off ((O.put 0 (.string on)).put 1 (.int .i64 ob)) (by decide) 2 (.slice A9 oH.length a9)).off (((O.put 0 (.string on)).put 1 (.int .i64 ob)).put 2 (.slice A9 oH.length a9)) (by decide) 3 (.slice B9 oG.length b9)).off ((((O.put 0 (.string on)).put 1 (.int .i64 ob)).put 2 (.slice A9 oH.length a9)).put 3 (.slice B9 oG.length b9)) (by decide) 4 (.slice T9 N.length x9)).off (((((O.put 0 (.string on)).put 1 (.int .i64 ob)).put 2 (.slice A9 oH.length a9)).put 3 (.slice B9 oG.length b9)).put 4 (.slice T9 N.length x9)) (by decide) 5 (.int .i64 rn)).off ((((((O.put 0 (.string on)).put 1 (.int .i64 ob)).put 2 (.slice A9 oH.length a9)).put 3 (.slice B9 oG.length b9)).put 4 (.slice T9 N.length x9)).put 5 (.int .i64 rn)) (by decide) 6 (.int .i64 0))
  have rB := (((((((sB.off O (by decide) 0 (.string on)).off (O.put 0 (.string on)) (by decide) 1 (.int .i64 ob)).off ((O.put 0 (.string on)).put 1 (.int .i64 ob)) (by decide) 2 (.slice A9 oH.length a9)).off (((O.put 0 (.string on)).put 1 (.int .i64 ob)).put 2 (.slice A9 oH.length a9)) (by decide) 3 (.slice B9 oG.length b9)).off ((((O.put 0 (.string on)).put 1 (.int .i64 ob)).put 2 (.slice A9 oH.length a9)).put 3 (.slice B9 oG.length b9)) (by decide) 4 (.slice T9 N.length x9)).off (((((O.put 0 (.string on)).put 1 (.int .i64 ob)).put 2 (.slice A9 oH.length a9)).put 3 (.slice B9 oG.length b9)).put 4 (.slice T9 N.length x9)) (by decide) 5 (.int .i64 rn)).off ((((((O.put 0 (.string on)).put 1 (.int .i64 ob)).put 2 (.slice A9 oH.length a9)).put 3 (.slice B9 oG.length b9)).put 4 (.slice T9 N.length x9)).put 5 (.int .i64 rn)) (by decide) 6 (.int .i64 0))
  have rT := (((((((sT.off O (by decide) 0 (.string on)).off (O.put 0 (.string on)) (by decide) 1 (.int .i64 ob)).off ((O.put 0 (.string on)).put 1 (.int .i64 ob)) (by decide) 2 (.slice A9 oH.length a9)).off (((O.put 0 (.string on)).put 1 (.int .i64 ob)).put 2 (.slice A9 oH.length a9)) (by decide) 3 (.slice B9 oG.length b9)).off ((((O.put 0 (.string on)).put 1 (.int .i64 ob)).put 2 (.slice A9 oH.length a9)).put 3 (.slice B9 oG.length b9)) (by decide) 4 (.slice T9 N.length x9)).off (((((O.put 0 (.string on)).put 1 (.int .i64 ob)).put 2 (.slice A9 oH.length a9)).put 3 (.slice B9 oG.length b9)).put 4 (.slice T9 N.length x9)) (by decide) 5 (.int .i64 rn)).off ((((((O.put 0 (.string on)).put 1 (.int .i64 ob)).put 2 (.slice A9 oH.length a9)).put 3 (.slice B9 oG.length b9)).put 4 (.slice T9 N.length x9)).put 5 (.int .i64 rn)) (by decide) 6 (.int .i64 0))
  have O9 := (((((((O.put 0 (.string on)).put 1 (.int .i64 ob)).put 2 (.slice A9 oH.length a9)).put 3 (.slice B9 oG.length b9)).put 4 (.slice T9 N.length x9)).put 5 (.int .i64 rn)).put 6 (.int .i64 0))
  have hb9 := (((((((hb.setCell (p := ⟨w.heap.size + 1, 0, none⟩) (by simp <;> omega) (.string on)).setCell (p := ⟨w.heap.size + 1, 1, none⟩) (by simp <;> omega) (.int .i64 ob)).setCell (p := ⟨w.heap.size + 1, 2, none⟩) (by simp <;> omega) (.slice A9 oH.length a9)).setCell (p := ⟨w.heap.size + 1, 3, none⟩) (by simp <;> omega) (.slice B9 oG.length b9)).setCell (p := ⟨w.heap.size + 1, 4, none⟩) (by simp <;> omega) (.slice T9 N.length x9)).setCell (p := ⟨w.heap.size + 1, 5, none⟩) (by simp <;> omega) (.int .i64 rn)).setCell (p := ⟨w.heap.size + 1, 6, none⟩) (by simp <;> omega) (.int .i64 0))
  have kp9 := (((((((kp.put ⟨w.heap.size + 1, 0, none⟩ (.inr (by simp)) (.string on)).put ⟨w.heap.size + 1, 1, none⟩ (.inr (by simp)) (.int .i64 ob)).put ⟨w.heap.size + 1, 2, none⟩ (.inr (by simp)) (.slice A9 oH.length a9)).put ⟨w.heap.size + 1, 3, none⟩ (.inr (by simp)) (.slice B9 oG.length b9)).put ⟨w.heap.size + 1, 4, none⟩ (.inr (by simp)) (.slice T9 N.length x9)).put ⟨w.heap.size + 1, 5, none⟩ (.inr (by simp)) (.int .i64 rn)).put ⟨w.heap.size + 1, 6, none⟩ (.inr (by simp)) (.int .i64 0))
  simp only [List.set_cons_succ, List.set_cons_zero] at O9
  generalize ((((((w6.setCell ⟨w.heap.size + 1, 0, none⟩ (.string on)).setCell ⟨w.heap.size + 1, 1, none⟩ (.int .i64 ob)).setCell ⟨w.heap.size + 1, 2, none⟩ (.slice A9 oH.length a9)).setCell ⟨w.heap.size + 1, 3, none⟩ (.slice B9 oG.length b9)).setCell ⟨w.heap.size + 1, 4, none⟩ (.slice T9 N.length x9)).setCell ⟨w.heap.size + 1, 5, none⟩ (.int .i64 rn)).setCell ⟨w.heap.size + 1, 6, none⟩ (.int .i64 0) = w9 at O9 hb9 kp9 hsz rA rB rT  ⊢
  have oc0 := O9.cell (i := 0) rfl
  have oc1 := O9.cell (i := 1) rfl
  have oc2 := O9.cell (i := 2) rfl
  have oc3 := O9.cell (i := 3) rfl
  have oc4 := O9.cell (i := 4) rfl
  have oc5 := O9.cell (i := 5) rfl
  have oc6 := O9.cell (i := 6) rfl
  exact bodyPost_ret (v := .agg #[.string on, .int .i64 ob, .slice A9 oH.length a9, .slice B9 oG.length b9, .slice T9 N.length x9, .int .i64 rn, .int .i64 0]) (by simp [results, Try.results48, go_sem, oc0, oc1, oc2, oc3, oc4, oc5, oc6]) rfl (⟨run_out HR.out hsz rA rB rT hap cA cB hb9, kp9⟩)
end Go.Proofs.Ytodnmbppgjbpmaa

namespace Go.Proofs.Ytodnmbppgjbpmaa
open Go.RowKit Go.Deep
set_option linter.unusedVariables false
set_option maxRecDepth 1000000
theorem retT_of (t : Tpc) (keep : Int) : retT t keep = runR t (inB keep 0 20) (retA t (goneN t keep)) := rfl
theorem ret_small (t : Tpc) (keep : Int) : (retT t keep).o.held.length ≤ maxLen ∧ (retT t keep).o.groups.length ≤ maxLen ∧ (retT t keep).texts.length ≤ maxLen ∧ 1 + (retT t keep).o.held.length + 2 * (retT t keep).o.groups.length + (retT t keep).texts.length ≤ 3900001 := by
  unfold retT
  split
  · simp [ill, maxLen]
  · rename_i hb
    have ho := topB_iff.1 (by simp at hb; exact hb.1 : topB t = true)
    have h1 := ho.2.2.1
    have h2 := ho.2.2.2.2.1
    simp [maxLen]
    omega
set_option maxHeartbeats 8000000 in
theorem implTopicRetain_any (t : Tpc) (keep : Int) (A : Option Addr) (c : Nat) (B : Option Addr) (d : Nat) (w : World) (hf : t.fits) (hsm : t.small) (hk : (Lit.int .i64 keep).wf = true) (hA : Strs w w.heap.size A t.held) (hB : Grs w w.heap.size B t.groups) :
    Calls Try.prog 39 #[topV t.name t.base (.slice A t.held.length c) (.slice B t.groups.length d), .int .i64 keep] w fun e w' => ImO w w' e (retT t keep) := by
  obtain ⟨rm, HM⟩ : ∃ x, Hid (inB keep 0 20 = x) := ⟨_, Lib.hid rfl⟩
  have TX := inRange_any HM.out
  have HS : Hid (retT t keep = runR t rm (retA t (goneN t keep))) := Lib.hid (by rw [← HM.out]; exact retT_of t keep)
  have RN := Lib.hid (fun W p (h : Below w.heap.size w W) (hp : w.heap.size ≤ p) P => runRet_any t ⟨#[]⟩ keep rm (retA t (goneN t keep)) w.heap.size p A c B d W hf hsm (hA.on h) (hB.on h) hp (fun W A2 a2 B2 b2 _ ho hr hw => retain_any t ⟨#[]⟩ keep w.heap.size p A2 a2 B2 b2 W hw hp hf.2.2.2 ho.2.2.1 ho.2.2.2.2.1 (inB_true ho.2.1).1 ho.2.2.2.2.2.1 (inB_true (HM.out.trans hr)).1 (inB_true (HM.out.trans hr)).2) P)
  obtain ⟨R, HR0⟩ : ∃ x, Hid (retT t keep = x) := ⟨_, Lib.hid rfl⟩
  rw [HR0.out] at HS ⊢
  have HR := HS
  clear HS
  have hkb := wf_i64 hk
  obtain ⟨nm, bs, H, G⟩ := t
  simp only at RN hA hB ⊢
  have K := (Blk.fresh w 32 [.string nm, .int .i64 bs, .slice A H.length c, .slice B G.length d]).alloc (.cells #[.string ⟨#[]⟩, .int .i64 0, .slice none 0 0, .slice none 0 0, .slice none 0 0, .int .i64 0, .int .i64 0] 36)
  have O := Blk.fresh (w.alloc (.cells #[.string nm, .int .i64 bs, .slice A H.length c, .slice B G.length d] 32)) 36 [.string ⟨#[]⟩, .int .i64 0, .slice none 0 0, .slice none 0 0, .slice none 0 0, .int .i64 0, .int .i64 0]
  have hb : Below w.heap.size w ((w.alloc (.cells #[.string nm, .int .i64 bs, .slice A H.length c, .slice B G.length d] 32)).alloc (.cells #[.string ⟨#[]⟩, .int .i64 0, .slice none 0 0, .slice none 0 0, .slice none 0 0, .int .i64 0, .int .i64 0] 36)) := ((Below.refl _ _).alloc (Nat.le_refl _) _).alloc (by simp) _
  simp only [World.size_alloc] at K O
  replace K : Blk ((w.alloc (.cells #[.string nm, .int .i64 bs, .slice A H.length c, .slice B G.length d] 32)).alloc (.cells #[.string ⟨#[]⟩, .int .i64 0, .slice none 0 0, .slice none 0 0, .slice none 0 0, .int .i64 0, .int .i64 0] 36)) w.heap.size 32 [.string nm, .int .i64 bs, .slice A H.length c, .slice B G.length d] := K
  replace O : Blk ((w.alloc (.cells #[.string nm, .int .i64 bs, .slice A H.length c, .slice B G.length d] 32)).alloc (.cells #[.string ⟨#[]⟩, .int .i64 0, .slice none 0 0, .slice none 0 0, .slice none 0 0, .int .i64 0, .int .i64 0] 36)) (w.heap.size + 1) 36 [.string ⟨#[]⟩, .int .i64 0, .slice none 0 0, .slice none 0 0, .slice none 0 0, .int .i64 0, .int .i64 0] := O
  go_enter Try.func39, Try.ntmps39
  go_wp2_with (fail)
  have hz1 : ((w.alloc (.cells #[.string nm, .int .i64 bs, .slice A H.length c, .slice B G.length d] 32)).alloc (.cells #[.string ⟨#[]⟩, .int .i64 0, .slice none 0 0, .slice none 0 0, .slice none 0 0, .int .i64 0, .int .i64 0] 36)).heap.size = w.heap.size + 1 + 1 := by simp
  generalize (w.alloc (.cells #[.string nm, .int .i64 bs, .slice A H.length c, .slice B G.length d] 32)).alloc (.cells #[.string ⟨#[]⟩, .int .i64 0, .slice none 0 0, .slice none 0 0, .slice none 0 0, .int .i64 0, .int .i64 0] 36) = w1 at K O hb hz1 ⊢
  have hK := K.alloc (.cells #[.string ⟨#[]⟩, .int .i64 0, .slice none 0 0, .slice none 0 0, .string ⟨#[]⟩, .int .i64 keep, .slice none 0 0, .int .i64 0] 61)
  have hO := O.alloc (.cells #[.string ⟨#[]⟩, .int .i64 0, .slice none 0 0, .slice none 0 0, .string ⟨#[]⟩, .int .i64 keep, .slice none 0 0, .int .i64 0] 61)
  have hP := Blk.fresh w1 61 [.string ⟨#[]⟩, .int .i64 0, .slice none 0 0, .slice none 0 0, .string ⟨#[]⟩, .int .i64 keep, .slice none 0 0, .int .i64 0]
  rw [hz1] at hP
  clear hz1
  have hb2 := hb.alloc hb.size (.cells #[.string ⟨#[]⟩, .int .i64 0, .slice none 0 0, .slice none 0 0, .string ⟨#[]⟩, .int .i64 keep, .slice none 0 0, .int .i64 0] 61)
  generalize w1.alloc (.cells #[.string ⟨#[]⟩, .int .i64 0, .slice none 0 0, .slice none 0 0, .string ⟨#[]⟩, .int .i64 keep, .slice none 0 0, .int .i64 0] 61) = w2 at hK hO hP hb2 ⊢
  clear K O hb
  have TXb := Lib.hid (fun W => bl (TX W))
  clear TX
  obtain ⟨I, fw, hI, g5', h6, g6', g7'⟩ := class_grown w2
  have kk0 := fun q => kept_cell (h6 q) (hK.cell (i := 0) rfl)
  have kk1 := fun q => kept_cell (h6 q) (hK.cell (i := 1) rfl)
  have kk2 := fun q => kept_cell (h6 q) (hK.cell (i := 2) rfl)
  have kk3 := fun q => kept_cell (h6 q) (hK.cell (i := 3) rfl)
  have G7 := Lib.hid g7'
  have G6 := Lib.hid g6'
  clear h6 g7' g6'
  refine wp_region_class_tail (C := fun w' => ∃ q, w' = fw q) 4 (by kernel_rfl) (by kernel_rfl) g5' ?_
  simp only [List.take_succ_cons, List.take_zero, List.drop_succ_cons, List.drop_zero]
  repeat (first
    | go_big_quiet_skip
    | (go_big_quiet_want; go_big_quiet_op; first | go_big_quiet_on | (apply Exists.intro; refine ⟨fun q => ?_, ?_⟩; (go_at_call 58; (with_reducible refine (TXb.out _).mono ?_); rintro e w9 ⟨rfl, hb9'⟩; exact ⟨rfl, G6.out _ _ hb9'⟩); go_big_quiet_on)))
  refine wpQuiet_nil ?_
  intro w5 h5
  have hb5 := G7.out _ h5
  have hP5 := hP.below hb5 hP.lt
  have hO5 := hO.below hb5 hO.lt
  have hw5 := hb2.trans (hb5.mono hb2.size)
  clear kk0 kk1 kk2 kk3 g5' h5 hK hP hO hb5
  have RN5 := RN.out w5 (w.heap.size + 1 + 1) hw5 (by omega) hP5
  rw [← HR.out] at RN5
  obtain ⟨⟨on, ob, oH, oG⟩, N, n, co⟩ := R
  clear RN HR
  go_wp2_with (fail)
  refine RN5.mono ?_
  rintro e w6 ⟨⟨A1, a1, B1, b1, T1, x1, rfl, sA, sB, sT, hap, cA, cB, hb6⟩, kp⟩
  simp only at sA sB sT cA cB
  have O := kp _ _ (by omega) hO5
  have hb := hw5.trans hb6
  clear RN5 kp hO5 hP5 hw5 hb6 hb2
  have qc0 := O.cell (i := 0) rfl
  have qf0 := O.froz 0
  have qc1 := O.cell (i := 1) rfl
  have qf1 := O.froz 1
  have qc2 := O.cell (i := 2) rfl
  have qf2 := O.froz 2
  have qc3 := O.cell (i := 3) rfl
  have qf3 := O.froz 3
  have qc4 := O.cell (i := 4) rfl
  have qf4 := O.froz 4
  have qc5 := O.cell (i := 5) rfl
  have qf5 := O.froz 5
  have qc6 := O.cell (i := 6) rfl
  have qf6 := O.froz 6
  go_wp2
  clear qc0 qf0 qc1 qf1 qc2 qf2 qc3 qf3 qc4 qf4 qc5 qf5 qc6 qf6
  have hsz : (((((((w6.setCell ⟨w.heap.size + 1, 0, none⟩ (.string on)).setCell ⟨w.heap.size + 1, 1, none⟩ (.int .i64 ob)).setCell ⟨w.heap.size + 1, 2, none⟩ (.slice A1 oH.length a1)).setCell ⟨w.heap.size + 1, 3, none⟩ (.slice B1 oG.length b1)).setCell ⟨w.heap.size + 1, 4, none⟩ (.slice T1 N.length x1)).setCell ⟨w.heap.size + 1, 5, none⟩ (.int .i64 n)).setCell ⟨w.heap.size + 1, 6, none⟩ (.int .i64 co)).heap.size = w6.heap.size := by simp [World.setCell]
  have rA := (((((((sA.off O (by decide) 0 (.string on)).off (O.put 0 (.string on)) (by decide) 1 (.int .i64 ob)).off ((O.put 0 (.string on)).put 1 (.int .i64 ob)) (by decide) 2 (.slice A1 oH.length a1)).off (((O.put 0 (.string on)).put 1 (.int .i64 ob)).put 2 (.slice A1 oH.length a1)) (by decide) 3 (.slice B1 oG.length b1)).off ((((O.put 0 (.string on)).put 1 (.int .i64 ob)).put 2 (.slice A1 oH.length a1)).put 3 (.slice B1 oG.length b1)) (by decide) 4 (.slice T1 N.length x1)).off (((((O.put 0 (.string on)).put 1 (.int .i64 ob)).put 2 (.slice A1 oH.length a1)).put 3 (.slice B1 oG.length b1)).put 4 (.slice T1 N.length x1)) (by decide) 5 (.int .i64 n)).off ((((((O.put 0 (.string on)).put 1 (.int .i64 ob)).put 2 (.slice A1 oH.length a1)).put 3 (.slice B1 oG.length b1)).put 4 (.slice T1 N.length x1)).put 5 (.int .i64 n)) (by decide) 6 (.int .i64 co))
  have rB := (((((((sB.off O (by decide) 0 (.string on)).off (O.put 0 (.string on)) (by decide) 1 (.int .i64 ob)).off ((O.put 0 (.string on)).put 1 (.int .i64 ob)) (by decide) 2 (.slice A1 oH.length a1)).off (((O.put 0 (.string on)).put 1 (.int .i64 ob)).put 2 (.slice A1 oH.length a1)) (by decide) 3 (.slice B1 oG.length b1)).off ((((O.put 0 (.string on)).put 1 (.int .i64 ob)).put 2 (.slice A1 oH.length a1)).put 3 (.slice B1 oG.length b1)) (by decide) 4 (.slice T1 N.length x1)).off (((((O.put 0 (.string on)).put 1 (.int .i64 ob)).put 2 (.slice A1 oH.length a1)).put 3 (.slice B1 oG.length b1)).put 4 (.slice T1 N.length x1)) (by decide) 5 (.int .i64 n)).off ((((((O.put 0 (.string on)).put 1 (.int .i64 ob)).put 2 (.slice A1 oH.length a1)).put 3 (.slice B1 oG.length b1)).put 4 (.slice T1 N.length x1)).put 5 (.int .i64 n)) (by decide) 6 (.int .i64 co))
  have rT := (((((((sT.off O (by decide) 0 (.string on)).off (O.put 0 (.string on)) (by decide) 1 (.int .i64 ob)).off ((O.put 0 (.string on)).put 1 (.int .i64 ob)) (by decide) 2 (.slice A1 oH.length a1)).off (((O.put 0 (.string on)).put 1 (.int .i64 ob)).put 2 (.slice A1 oH.length a1)) (by decide) 3 (.slice B1 oG.length b1)).off ((((O.put 0 (.string on)).put 1 (.int .i64 ob)).put 2 (.slice A1 oH.length a1)).put 3 (.slice B1 oG.length b1)) (by decide) 4 (.slice T1 N.length x1)).off (((((O.put 0 (.string on)).put 1 (.int .i64 ob)).put 2 (.slice A1 oH.length a1)).put 3 (.slice B1 oG.length b1)).put 4 (.slice T1 N.length x1)) (by decide) 5 (.int .i64 n)).off ((((((O.put 0 (.string on)).put 1 (.int .i64 ob)).put 2 (.slice A1 oH.length a1)).put 3 (.slice B1 oG.length b1)).put 4 (.slice T1 N.length x1)).put 5 (.int .i64 n)) (by decide) 6 (.int .i64 co))
  have O9 := (((((((O.put 0 (.string on)).put 1 (.int .i64 ob)).put 2 (.slice A1 oH.length a1)).put 3 (.slice B1 oG.length b1)).put 4 (.slice T1 N.length x1)).put 5 (.int .i64 n)).put 6 (.int .i64 co))
  have hb9 := (((((((hb.setCell (p := ⟨w.heap.size + 1, 0, none⟩) (by simp <;> omega) (.string on)).setCell (p := ⟨w.heap.size + 1, 1, none⟩) (by simp <;> omega) (.int .i64 ob)).setCell (p := ⟨w.heap.size + 1, 2, none⟩) (by simp <;> omega) (.slice A1 oH.length a1)).setCell (p := ⟨w.heap.size + 1, 3, none⟩) (by simp <;> omega) (.slice B1 oG.length b1)).setCell (p := ⟨w.heap.size + 1, 4, none⟩) (by simp <;> omega) (.slice T1 N.length x1)).setCell (p := ⟨w.heap.size + 1, 5, none⟩) (by simp <;> omega) (.int .i64 n)).setCell (p := ⟨w.heap.size + 1, 6, none⟩) (by simp <;> omega) (.int .i64 co))
  simp only [List.set_cons_succ, List.set_cons_zero] at O9
  generalize ((((((w6.setCell ⟨w.heap.size + 1, 0, none⟩ (.string on)).setCell ⟨w.heap.size + 1, 1, none⟩ (.int .i64 ob)).setCell ⟨w.heap.size + 1, 2, none⟩ (.slice A1 oH.length a1)).setCell ⟨w.heap.size + 1, 3, none⟩ (.slice B1 oG.length b1)).setCell ⟨w.heap.size + 1, 4, none⟩ (.slice T1 N.length x1)).setCell ⟨w.heap.size + 1, 5, none⟩ (.int .i64 n)).setCell ⟨w.heap.size + 1, 6, none⟩ (.int .i64 co) = w9 at O9 hb9 hsz rA rB rT  ⊢
  have oc0 := O9.cell (i := 0) rfl
  have oc1 := O9.cell (i := 1) rfl
  have oc2 := O9.cell (i := 2) rfl
  have oc3 := O9.cell (i := 3) rfl
  have oc4 := O9.cell (i := 4) rfl
  have oc5 := O9.cell (i := 5) rfl
  have oc6 := O9.cell (i := 6) rfl
  exact bodyPost_ret (v := .agg #[.string on, .int .i64 ob, .slice A1 oH.length a1, .slice B1 oG.length b1, .slice T1 N.length x1, .int .i64 n, .int .i64 co]) (by simp [results, Try.results39, go_sem, oc0, oc1, oc2, oc3, oc4, oc5, oc6]) rfl (pub_out hsz rA rB rT hap cA cB hb9)
/-- The two answer alike. -/
theorem bothTopicRetain (t : Tpc) (keep : Int) (hf : t.fits) (hS : t.small) (hk : (Lit.int .i64 keep).wf = true) :
    ∃ (o : Tpc) (N : List ByteArray) (n co : Int), o.held.length ≤ maxLen ∧ o.groups.length ≤ maxLen ∧ N.length ≤ maxLen ∧ 1 + o.held.length + 2 * o.groups.length + N.length ≤ 3900001 ∧
      (∀ A c B d w, Strs w w.heap.size A t.held → Grs w w.heap.size B t.groups → Cap A t.held.length c → Cap B t.groups.length d → Calls Try.prog 40 #[topV t.name t.base (.slice A t.held.length c) (.slice B t.groups.length d), .int .i64 keep] w fun e w' => SpO w w' e ⟨o, N, n, co⟩) ∧
      (∀ A c B d w, Strs w w.heap.size A t.held → Grs w w.heap.size B t.groups → Cap A t.held.length c → Cap B t.groups.length d → Calls Try.prog 39 #[topV t.name t.base (.slice A t.held.length c) (.slice B t.groups.length d), .int .i64 keep] w fun e w' => ImO w w' e ⟨o, N, n, co⟩) :=
  ⟨(retT t keep).o, (retT t keep).texts, (retT t keep).n, (retT t keep).code, (ret_small t keep).1, (ret_small t keep).2.1, (ret_small t keep).2.2.1, (ret_small t keep).2.2.2, fun A c B d w h1 h2 h3 h4 => specTopicRetain_any t keep A c B d w hf hk h1 h2 h3 h4, fun A c B d w h1 h2 _ _ => implTopicRetain_any t keep A c B d w hf hS hk h1 h2⟩
end Go.Proofs.Ytodnmbppgjbpmaa
