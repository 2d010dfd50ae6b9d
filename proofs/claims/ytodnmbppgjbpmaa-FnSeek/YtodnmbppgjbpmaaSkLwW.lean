/- The walk of the law FnSeek. -/
import Derived.Test.YtodnmbppgjbpmaaTpRunFW
import Derived.Test.YtodnmbppgjbpmaaTpEndW
import Derived.Test.YtodnmbppgjbpmaaTpFetMW
import Derived.Test.YtodnmbppgjbpmaaTpAckW
import Derived.BigQuiet
import Derived.Deep.RegionLaw
import Derived.Deep.DeepCutAuto
namespace Go.Proofs.Ytodnmbppgjbpmaa
open Go.RowKit
set_option linter.unusedVariables false
set_option linter.unusedSimpArgs false
set_option maxRecDepth 1000000

theorem illF (c : Int) : (ill c).o.fits := ⟨by show (0 : Nat) ≤ maxLen; unfold maxLen; omega, ⟨by show (-9223372036854775808 : Int) ≤ 0; omega, by show (0 : Int) ≤ 9223372036854775807; omega⟩, (fun s h => by cases h), fun g h => by cases h⟩
theorem set_fits (t : Tpc) (g : ByteArray) (n : Int) (b : Bool) : (setT t g n b).o.fits := by
  by_cases h0 : (setT t g n b).code = 0
  · exact (set_ok h0).2.2.2.2.2.2.facts.1
  · by_cases hb : begC t g true = 0
    · rw [setT_ok hb] at h0 ⊢
      rcases Bool.eq_false_or_eq_true (inB n (if b = true then t.base else ((hasG t g).getD (posG t.groups g) zeroGrp).acked) (t.base + t.held.length)) with hr | hr
      · rw [hr] at h0; exact absurd rfl h0
      · rw [hr]; exact illF 8
    · rw [setT_ill hb]; exact illF _
theorem fldN (n : ByteArray) (b : Int) (h g t : Value) (m co : Int) (w : World) : (Instr.field 36 (outV n b h g t m co) 2).run Try.prog w = .ok (.int .i64 m) w := by kernel_rfl
theorem fldC (n : ByteArray) (b : Int) (h g t : Value) (m co : Int) (w : World) : (Instr.field 36 (outV n b h g t m co) 3).run Try.prog w = .ok (.int .i64 co) w := by kernel_rfl
theorem four_of {p : Nat} {t : Tpc} {A C : Option Addr} {a c : Nat} {W : World} (h : Blk W p 32 [.string t.name, .int .i64 t.base, .slice A t.held.length a, .slice C t.groups.length c]) : W.cell? ⟨p, 0, none⟩ = some (.string t.name) ∧ W.cell? ⟨p, 1, none⟩ = some (.int .i64 t.base) ∧ W.cell? ⟨p, 2, none⟩ = some (.slice A t.held.length a) ∧ W.cell? ⟨p, 3, none⟩ = some (.slice C t.groups.length c) :=
  ⟨h.cell (i := 0) rfl, h.cell (i := 1) rfl, h.cell (i := 2) rfl, h.cell (i := 3) rfl⟩
theorem seven_of {q : Nat} {R : Ans} {A5 C5 T5 : Option Addr} {a5 c5 x5 : Nat} {W : World} (g : Blk W q 36 [.string R.o.name, .int .i64 R.o.base, .slice A5 R.o.held.length a5, .slice C5 R.o.groups.length c5, .slice T5 R.texts.length x5, .int .i64 R.n, .int .i64 R.code]) : W.cell? ⟨q, 0, none⟩ = some (.string R.o.name) ∧ W.cell? ⟨q, 1, none⟩ = some (.int .i64 R.o.base) ∧ W.cell? ⟨q, 2, none⟩ = some (.slice A5 R.o.held.length a5) ∧ W.cell? ⟨q, 3, none⟩ = some (.slice C5 R.o.groups.length c5) ∧ W.cell? ⟨q, 4, none⟩ = some (.slice T5 R.texts.length x5) ∧ W.cell? ⟨q, 5, none⟩ = some (.int .i64 R.n) ∧ W.cell? ⟨q, 6, none⟩ = some (.int .i64 R.code) :=
  ⟨g.cell (i := 0) rfl, g.cell (i := 1) rfl, g.cell (i := 2) rfl, g.cell (i := 3) rfl, g.cell (i := 4) rfl, g.cell (i := 5) rfl, g.cell (i := 6) rfl⟩

set_option maxHeartbeats 32000000 in
theorem lawSeekIn (A1 A2 : Option Addr) (n1 n2 c1 c2 : Nat) (w : World) (h1 : Bts w w.heap.size A1 n1) (h2 : Bts w w.heap.size A2 n2) :
    Calls Try.prog 7 #[.slice A1 n1 c1, .slice A2 n2 c2] w fun e w' => e = .returned (.bool true) ∧ Below w.heap.size w w' := by
  have l1 := h1.1
  have l2 := h2.1
  have b1 : decide (1048576 < (n1 : Int)) = false := by simp; omega
  have b2 : decide (1048576 < (n2 : Int)) = false := by simp; omega
  go_enter Try.func7, Try.ntmps7
  go_wp2_with (fail)
  refine (drawTopicSeek_any A1 n1 c1 _ h1).mono ?_
  rintro e v1 ⟨t, A, a, C, c, s, n, rfl, ⟨hez, hrh, hrg, w1⟩, ks, kn⟩
  have HE1 := hrh.strs
  have HG1 := hrg.grs
  have cA := hrh.cap
  have cC := hrg.cap
  clear hrh hrg
  have P2 := Blk.fresh v1 32 [.string t.name, .int .i64 t.base, .slice A t.held.length a, .slice C t.groups.length c]
  have hb2 : Below v1.heap.size v1 (v1.alloc (.cells #[.string t.name, .int .i64 t.base, .slice A t.held.length a, .slice C t.groups.length c] 32)) := (Below.refl _ _).alloc (Nat.le_refl _) _
  simp only [List.toArray] at P2
  have q0 := P2.cell (i := 0) rfl
  have q1 := P2.cell (i := 1) rfl
  have q2 := P2.cell (i := 2) rfl
  have q3 := P2.cell (i := 3) rfl
  go_wp2_with (fail)
  clear q0 q1 q2 q3
  generalize v1.alloc (.cells #[.string t.name, .int .i64 t.base, .slice A t.held.length a, .slice C t.groups.length c] 32) = v2 at P2 hb2 ⊢
  have w2 := w1.trans (hb2.mono w1.size)
  have HE2 := HE1.on hb2
  have HG2 := HG1.on hb2
  generalize v1.heap.size = p at P2 hb2 ⊢
  clear HE1 HG1 hb2 w1
  have hsm : s.size ≤ maxLen := by unfold maxLen; omega
  have SR := Lib.hid (fun W (h : Below v2.heap.size v2 W) => specTopicSeek_any t s n A a C c W hez.1 hsm (HE2.on h) (HG2.on h) cA cC)
  have IR := Lib.hid (implTopicSeek_any t s n A a C c v2 hez.1 hez.2 hsm HE2 HG2)
  have HOK := Lib.hid (fun h0 => (set_ok (t := t) (gn := s) (n := n) (back := true) h0).2.2.2.2.2)
  have HSF := Lib.hid (fun h0 => seek_fetch (t := t) (g := s) (n := n) h0)
  obtain ⟨z1, z2, z3, z4⟩ := set_small t s n true
  have hof := set_fits t s n true
  obtain ⟨R, HR⟩ : ∃ R, Hid (setT t s n true = R) := ⟨_, Lib.hid rfl⟩
  rw [HR.out] at SR IR z1 z2 z3 z4 hof
  simp only [HR.out] at HOK HSF
  refine IR.out.mono ?_
  rintro e v3 ⟨A5, a5, C5, c5, T5, x5, rfl, sA, sB, sT, _, cA5, cC5, hb3⟩
  have HA5 := sA.strs z1
  have HC5 := sB.grs z2
  have HT5 := sT.strs z3
  have w3 := w2.trans (hb3.mono w2.size)
  have P3 := P2.below hb3 P2.lt
  clear IR sA sB sT z1 z2 z3 z4 P2 HR
  have X4 := Blk.fresh v3 36 [.string R.o.name, .int .i64 R.o.base, .slice A5 R.o.held.length a5, .slice C5 R.o.groups.length c5, .slice T5 R.texts.length x5, .int .i64 R.n, .int .i64 R.code]
  have hb4 : Below v3.heap.size v3 (v3.alloc (.cells #[.string R.o.name, .int .i64 R.o.base, .slice A5 R.o.held.length a5, .slice C5 R.o.groups.length c5, .slice T5 R.texts.length x5, .int .i64 R.n, .int .i64 R.code] 36)) := (Below.refl _ _).alloc (Nat.le_refl _) _
  simp only [List.toArray] at X4
  go_wp2_with (fail)
  generalize v3.alloc (.cells #[.string R.o.name, .int .i64 R.o.base, .slice A5 R.o.held.length a5, .slice C5 R.o.groups.length c5, .slice T5 R.texts.length x5, .int .i64 R.n, .int .i64 R.code] 36) = v4 at X4 hb4 ⊢
  generalize v3.heap.size = q at X4 ⊢
  have w4 := w3.trans (hb4.mono w3.size)
  have P4 := P3.below hb4 P3.lt
  have B34 := hb3.trans (hb4.mono hb3.size)
  have A4 := HA5.on hb4
  have G4 := HC5.on hb4
  have T4 := HT5.on hb4
  have SR4 := Lib.hid (fun W (h : Below v4.heap.size v4 W) => SR.out W (B34.trans (h.mono B34.size)))
  clear HA5 HC5 HT5 hb4 hb3 P3 w3 w2 SR B34 HE2 HG2
  refine (drawTopicAck_any A2 n2 c2 _ (bts_upT h2 w4)).mono ?_
  rintro e v5 ⟨u, A3, a3, C3, c3, g, m, rfl, ⟨hez3, hrh, hrg, hb5⟩, kg, km⟩
  have HE5 := hrh.strs
  have HG5 := hrg.grs
  have cA3 := hrh.cap
  have cC3 := hrg.cap
  clear hrh hrg
  have w5 := w4.trans (hb5.mono w4.size)
  have P5 := P4.below hb5 P4.lt
  have X5 := X4.below hb5 X4.lt
  have A5x := A4.on hb5
  have G5 := G4.on hb5
  have T5x := T4.on hb5
  have SR5 := Lib.hid (fun W (h : Below v5.heap.size v5 W) => SR4.out W (hb5.trans (h.mono hb5.size)))
  clear SR4 A4 G4 T4 hb5 w4 P4 X4
  have U6 := Blk.fresh v5 32 [.string u.name, .int .i64 u.base, .slice A3 u.held.length a3, .slice C3 u.groups.length c3]
  have hb6 : Below v5.heap.size v5 (v5.alloc (.cells #[.string u.name, .int .i64 u.base, .slice A3 u.held.length a3, .slice C3 u.groups.length c3] 32)) := (Below.refl _ _).alloc (Nat.le_refl _) _
  simp only [List.toArray] at U6
  have q0 := U6.cell (i := 0) rfl
  have q1 := U6.cell (i := 1) rfl
  have q2 := U6.cell (i := 2) rfl
  have q3 := U6.cell (i := 3) rfl
  go_wp2_with (fail)
  clear q0 q1 q2 q3
  generalize v5.alloc (.cells #[.string u.name, .int .i64 u.base, .slice A3 u.held.length a3, .slice C3 u.groups.length c3] 32) = v6 at U6 hb6 ⊢
  have w6 := w5.trans (hb6.mono w5.size)
  have HE6 := HE5.on hb6
  have HG6 := HG5.on hb6
  have P6 := P5.below hb6 P5.lt
  have X6 := X5.below hb6 X5.lt
  have A6 := A5x.on hb6
  have G6 := G5.on hb6
  have T6 := T5x.on hb6
  have SR6 := Lib.hid (fun W (h : Below v6.heap.size v6 W) => SR5.out W (hb6.trans (h.mono hb6.size)))
  generalize v5.heap.size = p2 at U6 hb6 ⊢
  clear HE5 HG5 hb6 w5 P5 X5 A5x G5 T5x SR5
  have hgm : g.size ≤ maxLen := by unfold maxLen; omega
  have SQ := Lib.hid (fun W (h : Below v6.heap.size v6 W) => specTopicAck_any u g m A3 a3 C3 c3 W hez3.1 hgm (HE6.on h) (HG6.on h) cA3 cC3)
  have SF := Lib.hid (fun W (h : Below v6.heap.size v6 W) => specTopicFetch_any u g 0 A3 a3 C3 c3 W hez3.1 hgm (by decide) (HE6.on h) (HG6.on h) cA3 cC3)
  have IQ := Lib.hid (implTopicAck_any u g m A3 a3 C3 c3 v6 hez3.1 hez3.2 hgm HE6 HG6)
  have HAF := Lib.hid (fun h0 => ack_fetch (t := u) (g := g) (n := m) h0)
  obtain ⟨Q, HQ⟩ : ∃ R, Hid (setT u g m false = R) := ⟨_, Lib.hid rfl⟩
  rw [HQ.out] at SQ IQ
  simp only [HQ.out] at HAF
  refine IQ.out.mono ?_
  rintro e v7 ⟨A7, a7, C7, c7, T7, x7, rfl, _, _, _, _, _, _, hb7⟩
  clear IQ HQ HE6 HG6
  have Y8 := Blk.fresh v7 36 [.string Q.o.name, .int .i64 Q.o.base, .slice A7 Q.o.held.length a7, .slice C7 Q.o.groups.length c7, .slice T7 Q.texts.length x7, .int .i64 Q.n, .int .i64 Q.code]
  have hb8 : Below v7.heap.size v7 (v7.alloc (.cells #[.string Q.o.name, .int .i64 Q.o.base, .slice A7 Q.o.held.length a7, .slice C7 Q.o.groups.length c7, .slice T7 Q.texts.length x7, .int .i64 Q.n, .int .i64 Q.code] 36)) := (Below.refl _ _).alloc (Nat.le_refl _) _
  simp only [List.toArray] at Y8
  go_upto_region 7 with (fail)
  generalize v7.alloc (.cells #[.string Q.o.name, .int .i64 Q.o.base, .slice A7 Q.o.held.length a7, .slice C7 Q.o.groups.length c7, .slice T7 Q.texts.length x7, .int .i64 Q.n, .int .i64 Q.code] 36) = v8 at Y8 hb8 ⊢
  generalize v7.heap.size = q2 at Y8 ⊢
  have B68 := hb7.trans (hb8.mono hb7.size)
  have w8 := w6.trans (B68.mono w6.size)
  have P8 := P6.below B68 P6.lt
  have X8 := X6.below B68 X6.lt
  have U8 := U6.below B68 U6.lt
  have A8 := A6.on B68
  have G8 := G6.on B68
  have T8 := T6.on B68
  have S8 := Lib.hid (fun W (h : Below v8.heap.size v8 W) => And.intro (four_of (P8.below h P8.lt)) (And.intro (seven_of (X8.below h X8.lt)) (And.intro (four_of (U8.below h U8.lt)) (seven_of (Y8.below h Y8.lt)))))
  have SR8 := Lib.hid (fun W (h : Below v8.heap.size v8 W) => SR6.out W (B68.trans (h.mono B68.size)))
  have SQ8 := Lib.hid (fun W (h : Below v8.heap.size v8 W) => SQ.out W (B68.trans (h.mono B68.size)))
  have SF8 := Lib.hid (fun W (h : Below v8.heap.size v8 W) => SF.out W (B68.trans (h.mono B68.size)))
  have LT8 := Lib.hid (fun W (h : Below v8.heap.size v8 W) A9 a9 B9 b9 T9 x9 (sA : Strs W W.heap.size A9 R.o.held) (sB : Grs W W.heap.size B9 R.o.groups) (sT : Strs W W.heap.size T9 R.texts) => lwTopics_same R A5 C5 A9 B9 T5 T9 a5 c5 a9 b9 x5 x9 W (A8.on h) (G8.on h) sA sB (T8.on h) sT (fun h0 => (HOK.out h0).2) hof)
  clear SR6 SQ SF A6 G6 T6 hb7 hb8 B68 P6 X6 U6 w6 HOK hof
  have hX : Below v8.heap.size v8 v8.drew := below_drew (Below.refl _ _)
  have s0 := S8.out _ hX
  have fC := fun A0 a0 B0 b0 T0 x0 W => fldC Q.o.name Q.o.base (.slice A0 Q.o.held.length a0) (.slice B0 Q.o.groups.length b0) (.slice T0 Q.texts.length x0) Q.n Q.code W
  have qcd : (Q.code != Q.code) = false := by simp
  go_cut [71] (fun s wx => s = .bool false ∧ Below v8.heap.size v8 wx)
  case first =>
    by_cases hcd : R.code = 0
    rotate_left
    · have dcd : (R.code == 0) = false := by simp [hcd]
      clear HSF hcd
      refine wp_region_held_drew (S := fun W => (W.cell? ⟨p, 0, none⟩ = some (.string t.name) ∧ W.cell? ⟨p, 1, none⟩ = some (.int .i64 t.base) ∧ W.cell? ⟨p, 2, none⟩ = some (.slice A t.held.length a) ∧ W.cell? ⟨p, 3, none⟩ = some (.slice C t.groups.length c)) ∧ (W.cell? ⟨q, 0, none⟩ = some (.string R.o.name) ∧ W.cell? ⟨q, 1, none⟩ = some (.int .i64 R.o.base) ∧ W.cell? ⟨q, 2, none⟩ = some (.slice A5 R.o.held.length a5) ∧ W.cell? ⟨q, 3, none⟩ = some (.slice C5 R.o.groups.length c5) ∧ W.cell? ⟨q, 4, none⟩ = some (.slice T5 R.texts.length x5) ∧ W.cell? ⟨q, 5, none⟩ = some (.int .i64 R.n) ∧ W.cell? ⟨q, 6, none⟩ = some (.int .i64 R.code)) ∧ (W.cell? ⟨p2, 0, none⟩ = some (.string u.name) ∧ W.cell? ⟨p2, 1, none⟩ = some (.int .i64 u.base) ∧ W.cell? ⟨p2, 2, none⟩ = some (.slice A3 u.held.length a3) ∧ W.cell? ⟨p2, 3, none⟩ = some (.slice C3 u.groups.length c3)) ∧ W.cell? ⟨q2, 0, none⟩ = some (.string Q.o.name) ∧ W.cell? ⟨q2, 1, none⟩ = some (.int .i64 Q.o.base) ∧ W.cell? ⟨q2, 2, none⟩ = some (.slice A7 Q.o.held.length a7) ∧ W.cell? ⟨q2, 3, none⟩ = some (.slice C7 Q.o.groups.length c7) ∧ W.cell? ⟨q2, 4, none⟩ = some (.slice T7 Q.texts.length x7) ∧ W.cell? ⟨q2, 5, none⟩ = some (.int .i64 Q.n) ∧ W.cell? ⟨q2, 6, none⟩ = some (.int .i64 Q.code)) (by kernel_rfl) s0 (fun hHeld => ?_)
      refine wpAnyH_take (i := 0) (v := ?_) rfl (by kernel_rfl) (by kernel_rfl) (by kernel_rfl) (fun _ _ _ h => h) (Or.inl ⟨by rfl, ?_⟩) (by assumption) ?_
      rotate_left
      focus (intro w hSw; (try dsimp only at hSw); go_simp; (try with_reducible rfl))
      (try simp only [List.getElem_toArray, List.getElem_cons_succ, List.getElem_cons_zero, Act.put, List.setIfInBounds_toArray, List.set_cons_zero, List.set_cons_succ])
      refine wpAnyH_take (i := 1) (v := ?_) rfl (by kernel_rfl) (by kernel_rfl) (by kernel_rfl) (fun _ _ _ h => h) (Or.inl ⟨by rfl, ?_⟩) (by assumption) ?_
      rotate_left
      focus (intro w hSw; (try dsimp only at hSw); go_simp; (try with_reducible rfl))
      (try simp only [List.getElem_toArray, List.getElem_cons_succ, List.getElem_cons_zero, Act.put, List.setIfInBounds_toArray, List.set_cons_zero, List.set_cons_succ])
      refine wpAnyH_take (i := 2) (v := ?_) rfl (by kernel_rfl) (by kernel_rfl) (by kernel_rfl) (fun _ _ _ h => h) (Or.inl ⟨by rfl, ?_⟩) (by assumption) ?_
      rotate_left
      focus (intro w hSw; (try dsimp only at hSw); go_simp; (try with_reducible rfl))
      (try simp only [List.getElem_toArray, List.getElem_cons_succ, List.getElem_cons_zero, Act.put, List.setIfInBounds_toArray, List.set_cons_zero, List.set_cons_succ])
      refine wpAnyH_take (i := 3) (v := ?_) rfl (by kernel_rfl) (by kernel_rfl) (by kernel_rfl) (fun _ _ _ h => h) (Or.inl ⟨by rfl, ?_⟩) (by assumption) ?_
      rotate_left
      focus (intro w hSw; (try dsimp only at hSw); go_simp; (try with_reducible rfl))
      (try simp only [List.getElem_toArray, List.getElem_cons_succ, List.getElem_cons_zero, Act.put, List.setIfInBounds_toArray, List.set_cons_zero, List.set_cons_succ])
      refine wpAnyH_ready (rs := [4]) (by kernel_rfl) (by simp) ?_
      refine AllReadyH.cons rfl (fun K hK => ?_) AllReadyH.nil
      (go_simp; go_at_call 37; (with_reducible refine (SR8.out _ hX).mono ?_); rintro e wa ⟨A9, a9, B9, b9, T9, x9, rfl, sA, sB, sT, _, _, hba⟩; have ha := hX.trans (hba.mono hX.size); have sa := S8.out _ ha)
      refine hK.out _ _ ?_ (fun hHeld => ?_)
      · exact sa
      clear hK
      (try simp only [List.getElem_toArray, List.getElem_cons_succ, List.getElem_cons_zero, Act.put, List.setIfInBounds_toArray, List.set_cons_zero, List.set_cons_succ])
      refine wpAnyH_ready (rs := [5]) (by kernel_rfl) (by simp) ?_
      refine AllReadyH.cons rfl (fun K hK => ?_) AllReadyH.nil
      (go_simp; go_at_call 18; (with_reducible refine (LT8.out wa ha A9 a9 B9 b9 T9 x9 sA sB sT).mono ?_); rintro e wb ⟨rfl, hbb⟩; have hb := ha.trans (hbb.mono ha.size); have sb := S8.out _ hb)
      refine hK.out _ _ ?_ (fun hHeld => ?_)
      · exact sb
      clear hK
      (try simp only [List.getElem_toArray, List.getElem_cons_succ, List.getElem_cons_zero, Act.put, List.setIfInBounds_toArray, List.set_cons_zero, List.set_cons_succ])
      refine wpAnyH_take (i := 6) (v := ?_) rfl (by kernel_rfl) (by kernel_rfl) (by kernel_rfl) (fun _ _ _ h => h) (Or.inl ⟨by rfl, ?_⟩) (by assumption) ?_
      rotate_left
      focus (intro w hSw; (try dsimp only at hSw); go_simp; (try with_reducible rfl))
      (try simp only [List.getElem_toArray, List.getElem_cons_succ, List.getElem_cons_zero, Act.put, List.setIfInBounds_toArray, List.set_cons_zero, List.set_cons_succ])
      refine wpAnyH_take (i := 7) (v := ?_) rfl (by kernel_rfl) (by kernel_rfl) (by kernel_rfl) (fun _ _ _ h => h) (Or.inl ⟨by rfl, ?_⟩) (by assumption) ?_
      rotate_left
      focus (intro w hSw; (try dsimp only at hSw); go_simp; (try with_reducible rfl))
      (try simp only [List.getElem_toArray, List.getElem_cons_succ, List.getElem_cons_zero, Act.put, List.setIfInBounds_toArray, List.set_cons_zero, List.set_cons_succ])
      refine wpAnyH_take (i := 8) (v := ?_) rfl (by kernel_rfl) (by kernel_rfl) (by kernel_rfl) (fun _ _ _ h => h) (Or.inl ⟨by rfl, ?_⟩) (by assumption) ?_
      rotate_left
      focus (intro w hSw; (try dsimp only at hSw); go_simp; (try with_reducible rfl))
      (try simp only [List.getElem_toArray, List.getElem_cons_succ, List.getElem_cons_zero, Act.put, List.setIfInBounds_toArray, List.set_cons_zero, List.set_cons_succ])
      refine wpAnyH_take (i := 9) (v := ?_) rfl (by kernel_rfl) (by kernel_rfl) (by kernel_rfl) (fun _ _ _ h => h) (Or.inl ⟨by rfl, ?_⟩) (by assumption) ?_
      rotate_left
      focus (intro w hSw; (try dsimp only at hSw); go_simp; (try with_reducible rfl))
      (try simp only [List.getElem_toArray, List.getElem_cons_succ, List.getElem_cons_zero, Act.put, List.setIfInBounds_toArray, List.set_cons_zero, List.set_cons_succ])
      refine wpAnyH_take (i := 10) (v := ?_) rfl (by kernel_rfl) (by kernel_rfl) (by kernel_rfl) (fun _ _ _ h => h) (Or.inl ⟨by rfl, ?_⟩) (by assumption) ?_
      rotate_left
      focus (intro w hSw; (try dsimp only at hSw); go_simp; (try with_reducible rfl))
      (try simp only [List.getElem_toArray, List.getElem_cons_succ, List.getElem_cons_zero, Act.put, List.setIfInBounds_toArray, List.set_cons_zero, List.set_cons_succ])
      refine wpAnyH_take (i := 11) (v := ?_) rfl (by kernel_rfl) (by kernel_rfl) (by kernel_rfl) (fun _ _ _ h => h) (Or.inl ⟨by rfl, ?_⟩) (by assumption) ?_
      rotate_left
      focus (intro w hSw; (try dsimp only at hSw); go_simp; (try with_reducible rfl))
      (try simp only [List.getElem_toArray, List.getElem_cons_succ, List.getElem_cons_zero, Act.put, List.setIfInBounds_toArray, List.set_cons_zero, List.set_cons_succ])
      refine wpAnyH_take (i := 12) (v := undef) rfl (by kernel_rfl) (by kernel_rfl) (by kernel_rfl) (fun _ _ _ h => h) (Or.inr ⟨by rfl, rfl⟩) (by assumption) ?_
      (try simp only [List.getElem_toArray, List.getElem_cons_succ, List.getElem_cons_zero, Act.put, List.setIfInBounds_toArray, List.set_cons_zero, List.set_cons_succ])
      refine wpAnyH_take (i := 13) (v := undef) rfl (by kernel_rfl) (by kernel_rfl) (by kernel_rfl) (fun _ _ _ h => h) (Or.inr ⟨by rfl, rfl⟩) (by assumption) ?_
      (try simp only [List.getElem_toArray, List.getElem_cons_succ, List.getElem_cons_zero, Act.put, List.setIfInBounds_toArray, List.set_cons_zero, List.set_cons_succ])
      refine wpAnyH_take (i := 14) (v := undef) rfl (by kernel_rfl) (by kernel_rfl) (by kernel_rfl) (fun _ _ _ h => h) (Or.inr ⟨by rfl, rfl⟩) (by assumption) ?_
      (try simp only [List.getElem_toArray, List.getElem_cons_succ, List.getElem_cons_zero, Act.put, List.setIfInBounds_toArray, List.set_cons_zero, List.set_cons_succ])
      refine wpAnyH_take (i := 17) (v := undef) rfl (by kernel_rfl) (by kernel_rfl) (by kernel_rfl) (fun _ _ _ h => h) (Or.inr ⟨by rfl, rfl⟩) (by assumption) ?_
      (try simp only [List.getElem_toArray, List.getElem_cons_succ, List.getElem_cons_zero, Act.put, List.setIfInBounds_toArray, List.set_cons_zero, List.set_cons_succ])
      refine wpAnyH_take (i := 15) (v := undef) rfl (by kernel_rfl) (by kernel_rfl) (by kernel_rfl) (fun _ _ _ h => h) (Or.inr ⟨by rfl, rfl⟩) (by assumption) ?_
      (try simp only [List.getElem_toArray, List.getElem_cons_succ, List.getElem_cons_zero, Act.put, List.setIfInBounds_toArray, List.set_cons_zero, List.set_cons_succ])
      refine wpAnyH_take (i := 16) (v := undef) rfl (by kernel_rfl) (by kernel_rfl) (by kernel_rfl) (fun _ _ _ h => h) (Or.inr ⟨by rfl, rfl⟩) (by assumption) ?_
      (try simp only [List.getElem_toArray, List.getElem_cons_succ, List.getElem_cons_zero, Act.put, List.setIfInBounds_toArray, List.set_cons_zero, List.set_cons_succ])
      refine wpAnyH_take (i := 18) (v := undef) rfl (by kernel_rfl) (by kernel_rfl) (by kernel_rfl) (fun _ _ _ h => h) (Or.inr ⟨by rfl, rfl⟩) (by assumption) ?_
      (try simp only [List.getElem_toArray, List.getElem_cons_succ, List.getElem_cons_zero, Act.put, List.setIfInBounds_toArray, List.set_cons_zero, List.set_cons_succ])
      refine wpAnyH_take (i := 19) (v := ?_) rfl (by kernel_rfl) (by kernel_rfl) (by kernel_rfl) (fun _ _ _ h => h) (Or.inl ⟨by rfl, ?_⟩) (by assumption) ?_
      rotate_left
      focus (intro w hSw; (try dsimp only at hSw); go_simp; (try with_reducible rfl))
      (try simp only [List.getElem_toArray, List.getElem_cons_succ, List.getElem_cons_zero, Act.put, List.setIfInBounds_toArray, List.set_cons_zero, List.set_cons_succ])
      refine wpAnyH_take (i := 20) (v := ?_) rfl (by kernel_rfl) (by kernel_rfl) (by kernel_rfl) (fun _ _ _ h => h) (Or.inl ⟨by rfl, ?_⟩) (by assumption) ?_
      rotate_left
      focus (intro w hSw; (try dsimp only at hSw); go_simp; (try with_reducible rfl))
      (try simp only [List.getElem_toArray, List.getElem_cons_succ, List.getElem_cons_zero, Act.put, List.setIfInBounds_toArray, List.set_cons_zero, List.set_cons_succ])
      refine wpAnyH_take (i := 21) (v := ?_) rfl (by kernel_rfl) (by kernel_rfl) (by kernel_rfl) (fun _ _ _ h => h) (Or.inl ⟨by rfl, ?_⟩) (by assumption) ?_
      rotate_left
      focus (intro w hSw; (try dsimp only at hSw); go_simp; (try with_reducible rfl))
      (try simp only [List.getElem_toArray, List.getElem_cons_succ, List.getElem_cons_zero, Act.put, List.setIfInBounds_toArray, List.set_cons_zero, List.set_cons_succ])
      refine wpAnyH_take (i := 22) (v := ?_) rfl (by kernel_rfl) (by kernel_rfl) (by kernel_rfl) (fun _ _ _ h => h) (Or.inl ⟨by rfl, ?_⟩) (by assumption) ?_
      rotate_left
      focus (intro w hSw; (try dsimp only at hSw); go_simp; (try with_reducible rfl))
      (try simp only [List.getElem_toArray, List.getElem_cons_succ, List.getElem_cons_zero, Act.put, List.setIfInBounds_toArray, List.set_cons_zero, List.set_cons_succ])
      refine wpAnyH_take (i := 23) (v := ?_) rfl (by kernel_rfl) (by kernel_rfl) (by kernel_rfl) (fun _ _ _ h => h) (Or.inl ⟨by rfl, ?_⟩) (by assumption) ?_
      rotate_left
      focus (intro w hSw; (try dsimp only at hSw); go_simp; (try with_reducible rfl))
      (try simp only [List.getElem_toArray, List.getElem_cons_succ, List.getElem_cons_zero, Act.put, List.setIfInBounds_toArray, List.set_cons_zero, List.set_cons_succ])
      refine wpAnyH_take (i := 24) (v := ?_) rfl (by kernel_rfl) (by kernel_rfl) (by kernel_rfl) (fun _ _ _ h => h) (Or.inl ⟨by rfl, ?_⟩) (by assumption) ?_
      rotate_left
      focus (intro w hSw; (try dsimp only at hSw); go_simp; (try with_reducible rfl))
      (try simp only [List.getElem_toArray, List.getElem_cons_succ, List.getElem_cons_zero, Act.put, List.setIfInBounds_toArray, List.set_cons_zero, List.set_cons_succ])
      refine wpAnyH_take (i := 25) (v := ?_) rfl (by kernel_rfl) (by kernel_rfl) (by kernel_rfl) (fun _ _ _ h => h) (Or.inl ⟨by rfl, ?_⟩) (by assumption) ?_
      rotate_left
      focus (intro w hSw; (try dsimp only at hSw); go_simp; (try with_reducible rfl))
      (try simp only [List.getElem_toArray, List.getElem_cons_succ, List.getElem_cons_zero, Act.put, List.setIfInBounds_toArray, List.set_cons_zero, List.set_cons_succ])
      refine wpAnyH_take (i := 26) (v := ?_) rfl (by kernel_rfl) (by kernel_rfl) (by kernel_rfl) (fun _ _ _ h => h) (Or.inl ⟨by rfl, ?_⟩) (by assumption) ?_
      rotate_left
      focus (intro w hSw; (try dsimp only at hSw); go_simp; (try with_reducible rfl))
      (try simp only [List.getElem_toArray, List.getElem_cons_succ, List.getElem_cons_zero, Act.put, List.setIfInBounds_toArray, List.set_cons_zero, List.set_cons_succ])
      refine wpAnyH_ready (rs := [27]) (by kernel_rfl) (by simp) ?_
      refine AllReadyH.cons rfl (fun K hK => ?_) AllReadyH.nil
      (go_simp; go_at_call 32; (with_reducible refine (SQ8.out _ hb).mono ?_); rintro e wd ⟨A0, a0, B0, b0, T0, x0, rfl, _, _, _, _, _, hbd⟩; have hd := hb.trans (hbd.mono hb.size); have sd := S8.out _ hd)
      refine hK.out _ _ ?_ (fun hHeld => ?_)
      · exact sd
      clear hK
      (try simp only [List.getElem_toArray, List.getElem_cons_succ, List.getElem_cons_zero, Act.put, List.setIfInBounds_toArray, List.set_cons_zero, List.set_cons_succ])
      refine wpAnyH_take (i := 28) (v := ?_) rfl (by kernel_rfl) (by kernel_rfl) (by kernel_rfl) (fun _ _ _ h => h) (Or.inl ⟨by rfl, ?_⟩) (by assumption) ?_
      rotate_left
      focus (intro w hSw; (try dsimp only at hSw); go_simp; (try with_reducible rfl))
      (try simp only [List.getElem_toArray, List.getElem_cons_succ, List.getElem_cons_zero, Act.put, List.setIfInBounds_toArray, List.set_cons_zero, List.set_cons_succ])
      refine wpAnyH_take (i := 29) (v := ?_) rfl (by kernel_rfl) (by kernel_rfl) (by kernel_rfl) (fun _ _ _ h => h) (Or.inl ⟨by rfl, ?_⟩) (by assumption) ?_
      rotate_left
      focus (intro w hSw; (try dsimp only at hSw); go_simp; (try with_reducible rfl))
      (try simp only [List.getElem_toArray, List.getElem_cons_succ, List.getElem_cons_zero, Act.put, List.setIfInBounds_toArray, List.set_cons_zero, List.set_cons_succ])
      refine wpAnyH_take (i := 30) (v := ?_) rfl (by kernel_rfl) (by kernel_rfl) (by kernel_rfl) (fun _ _ _ h => h) (Or.inl ⟨by rfl, ?_⟩) (by assumption) ?_
      rotate_left
      focus (intro w hSw; (try dsimp only at hSw); go_simp; (try with_reducible rfl))
      (try simp only [List.getElem_toArray, List.getElem_cons_succ, List.getElem_cons_zero, Act.put, List.setIfInBounds_toArray, List.set_cons_zero, List.set_cons_succ])
      refine wpAnyH_done (by kernel_rfl) ?_ _
      all_goals
        clear s0 SR8 LT8 SQ8 HAF
        try simp only [Act.put, List.setIfInBounds_toArray, List.set_cons_zero, List.set_cons_succ]
        go_wp2_with (fail)
        go_meet
        case rel => with_reducible exact ⟨rfl, hd⟩
    · have dcd : (R.code == 0) = true := by simp [hcd]
      obtain ⟨f1, f2, f3⟩ := HSF.out hcd
      have IF8 := Lib.hid (fun W (h : Below v8.heap.size v8 W) => implTopicFetch_any R.o s 1 A5 a5 C5 c5 W f1 f2 hsm (A8.on h) (G8.on h))
      have fnn : ((fetT R.o s 1).n != n) = false := by simp [f3]
      clear HSF hcd f1 f2 f3
      generalize fetT R.o s 1 = F at IF8 fnn
      have fN := fun A0 a0 B0 b0 T0 x0 W => fldN F.o.name F.o.base (.slice A0 F.o.held.length a0) (.slice B0 F.o.groups.length b0) (.slice T0 F.texts.length x0) F.n F.code W
      go_region_held3 (fun W => (W.cell? ⟨p, 0, none⟩ = some (.string t.name) ∧ W.cell? ⟨p, 1, none⟩ = some (.int .i64 t.base) ∧ W.cell? ⟨p, 2, none⟩ = some (.slice A t.held.length a) ∧ W.cell? ⟨p, 3, none⟩ = some (.slice C t.groups.length c)) ∧ (W.cell? ⟨q, 0, none⟩ = some (.string R.o.name) ∧ W.cell? ⟨q, 1, none⟩ = some (.int .i64 R.o.base) ∧ W.cell? ⟨q, 2, none⟩ = some (.slice A5 R.o.held.length a5) ∧ W.cell? ⟨q, 3, none⟩ = some (.slice C5 R.o.groups.length c5) ∧ W.cell? ⟨q, 4, none⟩ = some (.slice T5 R.texts.length x5) ∧ W.cell? ⟨q, 5, none⟩ = some (.int .i64 R.n) ∧ W.cell? ⟨q, 6, none⟩ = some (.int .i64 R.code)) ∧ (W.cell? ⟨p2, 0, none⟩ = some (.string u.name) ∧ W.cell? ⟨p2, 1, none⟩ = some (.int .i64 u.base) ∧ W.cell? ⟨p2, 2, none⟩ = some (.slice A3 u.held.length a3) ∧ W.cell? ⟨p2, 3, none⟩ = some (.slice C3 u.groups.length c3)) ∧ W.cell? ⟨q2, 0, none⟩ = some (.string Q.o.name) ∧ W.cell? ⟨q2, 1, none⟩ = some (.int .i64 Q.o.base) ∧ W.cell? ⟨q2, 2, none⟩ = some (.slice A7 Q.o.held.length a7) ∧ W.cell? ⟨q2, 3, none⟩ = some (.slice C7 Q.o.groups.length c7) ∧ W.cell? ⟨q2, 4, none⟩ = some (.slice T7 Q.texts.length x7) ∧ W.cell? ⟨q2, 5, none⟩ = some (.int .i64 Q.n) ∧ W.cell? ⟨q2, 6, none⟩ = some (.int .i64 Q.code))
        (first
          | with_reducible exact s0
          | with_reducible exact sa
          | with_reducible exact sb
          | with_reducible exact sc
          | with_reducible exact sd)
        (first
          | (go_at_call 37; (with_reducible refine (SR8.out _ hX).mono ?_); rintro e wa ⟨A9, a9, B9, b9, T9, x9, rfl, sA, sB, sT, _, _, hba⟩; have ha := hX.trans (hba.mono hX.size); have sa := S8.out _ ha)
          | (go_at_call 18; (with_reducible refine (LT8.out wa ha A9 a9 B9 b9 T9 x9 sA sB sT).mono ?_); rintro e wb ⟨rfl, hbb⟩; have hb := ha.trans (hbb.mono ha.size); have sb := S8.out _ hb)
          | (go_at_call 27; (with_reducible refine (IF8.out _ hb).mono ?_); rintro e wc ⟨A6, a6, B6, b6, T6, x6, rfl, _, _, _, _, _, _, hbc⟩; have hc := hb.trans (hbc.mono hb.size); have sc := S8.out _ hc)
          | (go_at_call 32; (with_reducible refine (SQ8.out _ hc).mono ?_); rintro e wd ⟨A0, a0, B0, b0, T0, x0, rfl, _, _, _, _, _, hbd⟩; have hd := hc.trans (hbd.mono hc.size); have sd := S8.out _ hd))
      all_goals
        clear s0 SR8 LT8 SQ8 HAF
        try simp only [Act.put, List.setIfInBounds_toArray, List.set_cons_zero, List.set_cons_succ]
        go_wp2_with (fail)
        go_meet
        case rel => with_reducible exact ⟨rfl, hd⟩
  case rest =>
    obtain ⟨rfl, hb9⟩ := hcut
    clear SR8 SQ8 LT8 HSF S8 s0 hX
    have U9 := U8.below hb9 U8.lt
    have Y9 := Y8.below hb9 Y8.lt
    have k0 := U9.cell (i := 0) rfl
    have k1 := U9.cell (i := 1) rfl
    have k2 := U9.cell (i := 2) rfl
    have k3 := U9.cell (i := 3) rfl
    have k6 := Y9.cell (i := 6) rfl
    by_cases hq : Q.code = 0
    · have e1 : (Q.code != 0) = false := by simp [hq]
      have e2 := HAF.out hq
      have CF := SF8.out _ hb9
      generalize fetT u g 0 = F at CF e2
      have fN := fun A0 a0 B0 b0 T0 x0 W => fldN F.o.name F.o.base (.slice A0 F.o.held.length a0) (.slice B0 F.o.groups.length b0) (.slice T0 F.texts.length x0) F.n F.code W
      have e3 : decide (F.n ≤ m) = true := by simp; omega
      clear hq HAF SF8
      go_wp2_with (fail)
      refine CF.mono ?_
      rintro e wz ⟨A0, a0, B0, b0, T0, x0, rfl, _, _, _, _, _, hbz⟩
      go_wp2
      go_ret
      exact ⟨rfl, w8.trans ((hb9.trans (hbz.mono hb9.size)).mono w8.size)⟩
    · have e1 : (Q.code != 0) = true := by simp [hq]
      clear SF8 HAF
      go_wp2
      go_ret
      exact ⟨rfl, w8.trans (hb9.mono w8.size)⟩
theorem lawSeekBig (A1 A2 : Option Addr) (n1 n2 c1 c2 : Nat) (w : World) (h : 1048576 < n1 ∨ (n1 ≤ 1048576 ∧ 1048576 < n2)) (h1 : n1 ≤ maxLen) (h2 : n2 ≤ maxLen) :
    Calls Try.prog 7 #[.slice A1 n1 c1, .slice A2 n2 c2] w fun e w' => e = .returned (.bool true) ∧ Below w.heap.size w w' := by
  unfold maxLen at h1 h2
  rcases h with h | ⟨h, h'⟩
  · go_enter Try.func7, Try.ntmps7
    go_wp2
    go_ret
    exact ⟨rfl, Below.refl _ _⟩
  · go_enter Try.func7, Try.ntmps7
    go_wp2
    go_ret
    exact ⟨rfl, Below.refl _ _⟩
theorem lawSeekAll (A1 : Option Addr) (n1 c1 : Nat) (A2 : Option Addr) (n2 c2 : Nat) (w : World) (h1 : Byt w A1 n1) (h2 : Byt w A2 n2) :
    Calls Try.prog 7 #[.slice A1 n1 c1, .slice A2 n2 c2] w fun e w' => e = .returned (.bool true) ∧ Below w.heap.size w w' := by
  by_cases k1 : n1 ≤ 1048576
  · by_cases k2 : n2 ≤ 1048576
    · exact lawSeekIn A1 A2 n1 n2 c1 c2 w (h1.2 k1) (h2.2 k2)
    · exact lawSeekBig A1 A2 n1 n2 c1 c2 w (by omega) h1.1 h2.1
  · exact lawSeekBig A1 A2 n1 n2 c1 c2 w (by omega) h1.1 h2.1

end Go.Proofs.Ytodnmbppgjbpmaa
