/- The contract of impl.freshTexts. The contract of impl.freshTopic. A topicWork in memory. spec.l07Copy. -/
import Derived.Test.YtkimieeabmjfgaaCloneW
import Derived.Test.YtkimieeabmjfgaaTpRIW
import Derived.Deep.RegionHeld3
import Derived.Deep.DeepCutAuto
import Derived.Deep.RegionLaw
import Derived.Deep.AppendLies
namespace Go.Proofs.Ytkimieeabmjfgaa
open Go.RowKit
set_option linter.unusedVariables false
set_option maxRecDepth 1000000
set_option maxHeartbeats 2000000 in
theorem freshTexts_any (A : Option Addr) (L : List ByteArray) (c : Nat) (w : World) (hA : Strs w w.heap.size A L) (hn : L.length ≤ 100000) (hs : ∀ s ∈ L, s.size ≤ 1048576) :
    Calls Try.prog 92 #[.slice A L.length c] w fun e w' => ∃ B d, e = .returned (.slice B L.length d) ∧ OwnS w' w.heap.size (.slice B L.length d) L ∧ Below w.heap.size w w' := by
  obtain ⟨i0, hi, hz0, hz1, hz2⟩ := info_parts infoStr
  have HA := Lib.hid (fun W (h : Below w.heap.size w W) => hA.on h)
  go_enter Try.func92, Try.ntmps92
  go_wp2
  go_loopw [3, 5, 8] (fun v _ i wr => ∃ k : Nat, k ≤ L.length ∧ i = .int .i64 k ∧ OwnS wr w.heap.size v (L.take k) ∧ Below w.heap.size w wr) (fun _ _ i _ => L.length - (intOf i).toNat)
  case atStart => exact ⟨0, by omega, rfl, World.ownsRow_nil _ _ _ _, Below.refl _ _⟩
  case round =>
    obtain ⟨k, hk, rfl, hO, hb⟩ := hrel
    by_cases hlt : k < L.length
    · have hlt' : (k : Int) < (L.length : Int) := by omega
      obtain ⟨a, rfl, hab, c0⟩ := (HA.out _ hb).2 k hlt
      have hss := hs _ (List.getElem_mem hlt)
      go_wp2_with (fail)
      refine (clone_any L[k] _ hss).mono ?_
      rintro e w1 ⟨rfl, hb1⟩
      have hO1 := row_below hO hb1 (Nat.le_refl _)
      have hb01 := hb.trans (hb1.mono hb.size)
      clear c0
      go_wp2_with (at_builtin; refine wpList_append_own _ rfl _ _ 22 rfl w.heap.size 9 i0 (.string ⟨#[]⟩) 1 16 Try.underlying22 hi hz0 hz1 hz2 rfl (by decide) _ _ _ rfl (World.ownsRow.alloc hO1 _) ⟨w1.heap.size, 0, none⟩ 1 1 [.string L[k]] rfl rfl (one_cell _ _ _) (one_str _) (by simp [maxLen]; omega) (by simp; omega) (by have := hb01.size; simp; omega) ?_)
      intro v' w2 hO2 hg2 _
      have hb2 := below_apps hb01 (Nat.le_refl _) hO1 (Nat.le_refl _) hg2
      have hO3 : OwnS w2 w.heap.size v' (L.take (k + 1)) := by
        unfold OwnS
        have e1 : (L.take (k + 1)).length = k + 1 := by simp; omega
        have e2 : (L.take (k + 1)).map Value.string = (L.map Value.string).take k ++ [.string L[k]] := by rw [List.take_succ_eq_append_getElem hlt, List.map_append, List.map_take]; rfl
        rw [e1, e2]
        exact hO2
      clear hO2
      go_wp2
      exact ⟨⟨k + 1, by omega, by go_num, hO3, hb2⟩, by simp [intOf]; omega⟩
    · obtain rfl : k = L.length := by omega
      rw [List.take_of_length_le (Nat.le_refl _)] at hO
      obtain ⟨B, d, rfl⟩ := ownS_some hO
      go_wp2
      go_ret
      exact ⟨B, d, rfl, hO, hb⟩
end Go.Proofs.Ytkimieeabmjfgaa

namespace Go.Proofs.Ytkimieeabmjfgaa
open Go.RowKit Go.Deep
set_option linter.unusedVariables false
set_option maxRecDepth 1000000

/-- What freshTopic has made behind its first statement. -/
def FrCut (w : World) (nm : ByteArray) (bs : Int) (H : List ByteArray) (tc : List Value) (y : Value) (wx : World) : Prop :=
  ∃ b A a, y = .pointer (some ⟨b, 0, none⟩) ∧ w.heap.size + 2 ≤ b ∧ Blk wx b 29 [.string nm, .int .i64 bs, .slice A H.length a, .slice none 0 0] ∧ OwnS wx (w.heap.size + 2) (.slice A H.length a) H ∧ Blk wx w.heap.size 29 tc ∧ Blk wx (w.heap.size + 1) 29 [.string ⟨#[]⟩, .int .i64 0, .slice none 0 0, .slice none 0 0] ∧ Below w.heap.size w wx
theorem FrCut.of {w W : World} {b : Nat} {nm : ByteArray} {bs : Int} {H : List ByteArray} {tc : List Value} {A : Option Addr} {a : Nat} (hZ : Blk W b 29 [.string ⟨#[]⟩, .int .i64 0, .slice none 0 0, .slice none 0 0]) (hO : OwnS W (w.heap.size + 2) (.slice A H.length a) H) (hK : Blk W w.heap.size 29 tc) (hR : Blk W (w.heap.size + 1) 29 [.string ⟨#[]⟩, .int .i64 0, .slice none 0 0, .slice none 0 0]) (hb : Below w.heap.size w W) (hbb : w.heap.size + 2 ≤ b) :
    FrCut w nm bs H tc (.pointer (some ⟨b, 0, none⟩)) ((((W.setCell ⟨b, 0, none⟩ (.string nm)).setCell ⟨b, 1, none⟩ (.int .i64 bs)).setCell ⟨b, 2, none⟩ (.slice A H.length a)).setCell ⟨b, 3, none⟩ (.slice none 0 0)) := by
  have hn := own_not hO hZ (by decide)
  refine ⟨b, A, a, rfl, hbb, (((hZ.put 0 (.string nm)).put 1 (.int .i64 bs)).put 2 (.slice A H.length a)).put 3 (.slice none 0 0), ?_, ?_, ?_, ?_⟩
  · exact row_off (row_off (row_off (row_off hO (p := ⟨b, 0, none⟩) hn _) (p := ⟨b, 1, none⟩) hn _) (p := ⟨b, 2, none⟩) hn _) (p := ⟨b, 3, none⟩) hn _
  · exact (((hK.far (p := ⟨b, 0, none⟩) (by simp; omega) _).far (p := ⟨b, 1, none⟩) (by simp; omega) _).far (p := ⟨b, 2, none⟩) (by simp; omega) _).far (p := ⟨b, 3, none⟩) (by simp; omega) _
  · exact (((hR.far (p := ⟨b, 0, none⟩) (by simp; omega) _).far (p := ⟨b, 1, none⟩) (by simp; omega) _).far (p := ⟨b, 2, none⟩) (by simp; omega) _).far (p := ⟨b, 3, none⟩) (by simp; omega) _
  · exact (((hb.setCell (p := ⟨b, 0, none⟩) (by simp; omega) _).setCell (p := ⟨b, 1, none⟩) (by simp; omega) _).setCell (p := ⟨b, 2, none⟩) (by simp; omega) _).setCell (p := ⟨b, 3, none⟩) (by simp; omega) _
theorem FrCut.late {w W : World} {nm : ByteArray} {bs : Int} {H : List ByteArray} {tc : List Value} {A : Option Addr} {a : Nat} (hO : OwnS W (w.heap.size + 2) (.slice A H.length a) H) (hK : Blk W w.heap.size 29 tc) (hR : Blk W (w.heap.size + 1) 29 [.string ⟨#[]⟩, .int .i64 0, .slice none 0 0, .slice none 0 0]) (hb : Below w.heap.size w W) (hbb : w.heap.size + 2 ≤ W.heap.size) :
    FrCut w nm bs H tc (.pointer (some ⟨W.heap.size, 0, none⟩)) (W.alloc (.cells #[.string nm, .int .i64 bs, .slice A H.length a, .slice none 0 0] 29)) :=
  ⟨W.heap.size, A, a, rfl, hbb, Blk.fresh W 29 [.string nm, .int .i64 bs, .slice A H.length a, .slice none 0 0], World.ownsRow.alloc hO _, hK.alloc _, hR.alloc _, hb.alloc hb.size _⟩
/-- What freshTopic answers. -/
def FrT (w w' : World) (e : Ending) (t : Tpc) : Prop := ∃ A a B b, e = .returned (topV t.name t.base (.slice A t.held.length a) (.slice B t.groups.length b)) ∧ OwnS w' w.heap.size (.slice A t.held.length a) t.held ∧ OwnG w' w.heap.size (.slice B t.groups.length b) t.groups ∧ Below w.heap.size w w'
theorem own_lift {w : World} {b b' n s : Nat} {e : TypeId} {v : Value} {xs : List Value} (h : w.ownsRow b e s v n xs) (hb : ∀ k, v.ownBlock = some k → b' ≤ k) : w.ownsRow b' e s v n xs := by
  refine ⟨h.1, ?_⟩
  rcases h.2 with h1 | ⟨g, cap, cur, r1, r2, r3⟩
  · exact .inl h1
  · exact .inr ⟨g, cap, cur, r1, hb g (by rw [r1]; rfl), r3⟩
theorem far4 {W : World} {b c i : Nat} {u0 u1 u2 u3 v : Value} (hne : c ≠ b) (h : W.cell? ⟨c, i, none⟩ = some v) : ((((W.setCell ⟨b, 0, none⟩ u0).setCell ⟨b, 1, none⟩ u1).setCell ⟨b, 2, none⟩ u2).setCell ⟨b, 3, none⟩ u3).cell? ⟨c, i, none⟩ = some v :=
  cell_put_far (cell_put_far (cell_put_far (cell_put_far h hne _) hne _) hne _) hne _
theorem gflat_take (G : List Grp) {k : Nat} (h : k < G.length) {gn : ByteArray} {ga : Int} (e : G[k] = ⟨gn, ga⟩) : gflat (G.take (k + 1)) = gflat (G.take k) ++ [.string gn, .int .i64 ga] := by
  rw [List.take_succ_eq_append_getElem h, gflat_append, e]; rfl
set_option maxHeartbeats 8000000 in
theorem freshTopic_any (t : Tpc) (A : Option Addr) (c : Nat) (B : Option Addr) (d : Nat) (w : World) (h0 : t.name.size ≤ 1048576) (h1 : ∀ s ∈ t.held, s.size ≤ 1048576) (h2 : ∀ g ∈ t.groups, g.name.size ≤ 1048576) (hH : t.held.length ≤ 20) (hG : t.groups.length ≤ 4) (hA : Strs w w.heap.size A t.held) (hB : Grs w w.heap.size B t.groups) :
    Calls Try.prog 71 #[topV t.name t.base (.slice A t.held.length c) (.slice B t.groups.length d)] w fun e w' => FrT w w' e t := by
  obtain ⟨nm, bs, H, G⟩ := t
  simp only at h0 h1 h2 hH hG hA hB
  have HA := Lib.hid (fun W (h : Below w.heap.size w W) => hA.on h)
  have HB := Lib.hid (fun W (h : Below w.heap.size w W) => hB.on h)
  have K := (Blk.fresh w 29 [.string nm, .int .i64 bs, .slice A H.length c, .slice B G.length d]).alloc (.cells #[.string ⟨#[]⟩, .int .i64 0, .slice none 0 0, .slice none 0 0] 29)
  have R := Blk.fresh (w.alloc (.cells #[.string nm, .int .i64 bs, .slice A H.length c, .slice B G.length d] 29)) 29 [.string ⟨#[]⟩, .int .i64 0, .slice none 0 0, .slice none 0 0]
  have hb : Below w.heap.size w ((w.alloc (.cells #[.string nm, .int .i64 bs, .slice A H.length c, .slice B G.length d] 29)).alloc (.cells #[.string ⟨#[]⟩, .int .i64 0, .slice none 0 0, .slice none 0 0] 29)) := ((Below.refl _ _).alloc (Nat.le_refl _) _).alloc (by simp) _
  simp only [World.size_alloc] at K R
  replace K : Blk ((w.alloc (.cells #[.string nm, .int .i64 bs, .slice A H.length c, .slice B G.length d] 29)).alloc (.cells #[.string ⟨#[]⟩, .int .i64 0, .slice none 0 0, .slice none 0 0] 29)) w.heap.size 29 [.string nm, .int .i64 bs, .slice A H.length c, .slice B G.length d] := K
  replace R : Blk ((w.alloc (.cells #[.string nm, .int .i64 bs, .slice A H.length c, .slice B G.length d] 29)).alloc (.cells #[.string ⟨#[]⟩, .int .i64 0, .slice none 0 0, .slice none 0 0] 29)) (w.heap.size + 1) 29 [.string ⟨#[]⟩, .int .i64 0, .slice none 0 0, .slice none 0 0] := R
  go_enter Try.func71, Try.ntmps71
  go_upto_region 1 with (fail)
  generalize (w.alloc (.cells #[.string nm, .int .i64 bs, .slice A H.length c, .slice B G.length d] 29)).alloc (.cells #[.string ⟨#[]⟩, .int .i64 0, .slice none 0 0, .slice none 0 0] 29) = v0 at K R hb ⊢
  have CL := Lib.hid (fun W => clone_any nm W h0)
  have FX := Lib.hid (fun W (h : Below v0.heap.size v0 W) => freshTexts_any A H c W (HA.out _ (hb.trans (h.mono hb.size))) (by omega) h1)
  go_cut [3] (fun y wx => FrCut w nm bs H [.string nm, .int .i64 bs, .slice A H.length c, .slice B G.length d] y wx)
  case first =>
    have x0 : v0.drew.cell? ⟨w.heap.size, 0, none⟩ = some (.string nm) := K.drew.cell (i := 0) rfl
    have x1 : v0.drew.cell? ⟨w.heap.size, 1, none⟩ = some (.int .i64 bs) := K.drew.cell (i := 1) rfl
    have x2 : v0.drew.cell? ⟨w.heap.size, 2, none⟩ = some (.slice A H.length c) := K.drew.cell (i := 2) rfl
    have al1 := (Below.refl v0.heap.size v0).alloc (Nat.le_refl _) (.cells #[.string ⟨#[]⟩, .int .i64 0, .slice none 0 0, .slice none 0 0] 29)
    have al0 : Below v0.drew.heap.size v0.drew (v0.alloc (.cells #[.string ⟨#[]⟩, .int .i64 0, .slice none 0 0, .slice none 0 0] 29)).drew := ⟨al1.os, al1.tape, al1.output, al1.size, al1.block⟩
    have l0 := K.lt
    have n0 := Nat.ne_of_lt l0
    have y0 := Blk.fresh v0 29 [.string ⟨#[]⟩, .int .i64 0, .slice none 0 0, .slice none 0 0]
    replace y0 : Blk (v0.alloc (.cells #[.string ⟨#[]⟩, .int .i64 0, .slice none 0 0, .slice none 0 0] 29)).drew v0.heap.size 29 [.string ⟨#[]⟩, .int .i64 0, .slice none 0 0, .slice none 0 0] := y0
    have dr : ∀ W, Below v0.drew.heap.size v0.drew W → Below v0.heap.size v0 W := fun W h => (below_drew (Below.refl _ v0)).trans h
    have DR := Lib.hid dr
    clear al1 dr
    have a0 := kept_cell al0 x0
    have a1 := kept_cell al0 x1
    have a2 := kept_cell al0 x2
    go_region_held3 (fun W => W.cell? ⟨w.heap.size, 0, none⟩ = some (.string nm) ∧ W.cell? ⟨w.heap.size, 1, none⟩ = some (.int .i64 bs) ∧ W.cell? ⟨w.heap.size, 2, none⟩ = some (.slice A H.length c))
      (first
        | with_reducible exact ⟨x0, x1, x2⟩
        | with_reducible exact ⟨a0, a1, a2⟩
        | with_reducible exact ⟨c0, c1, c2⟩
        | with_reducible exact ⟨d0, d1, d2⟩
        | with_reducible exact ⟨e0, e1, e2⟩
        | with_reducible exact ⟨f0, f1, f2⟩
        | with_reducible exact ⟨g0, g1, g2⟩
        | ((with_reducible refine ⟨far4 ?_ ?_, far4 ?_ ?_, far4 ?_ ?_⟩) <;> with_reducible assumption))
      (first
        | (go_at_call 90; first
          | ((with_reducible refine (CL.out v0.drew).mono ?_); rintro e w1 ⟨rfl, hX⟩; have hsX : v0.heap.size ≤ w1.heap.size := hX.size; have lX : w.heap.size < w1.heap.size := Nat.lt_of_lt_of_le l0 hsX; have nX := Nat.ne_of_lt lX; have c0 := kept_cell hX x0; have c1 := kept_cell hX x1; have c2 := kept_cell hX x2; have hXb := hX.alloc hX.size (.cells #[.string ⟨#[]⟩, .int .i64 0, .slice none 0 0, .slice none 0 0] 29); have d0 := kept_cell hXb x0; have d1 := kept_cell hXb x1; have d2 := kept_cell hXb x2)
          | ((with_reducible refine (CL.out (v0.alloc (.cells #[.string ⟨#[]⟩, .int .i64 0, .slice none 0 0, .slice none 0 0] 29)).drew).mono ?_); rintro e w1 ⟨rfl, hc1⟩; have O := y0.below hc1 y0.lt; have hX := al0.trans (hc1.mono al0.size); have hsX : v0.heap.size ≤ w1.heap.size := hX.size; have lX : w.heap.size < w1.heap.size := Nat.lt_of_lt_of_le l0 hsX; have nX := Nat.ne_of_lt lX; have c0 := kept_cell hX x0; have c1 := kept_cell hX x1; have c2 := kept_cell hX x2))
        | (go_at_call 92; first
          | ((with_reducible refine (FX.out w1 (DR.out _ hX)).mono ?_); rintro e w2 ⟨A2, a2, rfl, oS, hc2⟩; have hY := hX.trans (hc2.mono hX.size); have lY := Nat.lt_of_lt_of_le lX hc2.size; have nY := Nat.ne_of_lt lY; have e0 := kept_cell hY x0; have e1 := kept_cell hY x1; have e2 := kept_cell hY x2; have hYa := hY.alloc hY.size (.cells #[.string ⟨#[]⟩, .int .i64 0, .slice none 0 0, .slice none 0 0] 29); have f0 := kept_cell hYa x0; have f1 := kept_cell hYa x1; have f2 := kept_cell hYa x2; have hYg := hY.alloc hY.size (.cells #[.string nm, .int .i64 bs, .slice A2 H.length a2, .slice none 0 0] 29); have g0 := kept_cell hYg x0; have g1 := kept_cell hYg x1; have g2 := kept_cell hYg x2; try (replace O := O.below hc2 O.lt; have u0 := O.cell (i := 0) rfl; have z0 := O.froz 0; have u1 := O.cell (i := 1) rfl; have z1 := O.froz 1; have u2 := O.cell (i := 2) rfl; have z2 := O.froz 2; have u3 := O.cell (i := 3) rfl; have z3 := O.froz 3))
          | ((with_reducible refine (FX.out (w1.alloc (.cells #[.string ⟨#[]⟩, .int .i64 0, .slice none 0 0, .slice none 0 0] 29)) (DR.out _ (hX.alloc hX.size (.cells #[.string ⟨#[]⟩, .int .i64 0, .slice none 0 0, .slice none 0 0] 29)))).mono ?_); rintro e w2 ⟨A2, a2, rfl, oS, hc2⟩; have hXa := hX.alloc hX.size (.cells #[.string ⟨#[]⟩, .int .i64 0, .slice none 0 0, .slice none 0 0] 29); have hY := hXa.trans (hc2.mono hXa.size); have lXa : w.heap.size < (w1.alloc (.cells #[.string ⟨#[]⟩, .int .i64 0, .slice none 0 0, .slice none 0 0] 29)).heap.size := (by rw [World.size_alloc]; exact Nat.lt_succ_of_lt lX); have lY := Nat.lt_of_lt_of_le lXa hc2.size; have nY := Nat.ne_of_lt lY; have e0 := kept_cell hY x0; have e1 := kept_cell hY x1; have e2 := kept_cell hY x2; have O := (Blk.fresh w1 29 [.string ⟨#[]⟩, .int .i64 0, .slice none 0 0, .slice none 0 0]).below hc2 (by simp); have u0 := O.cell (i := 0) rfl; have z0 := O.froz 0; have u1 := O.cell (i := 1) rfl; have z1 := O.froz 1; have u2 := O.cell (i := 2) rfl; have z2 := O.froz 2; have u3 := O.cell (i := 3) rfl; have z3 := O.froz 3)))
    all_goals
      go_wp2_with (fail)
      have hyy := DR.out _ hY
      have hy2 := hb.trans (hyy.mono hb.size)
      have lz : w.heap.size + 2 ≤ v0.heap.size := R.lt
      have l1 : w.heap.size + 2 ≤ w1.heap.size := Nat.le_trans lz hsX
      have l2 : w.heap.size + 2 ≤ w2.heap.size := Nat.le_trans lz hyy.size
      have oS2 : OwnS w2 (w.heap.size + 2) (.slice A2 H.length a2) H := own_lift oS fun k hk => Nat.le_trans l1 (Nat.le_trans (by first | exact Nat.le_refl _ | (rw [World.size_alloc]; exact Nat.le_succ _)) (oS.lt k hk).1)
      have K2 := K.below hyy K.lt
      have R2 := R.below hyy R.lt
      go_meet
      case rel => first
        | with_reducible exact FrCut.late oS2 K2 R2 hy2 l2
        | with_reducible exact FrCut.of O oS2 K2 R2 hy2 lz
        | with_reducible exact FrCut.of O oS2 K2 R2 hy2 l1
  case rest =>
    obtain ⟨b, A2, a2, rfl, hbb, O, oS, K1, R1, hb1⟩ := hcut
    clear K R hb
    have k3 := K1.cell (i := 3) rfl
    go_wp2_with (fail)
    clear k3
    go_loopw [5, 18] (fun _ i wr => ∃ (k : Nat) (E : Option Addr) (e : Nat), k ≤ G.length ∧ i = .int .i64 k ∧ Blk wr b 29 [.string nm, .int .i64 bs, .slice A2 H.length a2, .slice E k e] ∧ OwnS wr (w.heap.size + 2) (.slice A2 H.length a2) H ∧ wr.ownsRow (w.heap.size + 2) 68 2 (.slice E k e) k (gflat (G.take k)) ∧ Blk wr (w.heap.size + 1) 29 [.string ⟨#[]⟩, .int .i64 0, .slice none 0 0, .slice none 0 0] ∧ Below w.heap.size w wr) (fun _ i _ => G.length - (intOf i).toNat)
    case atStart => exact ⟨0, none, 0, by omega, rfl, O, oS, World.ownsRow_nil _ _ _ _, R1, hb1⟩
    case round =>
      obtain ⟨k, E, e, hk, rfl, O, oS, oG, R, hb⟩ := hrel
      clear hb1 R1 K1
      by_cases hlt : k < G.length
      rotate_left
      · obtain rfl : k = G.length := by omega
        rw [List.take_of_length_le (Nat.le_refl _)] at oG
        have o0 := O.cell (i := 0) rfl
        have o1 := O.cell (i := 1) rfl
        have o2 := O.cell (i := 2) rfl
        have o3 := O.cell (i := 3) rfl
        have r0 := R.cell (i := 0) rfl
        have r1 := R.cell (i := 1) rfl
        have r2 := R.cell (i := 2) rfl
        have r3 := R.cell (i := 3) rfl
        have f0 := R.froz 0
        have f1 := R.froz 1
        have f2 := R.froz 2
        have f3 := R.froz 3
        go_wp2
        clear o0 o1 o2 o3 r0 r1 r2 r3 f0 f1 f2 f3
        have R9 := (((R.put 0 (.string nm)).put 1 (.int .i64 bs)).put 2 (.slice A2 H.length a2)).put 3 (.slice E G.length e)
        have hm : ∀ k : Nat, w.heap.size + 2 ≤ k → k ≠ w.heap.size + 1 := fun k h => by omega
        have oS9 := row_far (row_far (row_far (row_far oS (p := ⟨w.heap.size + 1, 0, none⟩) (by simp) (.string nm)) (p := ⟨w.heap.size + 1, 1, none⟩) (by simp) (.int .i64 bs)) (p := ⟨w.heap.size + 1, 2, none⟩) (by simp) (.slice A2 H.length a2)) (p := ⟨w.heap.size + 1, 3, none⟩) (by simp) (.slice E G.length e)
        have oG9 := row_far (row_far (row_far (row_far oG (p := ⟨w.heap.size + 1, 0, none⟩) (by simp) (.string nm)) (p := ⟨w.heap.size + 1, 1, none⟩) (by simp) (.int .i64 bs)) (p := ⟨w.heap.size + 1, 2, none⟩) (by simp) (.slice A2 H.length a2)) (p := ⟨w.heap.size + 1, 3, none⟩) (by simp) (.slice E G.length e)
        have hb9 := (((hb.setCell (p := ⟨w.heap.size + 1, 0, none⟩) (by simp) (.string nm)).setCell (p := ⟨w.heap.size + 1, 1, none⟩) (by simp) (.int .i64 bs)).setCell (p := ⟨w.heap.size + 1, 2, none⟩) (by simp) (.slice A2 H.length a2)).setCell (p := ⟨w.heap.size + 1, 3, none⟩) (by simp) (.slice E G.length e)
        simp only [List.set_cons_succ, List.set_cons_zero] at R9
        generalize (((wr.setCell ⟨w.heap.size + 1, 0, none⟩ (.string nm)).setCell ⟨w.heap.size + 1, 1, none⟩ (.int .i64 bs)).setCell ⟨w.heap.size + 1, 2, none⟩ (.slice A2 H.length a2)).setCell ⟨w.heap.size + 1, 3, none⟩ (.slice E G.length e) = w9 at R9 oS9 oG9 hb9 ⊢
        have r0 := R9.cell (i := 0) rfl
        have r1 := R9.cell (i := 1) rfl
        have r2 := R9.cell (i := 2) rfl
        have r3 := R9.cell (i := 3) rfl
        exact bodyPost_ret (v := topV nm bs (.slice A2 H.length a2) (.slice E G.length e)) (by simp [results, Try.results71, go_sem, r0, r1, r2, r3]) rfl ⟨A2, a2, E, e, rfl, own_base oS9 (Nat.le_add_right _ _), own_base oG9 (Nat.le_add_right _ _), hb9⟩
      have hlt' : (k : Int) < (G.length : Int) := by omega
      obtain ⟨a, rfl, hab, c0, c1⟩ := (HB.out _ hb).at k hlt
      obtain ⟨gn, ga, he⟩ : ∃ gn ga, G[k] = ⟨gn, ga⟩ := ⟨_, _, rfl⟩
      have HE := Lib.hid he
      have hgs : gn.size ≤ 1048576 := by have := h2 _ (List.getElem_mem hlt); rw [he] at this; exact this
      rw [he] at c0 c1
      have hgt := gflat_take G hlt he
      have HGT := Lib.hid hgt
      clear he hgt
      have CG := Lib.hid (fun W => clone_any gn W hgs)
      have J := Blk.fresh wr 68 [.string gn, .int .i64 ga]
      have O3 := O.alloc (.cells #[.string gn, .int .i64 ga] 68)
      have R3 := R.alloc (.cells #[.string gn, .int .i64 ga] 68)
      have hb3 := hb.alloc hb.size (.cells #[.string gn, .int .i64 ga] 68)
      have oS3 : OwnS _ (w.heap.size + 2) _ H := World.ownsRow.alloc oS (.cells #[.string gn, .int .i64 ga] 68)
      have oG3 := World.ownsRow.alloc oG (.cells #[.string gn, .int .i64 ga] 68)
      replace J : Blk (wr.alloc (.cells #[.string gn, .int .i64 ga] 68)) wr.heap.size 68 [.string gn, .int .i64 ga] := J
      go_upto_region 5 with (fail)
      clear c0 c1
      have ltz := J.lt
      generalize wr.alloc (.cells #[.string gn, .int .i64 ga] 68) = w3 at J O3 R3 hb3 oS3 oG3 ltz ⊢
      clear O R oS oG hb
      obtain ⟨i0, hi, hz0, hz1, hz2⟩ := info_parts infoGrp
      have nO := own_not oG3 O3 (by decide)
      have y3 := O3.drew.cell (i := 3) rfl
      have x0 := J.drew.cell (i := 0) rfl
      have x1 := J.drew.cell (i := 1) rfl
      have Od := O3.drew
      have oGd := oG3.drew
      have lb : w.heap.size + 2 ≤ w3.heap.size := Nat.le_trans R3.lt (Nat.le_refl _)
      have lk : (gflat (G.take k)).length = k * 2 := by rw [gflat_len]; simp; omega
      have LK := Lib.hid lk
      clear lk
      go_region_law
        (first
          | (go_simp; go_at_call 90; (with_reducible refine (CG.out _).mono ?_); rintro e w4 ⟨rfl, hb4⟩; have y4 := kept_cell hb4 y3; have x04 := kept_cell hb4 x0; have x14 := kept_cell hb4 x1; have y4a := kept_cell (show Below w4.heap.size w4 (w4.alloc (.cells #[.string gn, .int .i64 ga] 68)) from (Below.refl _ _).alloc (Nat.le_refl _) _) y4)
          | (refine step_append_lies _ (by rfl) _ _ _ (by rfl) (w.heap.size + 2) 68 i0 _ 2 24 Try.underlying27 hi hz0 hz1 hz2 rfl (by omega) (.slice E k e) k _ (by rfl) (World.ownsRow.alloc (row_below oGd hb4 (Nat.le_refl _)) _)
                  ⟨w4.heap.size, 0, none⟩ 1 1 [.string gn, .int .i64 ga] (by rfl) (by rfl) (World.news_of_block (cs := #[.string gn, .int .i64 ga]) (t := 68) (fr := (0, 0)) (heap_alloc_new w4 _)) (by simp [Value.oneCell'])
                  (by omega) (by unfold maxLen; omega) (by omega) (by have h := hb4.size; simp only [World.size_drew, World.size_alloc] at h ⊢; omega) (w4.heap.size + 1) (by simp) ?_; intro gg cap' w5 hown5 hgrow5 hat5 hlt5; have q4 : Below w4.heap.size w4 (w4.alloc (.cells #[.string gn, .int .i64 ga] 68)) := (Below.refl _ _).alloc (Nat.le_refl _) _; have O5 := ((Od.below hb4 Od.lt).below q4 (Od.below hb4 Od.lt).lt).grown hgrow5 (Ne.symm nO); have y5 := O5.cell (i := 3) rfl; have f5 := O5.froz 3))
      all_goals
        have hb4' : Below w3.heap.size w3 w4 := (below_drew (Below.refl _ w3)).trans hb4
        have hw4 := hb3.trans (hb4'.mono hb3.size)
        have hw5 := hw4.alloc hw4.size (.cells #[.string gn, .int .i64 ga] 68)
        have hb5 := below_row hw5 (Nat.le_refl _) hgrow5 (fun k e => by have := (oG3.lt _ e).1; omega)
        have R5 := ((R3.below hb4' R3.lt).alloc (.cells #[.string gn, .int .i64 ga] 68)).grown hgrow5 (fun e => by have := (oG3.lt _ e.symm).1; omega)
        have S4 := World.ownsRow.alloc (row_below oS3 hb4' (Nat.le_refl _)) (.cells #[.string gn, .int .i64 ga] 68)
        have S5 := World.ownsRow.kept S4 hgrow5 (own_apart S4 (World.ownsRow.alloc (row_below oG3 hb4' (Nat.le_refl _)) (.cells #[.string gn, .int .i64 ga] 68)) (by decide))
        have P6 := O5.put 3 (.slice (some ⟨gg, 0, none⟩) (k + 1) cap')
        have R6 := R5.far (p := ⟨b, 3, none⟩) (by simp; omega) (.slice (some ⟨gg, 0, none⟩) (k + 1) cap')
        have S6 := row_off S5 (p := ⟨b, 3, none⟩) (own_not S5 O5 (by decide)) (.slice (some ⟨gg, 0, none⟩) (k + 1) cap')
        have o6 := row_off hown5 (p := ⟨b, 3, none⟩) (own_not hown5 O5 (by decide)) (.slice (some ⟨gg, 0, none⟩) (k + 1) cap')
        have hb6 := hb5.setCell (p := ⟨b, 3, none⟩) (by simp; omega) (.slice (some ⟨gg, 0, none⟩) (k + 1) cap')
        simp only [List.set_cons_succ, List.set_cons_zero] at P6
        rw [← HGT.out] at o6
        clear y3 x0 x1 y4 x04 x14 y4a y5 f5
        go_wp2
        exact ⟨⟨k + 1, _, cap', by omega, by go_num, P6, S6, o6, R6, hb6⟩, by simp [intOf]; omega⟩
end Go.Proofs.Ytkimieeabmjfgaa

namespace Go.Proofs.Ytkimieeabmjfgaa
open Go.RowKit Go.Deep
set_option linter.unusedVariables false
set_option maxRecDepth 1000000
/-- The block of a topicWork at p holds a topic in rows of the call's own (made from lo on), what it was given, and nothing yet of what it answers. -/
structure Wk (w : World) (lo p : Nat) (t : Tpc) (s : ByteArray) (n : Int) (A : Option Addr) (a : Nat) (B : Option Addr) (b : Nat) : Prop where
  blk : Blk w p 73 [.string t.name, .int .i64 t.base, .slice A t.held.length a, .slice B t.groups.length b, .string s, .int .i64 n, .slice none 0 0, .int .i64 0]
  held : OwnS w lo (.slice A t.held.length a) t.held
  grps : OwnG w lo (.slice B t.groups.length b) t.groups
end Go.Proofs.Ytkimieeabmjfgaa

namespace Go.Proofs.Ytkimieeabmjfgaa
open Go.RowKit
set_option linter.unusedVariables false
set_option maxRecDepth 1000000
set_option maxHeartbeats 4000000 in
theorem l07Copy_any (nm : ByteArray) (bs : Int) (A : Option Addr) (H : List ByteArray) (c : Nat) (B : Option Addr) (G : List Grp) (d : Nat) (w : World) (hA : Strs w w.heap.size A H) (hB : Grs w w.heap.size B G) (hc : Cap A H.length c) (hd : Cap B G.length d) (hH : H.length ≤ 20) (hG : G.length ≤ 4) :
    Calls Try.prog 69 #[topV nm bs (.slice A H.length c) (.slice B G.length d)] w fun e w' => ∃ A' c' B' d', e = .returned (topV nm bs (.slice A' H.length c') (.slice B' G.length d')) ∧ OwnS w' w.heap.size (.slice A' H.length c') H ∧ OwnG w' w.heap.size (.slice B' G.length d') G ∧ Below w.heap.size w w' := by
  have hb0 : Below w.heap.size w (((w.alloc (.cells #[.string nm, .int .i64 bs, .slice A H.length c, .slice B G.length d] 29)).alloc (.cells #[.string ⟨#[]⟩, .int .i64 0, .slice none 0 0, .slice none 0 0] 29)).alloc (.cells #[] 9)) := (((Below.refl _ _).alloc (Nat.le_refl _) _).alloc (by simp) _).alloc (by simp; omega) _
  have k0 := ((Blk.fresh w 29 [.string nm, .int .i64 bs, .slice A H.length c, .slice B G.length d]).alloc (.cells #[.string ⟨#[]⟩, .int .i64 0, .slice none 0 0, .slice none 0 0] 29)).alloc (.cells #[] 9)
  have k1 := (Blk.fresh (w.alloc (.cells #[.string nm, .int .i64 bs, .slice A H.length c, .slice B G.length d] 29)) 29 [.string ⟨#[]⟩, .int .i64 0, .slice none 0 0, .slice none 0 0]).alloc (.cells #[] 9)
  have ow := own_empty ((w.alloc (.cells #[.string nm, .int .i64 bs, .slice A H.length c, .slice B G.length d] 29)).alloc (.cells #[.string ⟨#[]⟩, .int .i64 0, .slice none 0 0, .slice none 0 0] 29)) 9 1 (by decide)
  simp only [World.size_alloc] at k0 k1 ow
  go_enter Try.func69, Try.ntmps69
  go_upto_region 2 with (at_builtin; (refine wpList_app_str rfl (.tmp 3) (.tmp 5) rfl (w.heap.size + 1 + 1) (.slice (some ⟨w.heap.size + 1 + 1, 0, none⟩) 0 0) [] rfl ow w.heap.size A H c rfl hc.nil (hA.below hb0 (Nat.le_refl _)) (by simp; omega) (by simp) ?_); intro A' c' w1 ho hg; have q0 := k0.grown hg (by simp [Value.ownBlock] <;> omega); have c2 := q0.cell (i := 2) rfl; have f2 := q0.froz 2)
  rw [List.nil_append] at ho
  have q1 := k1.grown hg (by simp [Value.ownBlock] <;> omega)
  have hb1 := below_row hb0 (Nat.le_refl _) hg (fun k e => by simp [Value.ownBlock] at e; omega)
  have r0 := q0.put 2 (.slice A' H.length c')
  have r1 := q1.far (p := ⟨w.heap.size, 2, none⟩) (by simp) (.slice A' H.length c')
  have hoV := row_far ho (p := ⟨w.heap.size, 2, none⟩) (by simp; omega) (.slice A' H.length c')
  have hbV := hb1.setCell (p := ⟨w.heap.size, 2, none⟩) (Nat.le_refl _) (.slice A' H.length c')
  simp only [List.set_cons_succ, List.set_cons_zero] at r0
  generalize w1.setCell ⟨w.heap.size, 2, none⟩ (.slice A' H.length c') = v2 at r0 r1 hoV hbV ⊢
  clear c2 f2 q0 q1 hb1 hg ho k0 k1 ow hb0
  have n0 := r0.alloc (.cells #[] 68)
  have n1 := r1.alloc (.cells #[] 68)
  have hz := r1.lt
  have hoN := row_below hoV ((Below.refl _ v2).alloc (Nat.le_refl _) (.cells #[] 68)) (Nat.le_refl _)
  have hbN := hbV.alloc hbV.size (.cells #[] 68)
  have oe := own_empty v2 68 2 (by decide)
  have e3 := n0.cell (i := 3) rfl
  go_wp2_with (at_builtin; (refine wpList_app_grp rfl (.tmp 8) (.tmp 10) rfl v2.heap.size (.slice (some ⟨v2.heap.size, 0, none⟩) 0 0) [] rfl oe w.heap.size B G d rfl hd.nil (hB.below hbN (Nat.le_refl _)) (by simp; omega) (by simp) ?_); intro B' d' w3 hp hg3; have s0 := n0.grown hg3 (by simp [Value.ownBlock]; omega); have s1 := n1.grown hg3 (by simp [Value.ownBlock]; omega); have t0 := s0.cell (i := 0) rfl; have t1 := s0.cell (i := 1) rfl; have t2 := s0.cell (i := 2) rfl; have t3 := s0.cell (i := 3) rfl; have y3 := s0.froz 3; have u0 := s1.cell (i := 0) rfl; have u1 := s1.cell (i := 1) rfl; have u2 := s1.cell (i := 2) rfl; have u3 := s1.cell (i := 3) rfl; have x0 := s1.froz 0; have x1 := s1.froz 1; have x2 := s1.froz 2; have x3 := s1.froz 3)
  rw [List.nil_append] at hp
  have hoW : OwnS w3 (w.heap.size + 1 + 1) (.slice A' H.length c') H := World.ownsRow.kept hoN hg3 (.inr (fun e => by
    have h1 := hoV.lt v2.heap.size (by rw [e]; rfl)
    omega))
  have hb3 := below_row hbN (Nat.le_refl _) hg3 (fun k e => by simp [Value.ownBlock] at e; omega)
  have z1 := (((((s1.far (p := ⟨w.heap.size, 3, none⟩) (by simp <;> omega) (.slice B' G.length d')).put 0 (.string nm)).put 1 (.int .i64 bs)).put 2 (.slice A' H.length c')).put 3 (.slice B' G.length d'))
  have z2 := (row_far (row_far (row_far (row_far (row_far hoW (p := ⟨w.heap.size, 3, none⟩) (by simp <;> omega) (.slice B' G.length d')) (p := ⟨w.heap.size + 1, 0, none⟩) (by simp <;> omega) (.string nm)) (p := ⟨w.heap.size + 1, 1, none⟩) (by simp <;> omega) (.int .i64 bs)) (p := ⟨w.heap.size + 1, 2, none⟩) (by simp <;> omega) (.slice A' H.length c')) (p := ⟨w.heap.size + 1, 3, none⟩) (by simp <;> omega) (.slice B' G.length d'))
  have z3 := (row_far (row_far (row_far (row_far (row_far hp (p := ⟨w.heap.size, 3, none⟩) (by simp <;> omega) (.slice B' G.length d')) (p := ⟨w.heap.size + 1, 0, none⟩) (by simp <;> omega) (.string nm)) (p := ⟨w.heap.size + 1, 1, none⟩) (by simp <;> omega) (.int .i64 bs)) (p := ⟨w.heap.size + 1, 2, none⟩) (by simp <;> omega) (.slice A' H.length c')) (p := ⟨w.heap.size + 1, 3, none⟩) (by simp <;> omega) (.slice B' G.length d'))
  have z4 := (((((hb3.setCell (p := ⟨w.heap.size, 3, none⟩) (by simp <;> omega) (.slice B' G.length d')).setCell (p := ⟨w.heap.size + 1, 0, none⟩) (by simp <;> omega) (.string nm)).setCell (p := ⟨w.heap.size + 1, 1, none⟩) (by simp <;> omega) (.int .i64 bs)).setCell (p := ⟨w.heap.size + 1, 2, none⟩) (by simp <;> omega) (.slice A' H.length c')).setCell (p := ⟨w.heap.size + 1, 3, none⟩) (by simp <;> omega) (.slice B' G.length d'))
  simp only [List.set_cons_succ, List.set_cons_zero] at z1
  generalize (((((w3.setCell ⟨w.heap.size, 3, none⟩ (.slice B' G.length d')).setCell ⟨w.heap.size + 1, 0, none⟩ (.string nm)).setCell ⟨w.heap.size + 1, 1, none⟩ (.int .i64 bs)).setCell ⟨w.heap.size + 1, 2, none⟩ (.slice A' H.length c')).setCell ⟨w.heap.size + 1, 3, none⟩ (.slice B' G.length d')) = w9 at z1 z2 z3 z4 ⊢
  have g0 := z1.cell (i := 0) rfl
  have g1 := z1.cell (i := 1) rfl
  have g2 := z1.cell (i := 2) rfl
  have g3 := z1.cell (i := 3) rfl
  exact bodyPost_ret (v := topV nm bs (.slice A' H.length c') (.slice B' G.length d')) (by simp [results, Try.results69, go_sem, g0, g1, g2, g3]) rfl ⟨A', c', B', d', rfl, own_base z2 (by omega), own_base z3 (by omega), z4⟩
end Go.Proofs.Ytkimieeabmjfgaa
