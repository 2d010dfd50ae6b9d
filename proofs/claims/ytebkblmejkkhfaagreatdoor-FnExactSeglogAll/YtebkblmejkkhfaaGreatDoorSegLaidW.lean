/- The walk of the law on SeglogAll. What a card's condition gives of the table of powers of ten. What a card's condition gives of the error of an invalid segment. -/
import Derived.Test.YtebkblmejkkhfaaGreatDoorFilEqW
import Derived.Test.YtebkblmejkkhfaaGreatDoorSgW
import Derived.Test.YtebkblmejkkhfaaGreatDoorChgW
import Derived.Deep.RegionHeld3
import Derived.Test.YtebkblmejkkhfaaGreatDoorScope3W
import Derived.Lib.LaidTab
import Derived.Test.YtebkblmejkkhfaaGreatDoorQTailW
import Derived.Stop.LaidErr
import Derived.LaidMore
import Derived.ProofKit
import Derived.ChangeVars
namespace Go.Proofs.YtebkblmejkkhfaaGreatDoor
open Go.RowKit
set_option linter.unusedVariables false

set_option maxHeartbeats 8000000 in
set_option maxRecDepth 1000000 in
theorem lawSeglogAll (A : Option Addr) (L : List Fil) (c : Nat) (f m : Int) (w : World) (hL : Fls w w.heap.size A L) (hfw : (Lit.int .i64 f).wf = true) (hmw : (Lit.int .i64 m).wf = true) (hPow : Pow w) (hHandle : Handle w) (hSeg : Seg w) :
    Calls Tryz.prog 7 #[.agg #[.slice A L.length c, .int .i64 f, .int .i64 m]] w fun e w' => e = .returned (.bool true) ∧ Below w.heap.size w w' := by
  have HL : Hid (∀ W, Below w.heap.size w W → Fls W W.heap.size A L) := Lib.hid fun W h => (hL.below h (Nat.le_refl _)).mono h.size
  have HPow : Hid (∀ W, Below w.heap.size w W → Pow W) := Lib.hid fun W h => hPow.below h
  have HHandle : Hid (∀ W, Below w.heap.size w W → Handle W) := Lib.hid fun W h => Handle.below hHandle h
  have HSeg : Hid (∀ W, Below w.heap.size w W → Seg W) := Lib.hid fun W h => hSeg.below h
  have hf : ∀ f ∈ L, f.fits := fun f h => by obtain ⟨i, hi, rfl⟩ := List.getElem_of_mem h; exact (hL.2 i hi).choose_spec.2.2.2.2.2
  have hB0 := Blk.fresh w 58 [.slice A L.length c, .int .i64 f, .int .i64 m]
  have hb0 : Below w.heap.size w (w.alloc (.cells #[.slice A L.length c, .int .i64 f, .int .i64 m] 58)) := (Below.refl _ _).alloc (Nat.le_refl _) _
  have hz0 : (w.alloc (.cells #[.slice A L.length c, .int .i64 f, .int .i64 m] 58)).heap.size = w.heap.size + 1 := by simp
  simp only [List.toArray] at hB0
  go_enter Tryz.func7, Tryz.ntmps7
  have q0 := hB0.cell (i := 0) rfl
  have q1 := hB0.cell (i := 1) rfl
  have q2 := hB0.cell (i := 2) rfl
  go_wp2_with (fail)
  clear q0 q1 q2
  generalize w.alloc (.cells #[.slice A L.length c, .int .i64 f, .int .i64 m] 58) = v0 at hB0 hb0 hz0 ⊢
  refine (szSeglog_any A L c f m _ (HL.out _ hb0)).mono ?_
  rintro e v1 ⟨r, rfl, r0, r1, hS, hb1⟩
  have hz1 := hb1.size
  have hB1 := hB0.below hb1 (by omega)
  have hw1 := hb0.trans (hb1.mono (by omega))
  clear hB0
  by_cases hr : r < 0
  · go_wp2
    go_ret
    exact ⟨rfl, hw1⟩
  · have hS' := hS (by omega)
    have hn := hS'.1
    obtain ⟨N, hNl, hsp, him⟩ := bothSeglogAll L f m hf hS' hfw hmw
    have Sp := Lib.hid hsp
    have Im := Lib.hid him
    clear hsp him
    obtain ⟨m1, Hm1⟩ : ∃ m, Hid (1 + 3 * L.length = m) := ⟨_, Lib.hid rfl⟩
    obtain ⟨m3, Hm3⟩ : ∃ m, Hid (1 + (N.length) = m) := ⟨_, Lib.hid rfl⟩
    have hm1 : 1 ≤ m1 ∧ m1 ≤ 3145729 := by have := Hm1.out; omega
    have hm3 : 1 ≤ m3 ∧ m3 ≤ 7000000 := by have := Hm3.out; omega
    have chB0 := hB1.cell (i := 0) rfl
    have chB1 := hB1.cell (i := 1) rfl
    have chB2 := hB1.cell (i := 2) rfl
    go_wp2_with (fail)
    refine (toSeglog_any A L c f m _ (HL.out _ hw1) hS').mono ?_
    rintro e v2 ⟨g2, d2, rfl, hF2, hb2⟩
    have hz2 := hb2.size
    have hB2 := hB1.below hb2 hB1.lt
    have hw2 := hw1.trans (hb2.mono hw1.size)
    clear hB1
    clear chB0 chB1 chB2
    have T2 := hF2.rw
    clear hF2
    go_wp2_with (fail)
    refine (Sp.out _ _ _ (T2.fls hf) (Rw.capL T2).1 (Rw.capL T2).2).mono ?_
    rintro e v3 ⟨A3, d3, rfl, hT3, hb3⟩
    have hz3 := hb3.size
    have hB3 := hB2.below hb3 hB2.lt
    have T3 := T2.below hb3
    have hw3 := hw2.trans (hb3.mono hw2.size)
    clear hB2 T2
    clear T3
    have RS3 := Rw.of hT3
    clear hT3
    have chB0 := hB3.cell (i := 0) rfl
    have chB1 := hB3.cell (i := 1) rfl
    have chB2 := hB3.cell (i := 2) rfl
    go_wp2_with (fail)
    refine (toSeglog_any A L c f m _ (HL.out _ hw3) hS').mono ?_
    rintro e v4 ⟨g4, d4, rfl, hF4, hb4⟩
    have hz4 := hb4.size
    have hB4 := hB3.below hb4 hB3.lt
    have RS4 := RS3.below hb4
    have hw4 := hw3.trans (hb4.mono hw3.size)
    clear hB3 RS3
    clear chB0 chB1 chB2
    have X4 := hF4.rw
    clear hF4
    have hP5 := Blk.fresh v4 61 [.slice (some ⟨g4, 0, none⟩) L.length d4, .int .i64 f, .int .i64 m]
    simp only [List.toArray] at hP5
    have hb5 : Below v4.heap.size v4 (v4.alloc (.cells #[.slice (some ⟨g4, 0, none⟩) L.length d4, .int .i64 f, .int .i64 m] 61)) := (Below.refl _ _).alloc (Nat.le_refl _) _
    have hs5 : (v4.alloc (.cells #[.slice (some ⟨g4, 0, none⟩) L.length d4, .int .i64 f, .int .i64 m] 61)).heap.size = v4.heap.size + 1 := by simp
    have qq0 := hP5.cell (i := 0) rfl
    have qq1 := hP5.cell (i := 1) rfl
    have qq2 := hP5.cell (i := 2) rfl
    go_wp2_with (fail)
    clear qq0 qq1 qq2
    generalize v4.alloc (.cells #[.slice (some ⟨g4, 0, none⟩) L.length d4, .int .i64 f, .int .i64 m] 61) = v5 at hP5 hb5 hs5 ⊢
    have hz5 := hb5.size
    have hB5 := hB4.below hb5 hB4.lt
    have RS5 := RS4.below hb5
    have X5 := X4.below hb5
    have hw5 := hw4.trans (hb5.mono hw4.size)
    clear hB4 RS4 X4
    have chP0 := hP5.cell (i := 0) rfl
    have chP1 := hP5.cell (i := 1) rfl
    have chP2 := hP5.cell (i := 2) rfl
    go_wp2_with (fail)
    refine (Im.out _ _ _ (X5.fls hf) (Rw.capL X5).1 (Rw.capL X5).2 (HPow.out _ hw5) (HHandle.out _ hw5) (HSeg.out _ hw5)).mono ?_
    rintro e v6 ⟨A6, d6, rfl, hT6, hb6⟩
    have hz6 := hb6.size
    have hB6 := hB5.below hb6 hB5.lt
    have hP6 := hP5.below hb6 hP5.lt
    have RS6 := RS5.below hb6
    have X6 := X5.below hb6
    have hw6 := hw5.trans (hb6.mono hw5.size)
    clear hB5 hP5 RS5 X5
    clear chP0 chP1 chP2
    have GS6 := Rw.of hT6
    clear hT6
    go_wp2_with (fail)
    refine (eqStringS_same _ _ N _ _ _ (GS6.strs) (RS6.strs)).mono ?_
    rintro e v7 ⟨rfl, hb7⟩
    have hz7 := hb7.size
    have hB7 := hB6.below hb7 hB6.lt
    have hP7 := hP6.below hb7 hP6.lt
    have RS7 := RS6.below hb7
    have X7 := X6.below hb7
    have GS7 := GS6.below hb7
    have hw7 := hw6.trans (hb7.mono hw6.size)
    clear hB6 hP6 RS6 X6 GS6
    have chB0 := hB7.cell (i := 0) rfl
    have chB1 := hB7.cell (i := 1) rfl
    have chB2 := hB7.cell (i := 2) rfl
    have chP0 := hP7.cell (i := 0) rfl
    have chP1 := hP7.cell (i := 1) rfl
    have chP2 := hP7.cell (i := 2) rfl
    go_wp2_with (fail)
    have z0 : v7.drew.cell? ⟨w.heap.size, 0, none⟩ = some (.slice A L.length c) := chB0
    have z1 : v7.drew.cell? ⟨w.heap.size, 1, none⟩ = some (.int .i64 f) := chB1
    have z2 : v7.drew.cell? ⟨w.heap.size, 2, none⟩ = some (.int .i64 m) := chB2
    have z3 : v7.drew.cell? ⟨v4.heap.size, 0, none⟩ = some (.slice (some ⟨g4, 0, none⟩) L.length d4) := chP0
    have z4 : v7.drew.cell? ⟨v4.heap.size, 1, none⟩ = some (.int .i64 f) := chP1
    have z5 : v7.drew.cell? ⟨v4.heap.size, 2, none⟩ = some (.int .i64 m) := chP2
    have Xd : Rw v7.drew v3.heap.size v4.heap.size 53 3 (.slice (some ⟨g4, 0, none⟩) L.length d4) L.length (flat L) := X7
    go_region_held3 (fun W => W.cell? ⟨w.heap.size, 0, none⟩ = some (.slice A L.length c) ∧ W.cell? ⟨w.heap.size, 1, none⟩ = some (.int .i64 f) ∧ W.cell? ⟨w.heap.size, 2, none⟩ = some (.int .i64 m) ∧ W.cell? ⟨v4.heap.size, 0, none⟩ = some (.slice (some ⟨g4, 0, none⟩) L.length d4) ∧ W.cell? ⟨v4.heap.size, 1, none⟩ = some (.int .i64 f) ∧ W.cell? ⟨v4.heap.size, 2, none⟩ = some (.int .i64 m))
      (first
        | exact ⟨z0, z1, z2, z3, z4, z5⟩
        | exact ⟨kept_cell hb8 z0, kept_cell hb8 z1, kept_cell hb8 z2, kept_cell hb8 z3, kept_cell hb8 z4, kept_cell hb8 z5⟩
        | exact ⟨kept_cell hb9 (kept_cell hb8 z0), kept_cell hb9 (kept_cell hb8 z1), kept_cell hb9 (kept_cell hb8 z2), kept_cell hb9 (kept_cell hb8 z3), kept_cell hb9 (kept_cell hb8 z4), kept_cell hb9 (kept_cell hb8 z5)⟩)
      (first
        | (go_at_call 41; refine (toSeglog_any A L c f m _ (HL.out _ (below_drew hw7)) hS').mono ?_; rintro e v8 ⟨g8, d8, rfl, hF8, hb8⟩)
        | (go_at_call 44; refine (eqSeglog_same _ _ L _ _ f m _ ((Xd.below hb8).fls hf) (OwnF.fls hF8)).mono ?_; rintro e v9 ⟨rfl, hb9⟩))
    have hbz : Below v7.heap.size v7 v9 := (below_drew (Below.refl _ v7)).trans ((hb8.trans (hb9.mono hb8.size)).mono (Nat.le_refl _))
    clear chB0 chB1 chB2 chP0 chP1 chP2
    clear z0 z1 z2 z3 z4 z5 Xd hF8
    have hz9 := hbz.size
    have hB9 := hB7.below hbz hB7.lt
    have hP9 := hP7.below hbz hP7.lt
    have RS9 := RS7.below hbz
    have X9 := X7.below hbz
    have GS9 := GS7.below hbz
    have hw9 := hw7.trans (hbz.mono hw7.size)
    clear hB7 hP7 RS7 X7 GS7
    have chP0 := hP9.cell (i := 0) rfl
    have chP1 := hP9.cell (i := 1) rfl
    have chP2 := hP9.cell (i := 2) rfl
    have MX := markSeglog_rw _ L _ _ _ 1 f m _ X9 hf (by omega) (by omega)
    have xr := X9.atA
    rw [Hm1.out] at MX
    clear X9
    go_wp2_with (fail)
    refine MX.mono ?_
    rintro e v10 ⟨rfl, hX, hg, hf9⟩
    have hc10 := Chg.of hg xr
    clear hg hX hf9 xr MX
    have hz10 := hc10.size
    have hB10 := hB9.offC hc10 (by omega)
    have hP10 := hP9.offC hc10 (by omega)
    have RS10 := RS9.farC hc10 (by omega)
    have GS10 := GS9.farC hc10 (by omega)
    have hw10 := below_offC hw9 hc10 (by omega) (Nat.le_refl _)
    clear hB9 hP9 RS9 GS9
    clear chP0 chP1 chP2
    have hlast : ¬ ((m1 : Int) < 0) := by omega
    go_wp2_with (fail)
    refine (eqStringS_same _ _ N _ _ _ (GS10.strs) (RS10.strs)).mono ?_
    rintro e v11 ⟨rfl, hb11⟩
    have hz11 := hb11.size
    have hB11 := hB10.below hb11 hB10.lt
    have hP11 := hP10.below hb11 hP10.lt
    have RS11 := RS10.below hb11
    have GS11 := GS10.below hb11
    have hw11 := hw10.trans (hb11.mono hw10.size)
    clear hB10 hP10 RS10 GS10
    clear hlast
    have MG := markS_rw _ N _ _ _ 1 _ GS11 (by omega) (by omega)
    have gr := GS11.atA
    rw [Hm3.out] at MG
    clear GS11
    go_wp2_with (fail)
    refine MG.mono ?_
    rintro e v12 ⟨rfl, GS12, hg⟩
    have hc12 := Chg.of hg gr
    clear hg gr MG
    have hz12 := hc12.size
    have hB12 := hB11.offC hc12 (by omega)
    have hP12 := hP11.offC hc12 (by omega)
    have RS12 := RS11.farC hc12 (by omega)
    have hw12 := below_offC hw11 hc12 (by omega) (Nat.le_refl _)
    clear hB11 hP11 RS11
    have hlast : ¬ ((m3 : Int) < 0) := by omega
    have HD := heldStringS_any _ N.length d6 1 _ (GS12.strs) (by omega) (by omega)
    rw [Hm3.out] at HD
    go_wp2_with (fail)
    refine (HD).mono ?_
    rintro e v13 ⟨rfl, hb13⟩
    have hz13 := hb13.size
    have hB13 := hB12.below hb13 hB12.lt
    have hP13 := hP12.below hb13 hP12.lt
    have RS13 := RS12.below hb13
    have GS13 := GS12.below hb13
    have hw13 := hw12.trans (hb13.mono hw12.size)
    clear hB12 hP12 RS12 GS12
    clear HD
    have chB0 := hB13.cell (i := 0) rfl
    have chB1 := hB13.cell (i := 1) rfl
    have chB2 := hB13.cell (i := 2) rfl
    go_wp2_with (fail)
    refine (toSeglog_any A L c f m _ (HL.out _ hw13) hS').mono ?_
    rintro e v14 ⟨g14, d14, rfl, hF14, hb14⟩
    have hz14 := hb14.size
    have hB14 := hB13.below hb14 hB13.lt
    have hP14 := hP13.below hb14 hP13.lt
    have RS14 := RS13.below hb14
    have GS14 := GS13.below hb14
    have hw14 := hw13.trans (hb14.mono hw13.size)
    clear hB13 hP13 RS13 GS13
    clear chB0 chB1 chB2
    have X14 := hF14.rw
    clear hF14
    go_wp2_with (fail)
    refine (Im.out _ _ _ (X14.fls hf) (Rw.capL X14).1 (Rw.capL X14).2 (HPow.out _ hw14) (HHandle.out _ hw14) (HSeg.out _ hw14)).mono ?_
    rintro e v15 ⟨A15, d15, rfl, hT15, hb15⟩
    have hz15 := hb15.size
    have hB15 := hB14.below hb15 hB14.lt
    have hP15 := hP14.below hb15 hP14.lt
    have RS15 := RS14.below hb15
    have GS15 := GS14.below hb15
    have X15 := X14.below hb15
    have hw15 := hw14.trans (hb15.mono hw14.size)
    clear hB14 hP14 RS14 GS14 X14
    clear X15
    have YS15 := Rw.of hT15
    clear hT15
    go_wp2_with (fail)
    refine (eqStringS_same _ _ N _ _ _ (YS15.strs) (RS15.strs)).mono ?_
    rintro e v16 ⟨rfl, hb16⟩
    have hz16 := hb16.size
    have hB16 := hB15.below hb16 hB15.lt
    have hP16 := hP15.below hb16 hP15.lt
    have RS16 := RS15.below hb16
    have GS16 := GS15.below hb16
    have YS16 := YS15.below hb16
    have hw16 := hw15.trans (hb16.mono hw15.size)
    clear hB15 hP15 RS15 GS15 YS15
    have HD := heldStringS_any _ N.length d6 1 _ (GS16.strs) (by omega) (by omega)
    rw [Hm3.out] at HD
    go_wp2_with (fail)
    refine (HD).mono ?_
    rintro e v17 ⟨rfl, hb17⟩
    have hz17 := hb17.size
    have hB17 := hB16.below hb17 hB16.lt
    have hP17 := hP16.below hb17 hP16.lt
    have RS17 := RS16.below hb17
    have GS17 := GS16.below hb17
    have YS17 := YS16.below hb17
    have hw17 := hw16.trans (hb17.mono hw16.size)
    clear hB16 hP16 RS16 GS16 YS16
    clear HD
    go_wp2
    go_ret
    exact ⟨rfl, hw17⟩
end Go.Proofs.YtebkblmejkkhfaaGreatDoor

namespace Go.Proofs.YtebkblmejkkhfaaGreatDoor
open Go.RowKit Go.ChangeShapes Go.WideShapes Go.ChangeAt
set_option linter.unusedVariables false
theorem pow_of_head {W : World} {rest : List (String × DataW Unit)} (h : laidMet Tryz.prog (("internal/strconv.uint64pow10", Lib.tabData .u64 Lib.pow10Tab) :: rest) W) : Pow W :=
  Lib.tabIs_of_head (k := .u64) (zs := Lib.pow10Tab) (n := Lib.pow10Tab.length) gPow (t := 213) (e := 141) (by kernel_rfl) Tryz.underlying213 Tryz.underlying141 (by kernel_rfl) (by kernel_rfl) h
end Go.Proofs.YtebkblmejkkhfaaGreatDoor

namespace Go.Proofs.YtebkblmejkkhfaaGreatDoor
open Go.RowKit Go.ChangeShapes Go.WideShapes Go.ChangeAt
open Go.Extern.Stop Go.Stop Go.Extern
set_option linter.unusedVariables false

theorem cellsErrSg : Tryz.prog.cellsOf 251 = 1 := by kernel_rfl
theorem cellsStrSg : Tryz.prog.cellsOf 9 = 1 := by kernel_rfl
theorem starErrSg : "*" ++ "errors.errorString" = "*errors.errorString" := by decide
theorem rowErrSg (u : TypeId) (h : Tryz.prog.typeName? 3 u = some "*errors.errorString") : u = 249 :=
  typeName_ptr_named (nm := "errors.errorString") (by rw [starErrSg]; kernel_rfl) (by kernel_rfl) (by decide) u (by rw [starErrSg]; exact h)
theorem gSeg : Tryz.prog.globalNamed "loop.example/g00386/impl.errBadSegment" = some 5 := by kernel_rfl
theorem tSeg : (Tryz.prog.globals[5]?).map (·.type) = some 97 := by kernel_rfl
set_option maxRecDepth 1000000 in
theorem seg_of_head {x : List UInt8} {rest : List (String × DataW Unit)} {W : World} (h : laidMet Tryz.prog (("loop.example/g00386/impl.errBadSegment", .iface "*errors.errorString" (.ptr (.agg [.lit (.string x)]))) :: rest) W) : Seg W := by
  obtain ⟨ps, ⟨g0', t0', cs0, f0, p0, q0, hg0', ht0', hv0, hd0, _, e0⟩, hnd, hrows⟩ := h
  obtain rfl := Option.some.inj (gSeg.symm.trans hg0')
  obtain rfl := Option.some.inj (tSeg.symm.trans ht0')
  subst e0
  obtain ⟨l0⟩ := cs0
  have ok0 : ∀ u v, l0 = [.iface u v] → Value.okWide Tryz.prog W .any 0 u v := fun u v e => by
    subst e; exact (hrows 5 0 (by simp [MemPlace.row])).2 u v (by simpa using World.var?_cell hg0' hv0 0)
  obtain ⟨a0, s0, rfl, hc0, _, _, rfl⟩ := errorString_of_trod Tryz.underlying97 rowErrSg Tryz.underlying249 Tryz.underlying251 rfl rfl Tryz.underlying9 cellsErrSg cellsStrSg hd0 ok0
  exact ⟨a0, by simpa using World.var?_cell hg0' hv0 0⟩
theorem vars_len {H : Type} {enc : TypeId × Value → H} {P : Program} {w : World} {sp : Nat → Bool} : ∀ {ns : List String} {gs : List (DataW H)} {ps : List MemPlace}, DataW.TrodVars enc P w sp ns gs ps → gs.length = ns.length
  | [], [], _, _ => rfl
  | [], _ :: _, _, h => by simp [DataW.TrodVars] at h
  | _ :: _, [], _, h => by simp [DataW.TrodVars] at h
  | _ :: _, _ :: _, _, ⟨_, _, _, _, _, _, _, _, _, _, h, _⟩ => by simp [vars_len h]
end Go.Proofs.YtebkblmejkkhfaaGreatDoor
