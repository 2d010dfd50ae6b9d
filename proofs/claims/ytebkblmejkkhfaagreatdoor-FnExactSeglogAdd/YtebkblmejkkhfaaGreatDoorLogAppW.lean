/- impl.logTexts: the strings of a log, and whether it is valid. SeglogRight: spec and impl answer alike. A call of FsAppend whose answer is put into a box: what is known behind it. -/
import Derived.Test.YtebkblmejkkhfaaGreatDoorQTailW
import Derived.Test.YtebkblmejkkhfaaGreatDoorFilRightIW
import Derived.Test.YtebkblmejkkhfaaGreatDoorLogSW
import Derived.Deep.RegionHeld3
import Derived.Deep.RegionWith
import Derived.IntWalk
import Derived.Test.YtebkblmejkkhfaaGreatDoorSgOutW
import Derived.Test.YtebkblmejkkhfaaGreatDoorFsApW
import Derived.Test.YtebkblmejkkhfaaGreatDoorDecW
namespace Go.Proofs.YtebkblmejkkhfaaGreatDoor
open Go.RowKit
set_option linter.unusedVariables false
set_option maxRecDepth 1000000

theorem catch_panicking (p q : Addr) (x y : Value) (u : TypeId) (pv : Value) (older : List PanicEntry) (w : World) (hpq : p.block ≠ q.block) (hc : w.cell? p = some x) (hz : w.frozen? p = false) (hc' : w.cell? q = some y) (hz' : w.frozen? q = false) (o1 : x.oneCell' = true) (o2 : y.oneCell' = true) :
    CallsD Tryz.prog 144 #[.pointer (some p), .pointer (some q)] (.panicking ({ v := .iface u pv, recovered := false } :: older)) w fun e u' w' =>
      e = .returned (.tuple #[]) ∧ u' = .panicking ({ v := .iface u pv, recovered := true } :: older) ∧ w' = (w.setCell p (.slice none 0 0)).setCell q (.bool false) := by
  have c2 : (w.setCell p (.slice none 0 0)).cell? q = some y := by rw [← hc']; exact World.cell?_of_block (Below.heap_setCell w p _ _ (fun e => hpq e.symm))
  have z2 : (w.setCell p (.slice none 0 0)).frozen? q = false := by rw [← hz']; simp [World.frozen?, Below.heap_setCell w p _ _ (fun e => hpq e.symm)]
  refine callsD_of_wpS Tryz.func144 rfl fun c₀ cs hu => ?_
  apply wpS_seq
  apply wpS_region
  simp [wpOpsS, go_sem, recoverD, hu, Tryz.ntmps144, Exit.thenS]
  refine wpS_cond (t := true) (by simp [Act.eval, Array.replicate]) ?_
  simp only [if_true]
  apply wpS_region
  simp [wpOpsS, go_sem, hc, hz, c2, z2, bodyPostS, results, Tryz.results144]
theorem catch_idle (p q : Addr) (w : World) :
    CallsD Tryz.prog 144 #[.pointer (some p), .pointer (some q)] .returning w fun e u' w' => e = .returned (.tuple #[]) ∧ u' = .returning ∧ w' = w := by
  refine callsD_of_wpS Tryz.func144 rfl fun c₀ cs hu => ?_
  apply wpS_seq
  apply wpS_region
  simp [wpOpsS, go_sem, recoverD, hu, Tryz.ntmps144, Exit.thenS]
  refine wpS_cond (t := false) (by simp [Act.eval, Array.replicate]) ?_
  simp only [Bool.false_eq_true, if_false]
  refine wpS_of_wp (wp_skip ?_)
  cases c₀
  simp_all [bodyPostS, results, Tryz.results144]
/-- What logTexts answers. -/
def LogPost (L : List Fil) (f m : Int) (w : World) (e : Ending) (w' : World) : Prop :=
  ∃ v, e = .returned (.tuple #[v, .bool (logB L f m)]) ∧ (logB L f m = true → OwnS w' w.heap.size v (allT L)) ∧ (logB L f m = false → v = .slice none 0 0) ∧ Below w.heap.size w w'
theorem logPost_no {L : List Fil} {f m : Int} {w w' : World} (h : logB L f m = false) (hb : Below w.heap.size w w') : LogPost L f m w (.returned (.tuple #[.slice none 0 0, .bool false])) w' :=
  ⟨_, by rw [h], (fun e => by rw [h] at e; cases e), fun _ => rfl, hb⟩
theorem logPost_yes {L : List Fil} {f m : Int} {w w' : World} {v : Value} (h : logB L f m = true) (hO : OwnS w' w.heap.size v (allT L)) (hb : Below w.heap.size w w') : LogPost L f m w (.returned (.tuple #[v, .bool true])) w' :=
  ⟨v, by rw [h], fun _ => hO, (fun e => by rw [h] at e; cases e), hb⟩

theorem logB_fs {L : List Fil} {f m : Int} (h : fsOK L = false) : logB L f m = false := by
  cases e : logB L f m with
  | false => rfl
  | true => rw [(logB_iff.1 e).1] at h; cases h
set_option maxHeartbeats 4000000 in
theorem logTexts_any (A : Option Addr) (L : List Fil) (c : Nat) (f m : Int) (w : World) (hL : Fls w w.heap.size A L) (hf : (Lit.int .i64 f).wf = true) (hm : (Lit.int .i64 m).wf = true) (hP : Pow w) (hH : Handle w) (hS : Seg w) :
    Calls Tryz.prog 116 #[segV (.slice A L.length c) f m] w (LogPost L f m w) := by
  have hmf : ∀ (fn : Fn) (first cap : Array Value) (w : World), (Instr.makeFunc fn first cap).run Tryz.prog w = .ok (.func fn first cap) w := fun _ _ _ _ => rfl
  have hn := hL.1
  unfold maxLen at hn
  have hb0 : Below w.heap.size w (((w.alloc (.cells #[.slice A L.length c, .int .i64 f, .int .i64 m] 61)).alloc (.cells #[.slice none 0 0] 50)).alloc (.cells #[.bool false] 4)) := (((Below.refl _ _).alloc (Nat.le_refl _) _).alloc (by simp) _).alloc (by simp; omega) _
  have k0 := ((Blk.fresh w 61 [.slice A L.length c, .int .i64 f, .int .i64 m]).alloc (.cells #[.slice none 0 0] 50)).alloc (.cells #[.bool false] 4)
  have k1 := (Blk.fresh (w.alloc (.cells #[.slice A L.length c, .int .i64 f, .int .i64 m] 61)) 50 [.slice none 0 0]).alloc (.cells #[.bool false] 4)
  have k2 := Blk.fresh ((w.alloc (.cells #[.slice A L.length c, .int .i64 f, .int .i64 m] 61)).alloc (.cells #[.slice none 0 0] 50)) 4 [.bool false]
  simp only [List.toArray, World.size_alloc] at k0 k1 k2
  go_enter_defers Tryz.func116, Tryz.ntmps116
  go_wp2_with (fail)
  have hz0 : (((w.alloc (.cells #[.slice A L.length c, .int .i64 f, .int .i64 m] 61)).alloc (.cells #[.slice none 0 0] 50)).alloc (.cells #[.bool false] 4)).heap.size = w.heap.size + 3 := by simp
  generalize ((w.alloc (.cells #[.slice A L.length c, .int .i64 f, .int .i64 m] 61)).alloc (.cells #[.slice none 0 0] 50)).alloc (.cells #[.bool false] 4) = w1 at hb0 k0 k1 k2 hz0 ⊢
  have hL1 := (hL.below hb0 (Nat.le_refl _)).mono hb0.size
  refine (implRight_any A L c w1 hL1).mono ?_
  rintro e w2 ⟨rfl, hb2⟩
  have hw2 := hb0.trans (hb2.mono hb0.size)
  have q0 := k0.below hb2 k0.lt
  have q1 := k1.below hb2 k1.lt
  have q2 := k2.below hb2 k2.lt
  have hz2 := hb2.size
  have HZ0 := Lib.hid hz0
  have hz2' : w.heap.size + 3 ≤ w2.heap.size := by omega
  clear k0 k1 k2 hb2 hb0 hz0 hL1 hz2
  cases hF : fsOK L with
  | false =>
    have x0 := q0.cell (i := 0) rfl
    have y0 := q1.cell (i := 0) rfl
    have y1 := q2.cell (i := 0) rfl
    have z0 := q1.froz 0
    have z1 := q2.froz 0
    go_wp2
    refine leaves_cons (f := 144) (args := #[.pointer (some ⟨w.heap.size + 1, 0, none⟩), .pointer (some ⟨w.heap.size + 1 + 1, 0, none⟩)]) (by simp) (by simp [go_sem]) ?_
    refine (catch_idle _ _ _).mono ?_
    rintro e u' w'' ⟨rfl, rfl, rfl⟩
    have r1 := (q1.put 0 (.slice none 0 0)).far (p := ⟨w.heap.size + 1 + 1, 0, none⟩) (by simp) (.bool false)
    have r2 := (q2.far (p := ⟨w.heap.size + 1, 0, none⟩) (by simp) (.slice none 0 0)).put 0 (.bool false)
    have r3 := (hw2.setCell (p := ⟨w.heap.size + 1, 0, none⟩) (by simp) (.slice none 0 0)).setCell (p := ⟨w.heap.size + 1 + 1, 0, none⟩) (by simp; omega) (.bool false)
    generalize (w2.setCell ⟨w.heap.size + 1, 0, none⟩ (.slice none 0 0)).setCell ⟨w.heap.size + 1 + 1, 0, none⟩ (.bool false) = w9 at r1 r2 r3 ⊢
    have e1 := r1.cell (i := 0) rfl
    have e2 := r2.cell (i := 0) rfl
    have hR := logPost_no (f := f) (m := m) (logB_fs hF) r3
    simp [Leaves, settle, results, Tryz.results116, go_sem, e1, e2]
    exact hR
  | true =>
    have hm64 := wf_i64 hm
    have hf64 := wf_i64 hf
    have c0 := q0.cell (i := 0) rfl
    have c1 := q0.cell (i := 1) rfl
    have c2 := q0.cell (i := 2) rfl
    go_wp2_with (fail)
    refine (numbers_any _ f m w2 hf hm).mono ?_
    rintro e w3 ⟨rfl, hb3⟩
    have hw3 := hw2.trans (hb3.mono hw2.size)
    have p0 := q0.below hb3 q0.lt
    have p1 := q1.below hb3 q1.lt
    have p2 := q2.below hb3 q2.lt
    have hz3 := hb3.size
    have hz3' : w.heap.size + 3 ≤ w3.heap.size := by omega
    clear q0 q1 q2 hb3 hw2 hz3 c0 c1 c2 hz2'
    have c0 := p0.cell (i := 0) rfl
    have c1 := p0.cell (i := 1) rfl
    have c2 := p0.cell (i := 2) rfl
    have y0 := p1.cell (i := 0) rfl
    have y1 := p2.cell (i := 0) rfl
    have z0 := p1.froz 0
    have z1 := p2.froz 0
    by_cases hok : numOK f m = true ∧ (L.length : Int) = m / 4 + 1
    · obtain ⟨hN, hlen⟩ := hok
      have hnn := numOK_iff.1 hN
      obtain ⟨g1, g2, g3, g4, g5, g6⟩ := hnn
      have hne : ((L.length : Int) != m / 4 + 1) = false := by simp [hlen]
      have hl16 : L.length ≤ 16 := by omega
      have HLEN := Lib.hid hlen
      have HG3 := Lib.hid g3
      have HN := Lib.hid hN
      have HF := Lib.hid hF
      clear hlen g3 hN hF
      go_wp2
      go_loopw [4, 5, 6, 7, 33] (fun _ _ _ _ i wr => ∃ (k : Nat) (v : Value), k ≤ L.length ∧ i = .int .i64 k ∧ (∀ j (h : j < L.length), j < k → goodI L f m j h) ∧ Blk wr w.heap.size 61 [.slice A L.length c, .int .i64 f, .int .i64 m] ∧ Blk wr (w.heap.size + 1) 50 [v] ∧ Blk wr (w.heap.size + 1 + 1) 4 [.bool false] ∧ OwnS wr (w.heap.size + 3) v (allT (L.take k)) ∧ w.heap.size + 3 ≤ wr.heap.size ∧ Below w.heap.size w wr) (fun _ _ _ _ i _ => L.length - (intOf i).toNat)
      case atStart => exact ⟨0, _, by omega, rfl, fun j _ h => by omega, p0, p1, p2, by rw [List.take_zero]; exact World.ownsRow_nil _ _ _ _, hz3', hw3⟩
      case round =>
        obtain ⟨k, v, hk, rfl, hgood, u0, u1, u2, hO, hzr, hb⟩ := hrel
        by_cases hlt : k < L.length
        · obtain ⟨a, rfl, hab, d0, d1, d2, hff⟩ := (hL.below hb (Nat.le_refl _)).at k hlt
          go_wp2_with (fail)
          have hW := Blk.fresh wr 53 [.string L[k].name, .string L[k].data, .int .i64 L[k].sync]
          have t0 := u0.alloc (.cells #[.string L[k].name, .string L[k].data, .int .i64 L[k].sync] 53)
          have t1 := u1.alloc (.cells #[.string L[k].name, .string L[k].data, .int .i64 L[k].sync] 53)
          have t2 := u2.alloc (.cells #[.string L[k].name, .string L[k].data, .int .i64 L[k].sync] 53)
          have hO4 : OwnS (wr.alloc (.cells #[.string L[k].name, .string L[k].data, .int .i64 L[k].sync] 53)) _ _ _ := World.ownsRow.alloc hO (.cells #[.string L[k].name, .string L[k].data, .int .i64 L[k].sync] 53)
          have hb4 := hb.alloc hb.size (.cells #[.string L[k].name, .string L[k].data, .int .i64 L[k].sync] 53)
          have hz4 : wr.heap.size + 1 ≤ (wr.alloc (.cells #[.string L[k].name, .string L[k].data, .int .i64 L[k].sync] 53)).heap.size := by simp
          simp only [List.toArray] at hW t0 t1 t2 hO4 hb4 hz4
          generalize wr.alloc (.cells #[.string L[k].name, .string L[k].data, .int .i64 L[k].sync] 53) = w4 at hW t0 t1 t2 hO4 hb4 hz4 ⊢
          generalize hB : wr.heap.size = B at *
          have hP4 := hP.below hb4
          have hH4 := Handle.below hH hb4
          have hS4 := hS.below hb4
          clear d0 d1 d2 u0 u1 u2 hO p0 p1 p2 c0 c1 c2 y0 y1 z0 z1 hw3 hb
          obtain ⟨s, HS⟩ : ∃ s, Hid (segN (f + (k : Int) * 4) = s) := ⟨_, Lib.hid rfl⟩
          have NR : Hid (∀ W, Below w4.heap.size w4 W → Calls Tryz.prog 110 #[.int .i64 (f + (k : Int) * 4)] W fun e w' => e = .returned (.string s) ∧ Below W.heap.size W w') := Lib.hid fun W h => by have := implSegName_any (f + (k : Int) * 4) W (hP4.below h); rw [HS.out] at this; exact this
          have e1 : IntKind.i64.wrap (f + (k : Int) * 4) = f + (k : Int) * 4 := IntWalk.i64_in _ (by omega)
          have n0 := hW.cell (i := 0) rfl
          have n1 := t0.cell (i := 1) rfl
          obtain ⟨I, fw, hI, g5, h6, g6, g7⟩ := class_grown w4
          have g0 : ∀ s, (fw s).cell? ⟨B, 0, none⟩ = some (.string L[k].name) := fun s => kept_cell (h6 s) n0
          have g2 : ∀ s, (fw s).cell? ⟨w.heap.size, 1, none⟩ = some (.int .i64 f) := fun s => kept_cell (h6 s) n1
          have G7 := Lib.hid g7
          have G6 := Lib.hid g6
          have hv1 : v.oneCell' = true := by obtain ⟨_, _, rfl⟩ := ownS_some hO4; rfl
          have hfile := fsOK_file HF.out hlt
          clear h6 n0 n1 g7 g6
          by_cases hname : L[k].name = s
          · have dn := str_beq_t hname
            have HNM := Lib.hid hname
            clear hname
            refine wp_region_class_tail (C := fun w' => ∃ s, w' = fw s) 8 (by kernel_rfl) (by kernel_rfl) g5 ?_
            simp only [List.take_succ_cons, List.take_zero, List.drop_succ_cons, List.drop_zero]
            repeat (first
              | go_big_quiet_skip
              | (go_big_quiet_want; go_big_quiet_op; first | go_big_quiet_on | (apply Exists.intro; refine ⟨fun s => ?_, ?_⟩; (go_at_call 110; refine (NR.out _ (G7.out _ ⟨_, rfl⟩)).mono ?_; rintro e w9 ⟨rfl, hb9⟩; exact ⟨rfl, G6.out _ _ hb9⟩); go_big_quiet_on)))
            refine wpQuiet_nil ?_
            intro w5 h5
            have hb45 := G7.out _ h5
            have W5 := hW.below hb45 hW.lt
            have y0 := t0.below hb45 t0.lt
            have y1 := t1.below hb45 t1.lt
            have y2 := t2.below hb45 t2.lt
            have hO5 : OwnS w5 _ _ _ := row_below hO4 hb45 (Nat.le_refl _)
            have hb5 := hb4.trans (hb45.mono hb4.size)
            have hz5 := hb45.size
            clear g0 g2 g5 h5 hb45 hW t0 t1 t2 hO4
            have m1 := W5.cell (i := 1) rfl
            have m2 := y0.cell (i := 1) rfl
            go_wp2_with (go_at_call 146; refine (must_yes _).mono ?_; rintro e w' ⟨rfl, rfl⟩)
            have hfk : f + (k : Int) * 4 ≤ 900000 := by have := HLEN.out; omega
            have hf4 : (f + (k : Int) * 4) % 4 = 0 := by have := HG3.out; omega
            have HF4 := Lib.hid hf4
            clear hf4 m1 m2
            by_cases hfl : (frs L[k].data 0).length ≤ 4
            · refine (readSegment_ok L[k].data (f + (k : Int) * 4) w5 (by omega) (by omega) hfk HF4.out hfl (Handle.below hH hb5)).mono ?_
              obtain ⟨P, HP⟩ : ∃ P, Hid (tx L[k] = P) := ⟨_, Lib.hid rfl⟩
              obtain ⟨E, HE⟩ : ∃ E, Hid (en L[k] = E) := ⟨_, Lib.hid rfl⟩
              have HP' := HP.out
              have HE' := HE.out
              unfold tx at HP'
              unfold en at HE'
              have hPl : P.length ≤ 4 := by rw [← HP', List.length_map]; exact hfl
              rw [HP', HE']
              clear HP' HE' hfl
              rintro e w6 ⟨u, rfl, hU6, hb6⟩
              obtain ⟨Au, cu, rfl⟩ := ownS_some hU6
              obtain ⟨bw, HBW⟩ : ∃ b, Hid (((E : Int) == (L[k].data.size : Int)) = b) := ⟨_, Lib.hid rfl⟩
              simp only [sgmV]
              rw [HBW.out]
              have hz6 := hb6.size
              have y06 := (y0.below hb6 y0.lt).alloc (.cells #[.slice Au P.length cu, .int .i64 (E : Int), .bool bw] 153)
              have y16 := (y1.below hb6 y1.lt).alloc (.cells #[.slice Au P.length cu, .int .i64 (E : Int), .bool bw] 153)
              have y26 := (y2.below hb6 y2.lt).alloc (.cells #[.slice Au P.length cu, .int .i64 (E : Int), .bool bw] 153)
              have hO6 : OwnS (w6.alloc (.cells #[.slice Au P.length cu, .int .i64 (E : Int), .bool bw] 153)) _ _ _ := World.ownsRow.alloc (row_below hO5 hb6 (Nat.le_refl _)) (.cells #[.slice Au P.length cu, .int .i64 (E : Int), .bool bw] 153)
              have hU7 : OwnS (w6.alloc (.cells #[.slice Au P.length cu, .int .i64 (E : Int), .bool bw] 153)) _ _ _ := World.ownsRow.alloc hU6 (.cells #[.slice Au P.length cu, .int .i64 (E : Int), .bool bw] 153)
              have hb7 := (hb5.trans (hb6.mono hb5.size)).alloc (hb5.trans (hb6.mono hb5.size)).size (.cells #[.slice Au P.length cu, .int .i64 (E : Int), .bool bw] 153)
              have S7 := Blk.fresh w6 153 [.slice Au P.length cu, .int .i64 (E : Int), .bool bw]
              simp only [List.toArray] at S7
              have p0 := S7.cell (i := 0) rfl
              have p2 := S7.cell (i := 2) rfl
              have p3 := y06.cell (i := 2) rfl
              obtain ⟨aS, hA⟩ := hS.below hb7
              clear y0 y1 y2 hO5 hU6 hb6 hb5 W5
              have hal : (allT (L.take k)).length ≤ 4 * k := allT_le L k (by omega) (fun i hi h => by have := (hgood i hi h).2.2; omega)
              cases bw with
              | true =>
                have hwh : E = L[k].data.size := by have := HBW.out; simp at this; omega
                have HWH := Lib.hid hwh
                clear hwh
                by_cases hmin : (P.length : Int) = min 4 (m - (k : Int) * 4)
                · have dm : ((P.length : Int) == min 4 (m - (k : Int) * 4)) = true := by rw [hmin]; simp
                  have HMIN := Lib.hid hmin
                  obtain ⟨Av, cv, rfl⟩ := ownS_some hO6
                  have p1 := y16.cell (i := 0) rfl
                  have q1 := y16.froz 0
                  clear hmin hA
                  go_wp2_with (first
                    | (go_at_call 146; refine (must_yes _).mono ?_; rintro e w' ⟨rfl, rfl⟩)
                    | (at_builtin; refine wpList_append_S rfl _ _ rfl (w.heap.size + 3) _ (allT (L.take k)) rfl hO6 _ _ P rfl hU7 (by omega) (by simp; omega) ?_; intro v8 w8 hO8 hg8; obtain ⟨A8, c8, rfl⟩ := ownS_some hO8; have y18 := y16.grown hg8 (fun e => by have := (hO6.lt _ e.symm).1; omega); have p8 := y18.cell (i := 0) rfl; have q8 := y18.froz 0))
                  have y08 := y06.grown hg8 (fun e => by have := (hO6.lt _ e.symm).1; omega)
                  have y28 := y26.grown hg8 (fun e => by have := (hO6.lt _ e.symm).1; omega)
                  have hw8 := hb7.grown hg8 hb7.size (fun j e => by have := (hO6.lt j e).1; omega)
                  have hz8 := hg8.size
                  simp only [World.size_alloc] at hz8
                  refine ⟨⟨k + 1, _, by omega, by go_num, fun j hj hjk => ?_, y08.far (p := ⟨w.heap.size + 1, 0, none⟩) (by simp) _, y18.put 0 _, y28.far (p := ⟨w.heap.size + 1, 0, none⟩) (by simp) _, ?_, by simp; omega, hw8.setCell (p := ⟨w.heap.size + 1, 0, none⟩) (by simp) _⟩, by simp [intOf]; omega⟩
                  · by_cases e : j = k
                    · subst e; exact ⟨HNM.out.trans HS.out.symm, HE.out.trans HWH.out, by rw [HP.out]; exact HMIN.out⟩
                    · exact hgood j hj (by omega)
                  · rw [allT_take L k hlt, HP.out]
                    have hO9 : OwnS w8 (w.heap.size + 3) (.slice A8 ((allT (L.take k)).length + P.length) c8) (allT (L.take k) ++ P) := by rw [← List.length_append]; exact hO8
                    exact row_far hO9 (p := ⟨w.heap.size + 1, 0, none⟩) (by simp) _
                · have dm : ((P.length : Int) == min 4 (m - (k : Int) * 4)) = false := by simpa using hmin
                  have HBAD : Hid (logB L f m = false) := Lib.hid (logB_not hlt fun h => hmin (by have := h.2.2; rw [HP.out] at this; exact this))
                  clear hmin
                  go_wp2_with (go_at_call 146; refine (must_no aS _ hA).mono ?_; rintro e w' ⟨rfl, rfl⟩)
                  generalize w6.alloc (.cells #[.slice Au P.length cu, .int .i64 (E : Int), .bool true] 153) = w7 at y16 y26 hb7 ⊢
                  refine leaves_cons (f := 144) (args := #[.pointer (some ⟨w.heap.size + 1, 0, none⟩), .pointer (some ⟨w.heap.size + 1 + 1, 0, none⟩)]) (by simp) (by simp [go_sem]) ?_
                  refine (catch_panicking ⟨w.heap.size + 1, 0, none⟩ ⟨w.heap.size + 1 + 1, 0, none⟩ v (.bool false) 249 (.pointer (some aS)) [] w7 (by simp) (y16.cell (i := 0) rfl) (y16.froz 0) (y26.cell (i := 0) rfl) (y26.froz 0) hv1 rfl).mono ?_
                  rintro e u' w'' ⟨rfl, rfl, rfl⟩
                  have r1 := (y16.put 0 (.slice none 0 0)).far (p := ⟨w.heap.size + 1 + 1, 0, none⟩) (by simp) (.bool false)
                  have r2 := (y26.far (p := ⟨w.heap.size + 1, 0, none⟩) (by simp) (.slice none 0 0)).put 0 (.bool false)
                  have r3 := (hb7.setCell (p := ⟨w.heap.size + 1, 0, none⟩) (by simp) (.slice none 0 0)).setCell (p := ⟨w.heap.size + 1 + 1, 0, none⟩) (by simp; omega) (.bool false)
                  generalize (w7.setCell ⟨w.heap.size + 1, 0, none⟩ (.slice none 0 0)).setCell ⟨w.heap.size + 1 + 1, 0, none⟩ (.bool false) = w9 at r1 r2 r3 ⊢
                  have e1 := r1.cell (i := 0) rfl
                  have e2 := r2.cell (i := 0) rfl
                  have hR := logPost_no (f := f) (m := m) HBAD.out r3
                  simp [Leaves, settle, results, Tryz.results116, go_sem, e1, e2]
                  exact hR
              | false =>
                have HBAD : Hid (logB L f m = false) := Lib.hid (logB_not hlt fun h => by have := HBW.out; have h2 := h.2.1; rw [HE.out] at h2; simp at this; omega)
                go_wp2_with (go_at_call 146; refine (must_no aS _ hA).mono ?_; rintro e w' ⟨rfl, rfl⟩)
                generalize w6.alloc (.cells #[.slice Au P.length cu, .int .i64 (E : Int), .bool false] 153) = w7 at y16 y26 hb7 ⊢
                refine leaves_cons (f := 144) (args := #[.pointer (some ⟨w.heap.size + 1, 0, none⟩), .pointer (some ⟨w.heap.size + 1 + 1, 0, none⟩)]) (by simp) (by simp [go_sem]) ?_
                refine (catch_panicking ⟨w.heap.size + 1, 0, none⟩ ⟨w.heap.size + 1 + 1, 0, none⟩ v (.bool false) 249 (.pointer (some aS)) [] w7 (by simp) (y16.cell (i := 0) rfl) (y16.froz 0) (y26.cell (i := 0) rfl) (y26.froz 0) hv1 rfl).mono ?_
                rintro e u' w'' ⟨rfl, rfl, rfl⟩
                have r1 := (y16.put 0 (.slice none 0 0)).far (p := ⟨w.heap.size + 1 + 1, 0, none⟩) (by simp) (.bool false)
                have r2 := (y26.far (p := ⟨w.heap.size + 1, 0, none⟩) (by simp) (.slice none 0 0)).put 0 (.bool false)
                have r3 := (hb7.setCell (p := ⟨w.heap.size + 1, 0, none⟩) (by simp) (.slice none 0 0)).setCell (p := ⟨w.heap.size + 1 + 1, 0, none⟩) (by simp; omega) (.bool false)
                generalize (w7.setCell ⟨w.heap.size + 1, 0, none⟩ (.slice none 0 0)).setCell ⟨w.heap.size + 1 + 1, 0, none⟩ (.bool false) = w9 at r1 r2 r3 ⊢
                have e1 := r1.cell (i := 0) rfl
                have e2 := r2.cell (i := 0) rfl
                have hR := logPost_no (f := f) (m := m) HBAD.out r3
                simp [Leaves, settle, results, Tryz.results116, go_sem, e1, e2]
                exact hR
            · have HBAD : Hid (logB L f m = false) := Lib.hid (logB_not hlt fun h => hfl (by have := h.2.2; have h2 : (tx L[k]).length = (frs L[k].data 0).length := by simp [tx]
                                                                                             omega))
              refine (readSegment_bad L[k].data (f + (k : Int) * 4) w5 (by omega) (by omega) hfk HF4.out hfl (Handle.below hH hb5) (hS.below hb5)).mono ?_
              rintro e w6 ⟨⟨aS, rfl⟩, hb6⟩
              have hz6 := hb6.size
              have y16 := y1.below hb6 y1.lt
              have y26 := y2.below hb6 y2.lt
              have hw6 := hb5.trans (hb6.mono hb5.size)
              clear hfl
              refine leaves_cons (f := 144) (args := #[.pointer (some ⟨w.heap.size + 1, 0, none⟩), .pointer (some ⟨w.heap.size + 1 + 1, 0, none⟩)]) (by simp) (by simp [go_sem]) ?_
              refine (catch_panicking ⟨w.heap.size + 1, 0, none⟩ ⟨w.heap.size + 1 + 1, 0, none⟩ v (.bool false) 249 (.pointer (some aS)) [] w6 (by simp) (y16.cell (i := 0) rfl) (y16.froz 0) (y26.cell (i := 0) rfl) (y26.froz 0) hv1 rfl).mono ?_
              rintro e u' w'' ⟨rfl, rfl, rfl⟩
              have r1 := (y16.put 0 (.slice none 0 0)).far (p := ⟨w.heap.size + 1 + 1, 0, none⟩) (by simp) (.bool false)
              have r2 := (y26.far (p := ⟨w.heap.size + 1, 0, none⟩) (by simp) (.slice none 0 0)).put 0 (.bool false)
              have r3 := (hw6.setCell (p := ⟨w.heap.size + 1, 0, none⟩) (by simp) (.slice none 0 0)).setCell (p := ⟨w.heap.size + 1 + 1, 0, none⟩) (by simp; omega) (.bool false)
              generalize (w6.setCell ⟨w.heap.size + 1, 0, none⟩ (.slice none 0 0)).setCell ⟨w.heap.size + 1 + 1, 0, none⟩ (.bool false) = w9 at r1 r2 r3 ⊢
              have e1 := r1.cell (i := 0) rfl
              have e2 := r2.cell (i := 0) rfl
              have hR := logPost_no (f := f) (m := m) HBAD.out r3
              simp [Leaves, settle, results, Tryz.results116, go_sem, e1, e2]
              exact hR
          · have dn := str_beq_f hname
            have HBAD : Hid (logB L f m = false) := Lib.hid (logB_not hlt fun h => hname (h.1.trans HS.out))
            clear hname
            refine wp_region_class_tail (C := fun w' => ∃ s, w' = fw s) 8 (by kernel_rfl) (by kernel_rfl) g5 ?_
            simp only [List.take_succ_cons, List.take_zero, List.drop_succ_cons, List.drop_zero]
            repeat (first
              | go_big_quiet_skip
              | (go_big_quiet_want; go_big_quiet_op; first | go_big_quiet_on | (apply Exists.intro; refine ⟨fun s => ?_, ?_⟩; (go_at_call 110; refine (NR.out _ (G7.out _ ⟨_, rfl⟩)).mono ?_; rintro e w9 ⟨rfl, hb9⟩; exact ⟨rfl, G6.out _ _ hb9⟩); go_big_quiet_on)))
            refine wpQuiet_nil ?_
            intro w5 h5
            have hb45 := G7.out _ h5
            have W5 := hW.below hb45 hW.lt
            have y0 := t0.below hb45 t0.lt
            have y1 := t1.below hb45 t1.lt
            have y2 := t2.below hb45 t2.lt
            have hO5 : OwnS w5 _ _ _ := row_below hO4 hb45 (Nat.le_refl _)
            have hb5 := hb4.trans (hb45.mono hb4.size)
            have hz5 := hb45.size
            clear g0 g2 g5 h5 hb45 hW t0 t1 t2 hO4
            obtain ⟨aS, hA⟩ := hS.below hb5
            go_wp2_with (go_at_call 146; refine (must_no aS _ hA).mono ?_; rintro e w' ⟨rfl, rfl⟩)
            refine leaves_cons (f := 144) (args := #[.pointer (some ⟨w.heap.size + 1, 0, none⟩), .pointer (some ⟨w.heap.size + 1 + 1, 0, none⟩)]) (by simp) (by simp [go_sem]) ?_
            refine (catch_panicking ⟨w.heap.size + 1, 0, none⟩ ⟨w.heap.size + 1 + 1, 0, none⟩ v (.bool false) 249 (.pointer (some aS)) [] w5 (by simp) (y1.cell (i := 0) rfl) (y1.froz 0) (y2.cell (i := 0) rfl) (y2.froz 0) hv1 rfl).mono ?_
            rintro e u' w'' ⟨rfl, rfl, rfl⟩
            have r1 := (y1.put 0 (.slice none 0 0)).far (p := ⟨w.heap.size + 1 + 1, 0, none⟩) (by simp) (.bool false)
            have r2 := (y2.far (p := ⟨w.heap.size + 1, 0, none⟩) (by simp) (.slice none 0 0)).put 0 (.bool false)
            have r3 := (hb5.setCell (p := ⟨w.heap.size + 1, 0, none⟩) (by simp) (.slice none 0 0)).setCell (p := ⟨w.heap.size + 1 + 1, 0, none⟩) (by simp; omega) (.bool false)
            generalize (w5.setCell ⟨w.heap.size + 1, 0, none⟩ (.slice none 0 0)).setCell ⟨w.heap.size + 1 + 1, 0, none⟩ (.bool false) = w9 at r1 r2 r3 ⊢
            have e1 := r1.cell (i := 0) rfl
            have e2 := r2.cell (i := 0) rfl
            have hR := logPost_no (f := f) (m := m) HBAD.out r3
            simp [Leaves, settle, results, Tryz.results116, go_sem, e1, e2]
            exact hR
        · obtain rfl : k = L.length := by omega
          have hlen : L.take L.length = L := List.take_of_length_le (Nat.le_refl _)
          rw [hlen] at hO
          have hYES : logB L f m = true := logB_iff.2 ⟨HF.out, HN.out, HLEN.out, fun i h => hgood i h h⟩
          have HYES := Lib.hid hYES
          obtain ⟨Av, cv, rfl⟩ := ownS_some hO
          have d1 := u1.cell (i := 0) rfl
          have f1 := u1.froz 0
          have d2 := u2.cell (i := 0) rfl
          have f2 := u2.froz 0
          clear hlen hYES p0 p1 p2 c0 c1 c2 y0 y1 z0 z1
          go_wp2
          refine leaves_cons (f := 144) (args := #[.pointer (some ⟨w.heap.size + 1, 0, none⟩), .pointer (some ⟨w.heap.size + 1 + 1, 0, none⟩)]) (by simp) (by simp [go_sem]) ?_
          refine (catch_idle _ _ _).mono ?_
          rintro e u' w'' ⟨rfl, rfl, rfl⟩
          have r1 := (u1.put 0 (.slice Av (allT L).length cv)).far (p := ⟨w.heap.size + 1 + 1, 0, none⟩) (by simp) (.bool true)
          have r2 := (u2.far (p := ⟨w.heap.size + 1, 0, none⟩) (by simp) (.slice Av (allT L).length cv)).put 0 (.bool true)
          have r3 := (hb.setCell (p := ⟨w.heap.size + 1, 0, none⟩) (by simp) (.slice Av (allT L).length cv)).setCell (p := ⟨w.heap.size + 1 + 1, 0, none⟩) (by simp; omega) (.bool true)
          have r4 := row_far (row_far hO (p := ⟨w.heap.size + 1, 0, none⟩) (by simp) (.slice Av (allT L).length cv)) (p := ⟨w.heap.size + 1 + 1, 0, none⟩) (by simp) (.bool true)
          generalize (wr.setCell ⟨w.heap.size + 1, 0, none⟩ (.slice Av (allT L).length cv)).setCell ⟨w.heap.size + 1 + 1, 0, none⟩ (.bool true) = w9 at r1 r2 r3 r4 ⊢
          have e1 := r1.cell (i := 0) rfl
          have e2 := r2.cell (i := 0) rfl
          have hR := logPost_yes (f := f) (m := m) HYES.out (ownS_base r4 (by omega)) r3
          simp [Leaves, settle, results, Tryz.results116, go_sem, e1, e2]
          exact hR
    · have hlog : logB L f m = false := by
        cases e : logB L f m with
        | false => rfl
        | true => exact absurd ⟨(logB_iff.1 e).2.1, (logB_iff.1 e).2.2.1⟩ hok
      have HLOG := Lib.hid hlog
      clear hlog
      cases hN : numOK f m with
      | false =>
        clear hok
        go_wp2
        refine leaves_cons (f := 144) (args := #[.pointer (some ⟨w.heap.size + 1, 0, none⟩), .pointer (some ⟨w.heap.size + 1 + 1, 0, none⟩)]) (by simp) (by simp [go_sem]) ?_
        refine (catch_idle _ _ _).mono ?_
        rintro e u' w'' ⟨rfl, rfl, rfl⟩
        have r1 := (p1.put 0 (.slice none 0 0)).far (p := ⟨w.heap.size + 1 + 1, 0, none⟩) (by simp) (.bool false)
        have r2 := (p2.far (p := ⟨w.heap.size + 1, 0, none⟩) (by simp) (.slice none 0 0)).put 0 (.bool false)
        have r3 := (hw3.setCell (p := ⟨w.heap.size + 1, 0, none⟩) (by simp) (.slice none 0 0)).setCell (p := ⟨w.heap.size + 1 + 1, 0, none⟩) (by simp; omega) (.bool false)
        generalize (w3.setCell ⟨w.heap.size + 1, 0, none⟩ (.slice none 0 0)).setCell ⟨w.heap.size + 1 + 1, 0, none⟩ (.bool false) = w9 at r1 r2 r3 ⊢
        have e1 := r1.cell (i := 0) rfl
        have e2 := r2.cell (i := 0) rfl
        have hR := logPost_no (f := f) (m := m) HLOG.out r3
        simp [Leaves, settle, results, Tryz.results116, go_sem, e1, e2]
        exact hR
      | true =>
        have hne : ((L.length : Int) != m / 4 + 1) = true := by simp; exact fun h => hok ⟨hN, h⟩
        have hnn := numOK_iff.1 hN
        obtain ⟨g1, g2, g3, g4, g5, g6⟩ := hnn
        clear g3 hok
        go_wp2
        refine leaves_cons (f := 144) (args := #[.pointer (some ⟨w.heap.size + 1, 0, none⟩), .pointer (some ⟨w.heap.size + 1 + 1, 0, none⟩)]) (by simp) (by simp [go_sem]) ?_
        refine (catch_idle _ _ _).mono ?_
        rintro e u' w'' ⟨rfl, rfl, rfl⟩
        have r1 := (p1.put 0 (.slice none 0 0)).far (p := ⟨w.heap.size + 1 + 1, 0, none⟩) (by simp) (.bool false)
        have r2 := (p2.far (p := ⟨w.heap.size + 1, 0, none⟩) (by simp) (.slice none 0 0)).put 0 (.bool false)
        have r3 := (hw3.setCell (p := ⟨w.heap.size + 1, 0, none⟩) (by simp) (.slice none 0 0)).setCell (p := ⟨w.heap.size + 1 + 1, 0, none⟩) (by simp; omega) (.bool false)
        generalize (w3.setCell ⟨w.heap.size + 1, 0, none⟩ (.slice none 0 0)).setCell ⟨w.heap.size + 1 + 1, 0, none⟩ (.bool false) = w9 at r1 r2 r3 ⊢
        have e1 := r1.cell (i := 0) rfl
        have e2 := r2.cell (i := 0) rfl
        have hR := logPost_no (f := f) (m := m) HLOG.out r3
        simp [Leaves, settle, results, Tryz.results116, go_sem, e1, e2]
        exact hR
end Go.Proofs.YtebkblmejkkhfaaGreatDoor

namespace Go.Proofs.YtebkblmejkkhfaaGreatDoor
open Go.RowKit
set_option linter.unusedVariables false

theorem specSeglogRight_any (A : Option Addr) (L : List Fil) (c : Nat) (f m : Int) (w : World) (hL : Fls w w.heap.size A L) (hf : (Lit.int .i64 f).wf = true) (hm : (Lit.int .i64 m).wf = true) :
    Calls Tryz.prog 106 #[segV (.slice A L.length c) f m] w fun e w' => e = .returned (.bool (logB L f m)) ∧ Below w.heap.size w w' := by
  have hb0 : Below w.heap.size w (w.alloc (.cells #[.slice A L.length c, .int .i64 f, .int .i64 m] 61)) := (Below.refl _ _).alloc (Nat.le_refl _) _
  have HR := Lib.hid (specLogR_any A L c f m _ ((hL.below hb0 (Nat.le_refl _)).mono hb0.size) hf hm)
  clear hf hm
  go_enter Tryz.func106, Tryz.ntmps106
  go_wp2_with (go_at_call 115; refine HR.out.mono ?_; rintro e w1 ⟨v, rfl, _, hb1⟩)
  go_ret
  exact ⟨rfl, hb0.trans (hb1.mono hb0.size)⟩
theorem implSeglogRight_any (A : Option Addr) (L : List Fil) (c : Nat) (f m : Int) (w : World) (hL : Fls w w.heap.size A L) (hf : (Lit.int .i64 f).wf = true) (hm : (Lit.int .i64 m).wf = true) (hP : Pow w) (hH : Handle w) (hS : Seg w) :
    Calls Tryz.prog 109 #[segV (.slice A L.length c) f m] w fun e w' => e = .returned (.bool (logB L f m)) ∧ Below w.heap.size w w' := by
  have hb0 : Below w.heap.size w (w.alloc (.cells #[.slice A L.length c, .int .i64 f, .int .i64 m] 61)) := (Below.refl _ _).alloc (Nat.le_refl _) _
  have HR := Lib.hid (logTexts_any A L c f m _ ((hL.below hb0 (Nat.le_refl _)).mono hb0.size) hf hm (hP.below hb0) (Handle.below hH hb0) (hS.below hb0))
  clear hf hm
  go_enter Tryz.func109, Tryz.ntmps109
  go_wp2_with (go_at_call 116; refine HR.out.mono ?_; rintro e w1 ⟨v, rfl, _, _, hb1⟩)
  go_ret
  exact ⟨rfl, hb0.trans (hb1.mono hb0.size)⟩
theorem bothSeglogRight (L : List Fil) (f m : Int) (hf : ∀ f ∈ L, f.fits) (hS : Small L) (hfw : (Lit.int .i64 f).wf = true) (hmw : (Lit.int .i64 m).wf = true) :
    ∃ bo : Bool, (∀ (A : Option Addr) (c : Nat) (W : World), Fls W W.heap.size A L → L.length ≤ c → c ≤ maxLen → Calls Tryz.prog 106 #[.agg #[.slice A L.length c, .int .i64 f, .int .i64 m]] W fun e w' => e = .returned (.bool bo) ∧ Below W.heap.size W w') ∧
      (∀ (A : Option Addr) (c : Nat) (W : World), Fls W W.heap.size A L → L.length ≤ c → c ≤ maxLen → Pow W → Handle W → Seg W → Calls Tryz.prog 109 #[.agg #[.slice A L.length c, .int .i64 f, .int .i64 m]] W fun e w' => e = .returned (.bool bo) ∧ Below W.heap.size W w') :=
  ⟨logB L f m, fun A c W h _ _ => specSeglogRight_any A L c f m W h hfw hmw, fun A c W h _ _ hP hH hS => implSeglogRight_any A L c f m W h hfw hmw hP hH hS⟩
end Go.Proofs.YtebkblmejkkhfaaGreatDoor

namespace Go.Proofs.YtebkblmejkkhfaaGreatDoor
open Go.RowKit
set_option linter.unusedVariables false
set_option maxRecDepth 1000000

/-- Behind the append: the box b holds its answer. -/
def ApCut (w : World) (M : List Fil) (cd : Int) (P Q : List Value) (y : Value) (wx : World) : Prop :=
  ∃ (b : Nat) (C : Option Addr) (x : Nat), y = .pointer (some ⟨b, 0, none⟩) ∧ w.heap.size + 1 < b ∧ Blk wx b 29 [.slice C M.length x, .int .i64 cd] ∧ OwnF wx (w.heap.size + 2) (.slice C M.length x) M ∧ Blk wx w.heap.size 61 P ∧ Blk wx (w.heap.size + 1) 63 Q ∧ Below w.heap.size w wx
section
variable {w W w5 : World} {M : List Fil} {cd : Int} {P Q : List Value} {C : Option Addr} {x b : Nat}
theorem ap_late (hO : OwnF w5 W.heap.size (.slice C M.length x) M) (hb5 : Below W.heap.size W w5) (hP : Blk W w.heap.size 61 P) (hQ : Blk W (w.heap.size + 1) 63 Q) (hs : Below w.heap.size w W) :
    ApCut w M cd P Q (.pointer (some ⟨w5.heap.size, 0, none⟩)) (w5.alloc (.cells #[.slice C M.length x, .int .i64 cd] 29)) := by
  have h1 := hQ.lt
  have h2 := hb5.size
  have h3 := Blk.fresh w5 29 [.slice C M.length x, .int .i64 cd]
  refine ⟨w5.heap.size, C, x, rfl, by omega, h3, ?_, (hP.below hb5 hP.lt).alloc _, (hQ.below hb5 hQ.lt).alloc _, (hs.trans (hb5.mono hs.size)).alloc (hs.trans (hb5.mono hs.size)).size _⟩
  exact OwnF.base (OwnF.below (w' := w5.alloc (.cells #[.slice C M.length x, .int .i64 cd] 29)) hO ((Below.refl _ _).alloc (Nat.le_refl _) _) (Nat.le_refl _)) (by omega)
theorem ap_early (hO : OwnF w5 W.heap.size (.slice C M.length x) M) (hb5 : Below W.heap.size W w5) (hP : Blk W w.heap.size 61 P) (hQ : Blk W (w.heap.size + 1) 63 Q) (hs : Below w.heap.size w W) {z0 z1 : Value} (hB : Blk W b 29 [z0, z1]) (hbb : w.heap.size + 1 < b) :
    ApCut w M cd P Q (.pointer (some ⟨b, 0, none⟩)) ((w5.setCell ⟨b, 0, none⟩ (.slice C M.length x)).setCell ⟨b, 1, none⟩ (.int .i64 cd)) := by
  have h1 := hQ.lt
  have h2 := hb5.size
  have h4 := hB.lt
  have hne : (Value.slice C M.length x).ownBlock ≠ some b := fun e => by have := (hO.1.lt _ e).1; omega
  refine ⟨b, C, x, rfl, hbb, ((hB.below hb5 hB.lt).put 0 _).put 1 _, ?_, ((hP.below hb5 hP.lt).far (p := ⟨b, 0, none⟩) (by simp; omega) _).far (p := ⟨b, 1, none⟩) (by simp; omega) _, ((hQ.below hb5 hQ.lt).far (p := ⟨b, 0, none⟩) (by simp; omega) _).far (p := ⟨b, 1, none⟩) (by simp; omega) _, ?_⟩
  · exact OwnF.base (base := W.heap.size) ⟨row_off (row_off hO.1 (p := ⟨b, 0, none⟩) hne _) (p := ⟨b, 1, none⟩) hne _, hO.2⟩ (by omega)
  · have h5 := hs.trans (hb5.mono hs.size)
    exact (h5.setCell (p := ⟨b, 0, none⟩) (by simp; omega) _).setCell (p := ⟨b, 1, none⟩) (by simp; omega) _
end
theorem ApCut.drew {w : World} {M : List Fil} {cd : Int} {P Q : List Value} {y : Value} {wx : World} (h : ApCut w M cd P Q y wx) : ApCut w M cd P Q y wx.drew := by
  obtain ⟨b, C, x, h1, h2, h3, h4, h5, h6, h7⟩ := h
  exact ⟨b, C, x, h1, h2, h3, h4, h5, h6, below_drew h7⟩
end Go.Proofs.YtebkblmejkkhfaaGreatDoor
