/- The contract of impl.FramesRead. The contracts of spec.l04Read and spec.FramesRead. An argument that is a log. -/
import Derived.Test.YtebkblmejkkhfaaGreatDoorFrIterW
import Derived.Test.YtebkblmejkkhfaaGreatDoorStrW
import Derived.RangeFuncFrom
import Derived.Maps.AppendAt
import Derived.Test.YtebkblmejkkhfaaGreatDoorFilRightW
namespace Go.Proofs.YtebkblmejkkhfaaGreatDoor
open Go.RowKit Go.Shelf
set_option linter.unusedVariables false
attribute [local go_sem] Oper.semAt_some

abbrev framesV (v : Value) (p c : Int) : Value := .agg #[v, .int .i64 p, .int .i64 c]
theorem blk_not_row {W : World} {B : Nat} {t e : TypeId} {cs : List Value} (h : Blk W B t cs) (hte : t ≠ e) {base size k : Nat} {v : Value} {xs : List Value} (hr : W.ownsRow base e size v k xs) : some B ≠ v.ownBlock := by
  rcases hr.2 with ⟨rfl, _⟩ | ⟨g, cap, cur, rfl, _, hgb, _⟩
  · simp [Value.ownBlock]
  · intro e'
    obtain rfl : B = g := by simpa [Value.ownBlock] using e'
    have := (show W.heap[B]? = _ from h).symm.trans hgb
    simp at this
    exact hte this.2
theorem ownR_some {w : World} {base size n : Nat} {e : TypeId} {v : Value} {xs : List Value} (h : w.ownsRow base e size v n xs) : ∃ A c, v = .slice A n c := by
  rcases h.2 with ⟨rfl, hz⟩ | ⟨g, cap, cur, rfl, _⟩
  · exact ⟨none, 0, by rw [hz]⟩
  · exact ⟨_, _, rfl⟩
/-- What is known of the loop's variable between two rounds. -/
def Got (n₀ b : Nat) (pre : List (ByteArray × Nat)) (W : World) : Prop :=
  ∃ v, Blk W b 177 [v, .int .i64 (endOf pre : Int), .int .i64 0] ∧ W.ownsRow n₀ 9 1 v pre.length (pre.map fun x => Value.string x.1)
theorem got_own (n₀ b : Nat) : Own (Got n₀ b) := by
  rintro s X Y row ⟨v, hv, hr⟩ hg hrow
  refine ⟨v, hv.grown hg (fun e' => ?_), hr.kept hg ?_⟩
  · obtain ⟨o, ho, hc⟩ := hrow b e'.symm
    rw [show X.heap[b]? = _ from hv] at ho; cases ho; cases hc
  · rcases hr.2 with ⟨rfl, _⟩ | ⟨g, cap, cur, rfl, _, hgb, _⟩
    · exact .inl rfl
    · refine .inr fun e' => ?_
      obtain ⟨o, ho, hc⟩ := hrow g (by simpa [Value.ownBlock] using e'.symm)
      rw [hgb] at ho; cases ho; cases hc
theorem got_app {W w2 : World} {n₀ b : Nat} {t e : TypeId} {u : Value} {k : Nat} {xs cs : List Value} {tmp : Obj} (hv : Blk W b t cs) (hte : t ≠ e) (hrow : W.ownsRow n₀ e 1 u k xs) (hn₀ : n₀ ≤ W.heap.size) (hgrow : (W.alloc tmp).grownBy w2 u.ownBlock) :
    Blk w2 b t cs ∧ KeepsOthers W w2 ∧ Below n₀ W w2 := by
  refine ⟨(hv.alloc tmp).grown hgrow (blk_not_row hv hte hrow), ?_, ?_⟩
  · refine (KeepsOthers.alloc W tmp).trans (KeepsOthers.of_grownBy hgrow fun j o ej hj => ?_)
    rcases (hrow.alloc tmp).2 with ⟨rfl, _⟩ | ⟨g, cap, cur, rfl, _, hgb, _⟩
    · simp [Value.ownBlock] at ej
    · obtain rfl : g = j := by simpa [Value.ownBlock] using ej
      rw [hgb] at hj; cases hj; rfl
  · refine ((Below.refl n₀ W).alloc hn₀ tmp).grown hgrow (by simp; omega) fun j ej => ?_
    rcases hrow.2 with ⟨rfl, _⟩ | ⟨g, cap, cur, rfl, hb, _, _⟩
    · simp [Value.ownBlock] at ej
    · obtain rfl : g = j := by simpa [Value.ownBlock] using ej
      exact hb
theorem conv_dat (w : World) (s : ByteArray) :
    ∃ v w', (convert 9 22 (.string s)).run Tryz.prog w = .ok v w' ∧ Dat w' w'.heap.size v s ∧ v.ownBlock = some w.heap.size ∧ Below w.heap.size w w' := by
  obtain ⟨w', h1, ⟨g, cap, e, hg0, hg1, hc, h2, h3⟩, h4⟩ := conv_own w s w.heap.size (Nat.le_refl _)
  have hl : (Lib.byteCells s.data.toList).length = s.size := by rw [Lib.byteCells_length, ← Lib.size_eq]
  rw [hl] at e hc
  cases e
  refine ⟨_, w', h1, ⟨w.heap.size, _, rfl, hg1, hc, fun i hi => ?_⟩, rfl, h4⟩
  rw [Nat.zero_add]
  refine h2 i _ ?_
  have hi' : i < s.data.size := hi
  simp [Lib.byteCells]
  exact ⟨s.data[i], Array.getElem?_eq_getElem hi', rfl⟩

set_option maxRecDepth 1000000 in
set_option maxHeartbeats 4000000 in
theorem implFramesRead_any (s : ByteArray) (w : World) (hs : s.size ≤ 20000) (hH : Handle w) :
    Calls Tryz.prog 170 #[.string s] w fun e w' => ∃ v, e = .returned (framesV v (endOf (frs s 0) : Int) 0) ∧ OwnS w' w.heap.size v ((frs s 0).map Prod.fst) ∧ Below w.heap.size w w' := by
  obtain ⟨i0, hi, hz0, hz1, hz2⟩ := info_parts infoStr
  refine (callsIn_wide (n := 3)).1 ?_
  refine callsIn_of_wp_marks Tryz.func170 rfl trivial ?_ rfl
  simp only [Tryz.ntmps170, List.size_toArray, List.length_cons, List.length_nil, Nat.reduceAdd, Nat.reduceSub, Array.replicate_succ, Array.replicate_zero, List.push_toArray, List.append_toArray, List.nil_append, List.cons_append]
  have HT : Hid (∀ w, Calls Tryz.prog 74 #[.string s] w fun e w' => e = .returned (.bool false) ∧ w' = w) := Lib.hid fun w => by
    go_enter Tryz.func74, Tryz.ntmps74
    go_wp2
    go_ret
    exact ⟨retB (by simp; omega), rfl⟩
  obtain ⟨v, w1, hcv, hD, hv, hb1⟩ := conv_dat ((w.alloc (.cells #[.slice none 0 0, .int .i64 0, .int .i64 0] 177)).alloc (.cells #[.slice none 0 0, .int .i64 0, .int .i64 0] 177)) s
  gi_wp2_with (first
    | (refine ⟨trivial, ?_⟩; gi_at_call 74; refine (callsIn_wide.2 (HT.out _)).mono ?_; rintro e w' ⟨rfl, rfl⟩)
    | (refine ⟨trivial, ?_⟩; gi_at_call 184; refine (callsIn_wide.2 (framesIn_any v s _ _ hD)).mono ?_; rintro e w' ⟨rfl, rfl⟩))
  have hO0 := Blk.fresh (w.alloc (.cells #[.slice none 0 0, .int .i64 0, .int .i64 0] 177)) 177 [.slice none 0 0, .int .i64 0, .int .i64 0]
  have hR0 := (Blk.fresh w 177 [.slice none 0 0, .int .i64 0, .int .i64 0]).alloc (.cells #[.slice none 0 0, .int .i64 0, .int .i64 0] 177)
  have hb0 : Below w.heap.size w ((w.alloc (.cells #[.slice none 0 0, .int .i64 0, .int .i64 0] 177)).alloc (.cells #[.slice none 0 0, .int .i64 0, .int .i64 0] 177)) := ((Below.refl _ w).alloc (Nat.le_refl _) _).alloc (by simp) _
  obtain ⟨w0, hw0⟩ : ∃ w0, ((w.alloc (.cells #[.slice none 0 0, .int .i64 0, .int .i64 0] 177)).alloc (.cells #[.slice none 0 0, .int .i64 0, .int .i64 0] 177)) = w0 := ⟨_, rfl⟩
  have hz : w0.heap.size = w.heap.size + 2 := by rw [← hw0]; simp
  have e1 : (w.alloc (.cells #[.slice none 0 0, .int .i64 0, .int .i64 0] 177)).heap.size = w.heap.size + 1 := by simp
  simp only [List.toArray] at hO0 hR0
  rw [e1] at hO0
  rw [hw0] at hb1 hv hb0 hO0 hR0
  clear hcv hw0
  have hzb := hb1.size
  have hO1 := hO0.below hb1 (by omega)
  have hR1 := hR0.below hb1 (by omega)
  have hB1 := hb0.trans (hb1.mono (by omega))
  have hvb : v.ownBlock ≠ some (w.heap.size + 1) := by rw [hv, hz]; simp
  have hVw := Handle.lt hH
  have hH1 := Handle.below hH (hB1.alloc hB1.size (.cells #[v] 22))
  have bN := Boxed.new w1 22 v
  have hD1 : Dat (w1.alloc (.cells #[v] 22)) (w1.heap.size + 1) v s := by
    obtain ⟨g, cap, e, h1, h2, h3⟩ := hD.below ((Below.refl _ w1).alloc (Nat.le_refl _) (.cells #[v] 22))
    exact ⟨g, cap, e, by omega, h2, h3⟩
  refine wpIn_rangeFunc_ownF rfl (by decide) (gf := 199) (lb := #[.pointer (some ⟨w1.heap.size, 0, none⟩)]) rfl trivial (enters_of Tryz.func199 (by kernel_rfl) rfl)
    (frames_stops (3 - 1) (by decide) w1.heap.size (w1.heap.size + 1) (w.heap.size + 1) v s hs _ bN.cell (by omega) (by omega) (by omega) (by omega) (by simp) hD1 hvb hH1) But.trans
    (fun W l o o' hl h _ _ => But.of (m := w1.heap.size + 1) ((Below.refl _ W).grown (grownBy_putObj' W l o') (by have := (Array.getElem?_eq_some_iff.1 h).1; simp at hl; omega) (fun k e => by cases e; simpa using hl)) (Nat.le_refl _)) (Below.refl _ _) (fun _ => rfl)
    (fun pre W => Got (w1.heap.size + 1) (w.heap.size + 1) pre W ∧ w1.heap.size + 1 ≤ W.heap.size ∧ Blk W w.heap.size 177 [.slice none 0 0, .int .i64 0, .int .i64 0] ∧ Below w.heap.size w W)
    (fun _ _ _ => False)
    (OwnFrom.and (Own.from (got_own _ _) _) (OwnFrom.and (fun s X Y row hs hg hr => Nat.le_trans hs hg.size) (OwnFrom.and (fun s X Y row hs hg hr => hs.grown hg (fun e => by have := (hr _ e.symm).1; simp at this; omega)) (ownFrom_below (Nat.le_refl _) (by simp; omega)))))
    (fun _ _ _ _ _ hs _ _ => hs)
    ⟨⟨_, hO1.alloc _, World.ownsRow_nil _ _ _ _⟩, by simp, hR1.alloc _, hB1.alloc hB1.size _⟩
    (fun x => { tmps := #[.string s, undef, .pointer (some ⟨w.heap.size, 0, none⟩), .pointer (some ⟨w.heap.size + 1, 0, none⟩), .string x.1, .int .i64 (x.2 : Int), .string s, .bool false, undef, .string s, v, .func (.func 199) #[] #[.pointer (some ⟨w1.heap.size, 0, none⟩)], .string x.1, .int .i64 (x.2 : Int), undef, undef, undef, undef, undef, undef, undef, undef, undef], defers := [] }) ?assign ?body ?done ?stop
  case assign =>
    intro l x W K hK
    simp only [encF]
    gi_wp2
    exact hK
  case body =>
    rintro l pre x W ⟨⟨u, hv, hrow⟩, hW, hR, hB⟩ hlt
    have hfl := frs_len (s := s) s.size 0 (by omega)
    have hc0 := hv.cell (i := 0) rfl
    have hsz := hB.size
    gi_wp2_with (gi_at_builtin; refine wpListIn_append_own _ rfl _ _ 50 rfl (w1.heap.size + 1) 9 i0 (.string ⟨#[]⟩) 1 16 Tryz.underlying50 hi hz0 hz1 hz2 rfl (by decide) _ _ _ rfl (hrow.alloc _) ⟨W.heap.size, 0, none⟩ 1 1 [.string x.1] rfl rfl (cell_one_new _ _ _) (by simp [Value.oneCell']) (by unfold maxLen; omega) (by omega) (by simp; omega) ?_; intro v' w2 hown' hgrow _; obtain ⟨g', cap', rfl⟩ := ownsRow_succ hown'; obtain ⟨hv1, hk1, hbb⟩ := got_app hv (by decide) hrow hW hgrow; have hc1 := hv1.cell (i := 0) rfl; have hf1 := hv1.froz 0; have hv2 := hv1.put 0 (.slice (some ⟨g', 0, none⟩) (pre.length + 1) cap'); have hc2 := hv2.cell (i := 1) rfl; have hf2 := hv2.froz 1)
    have hv3 := hv2.put 1 (.int .i64 (x.2 : Int))
    have hB2 := hB.trans (hbb.mono (by omega))
    have hzz := hbb.size
    refine ⟨(hk1.trans (KeepsOthers.setCell _ _ _)).trans (KeepsOthers.setCell _ _ _), ?_, ⟨.slice (some ⟨g', 0, none⟩) (pre.length + 1) cap', ?_, ?_⟩, ?_, ?_, ?_⟩
    · exact (But.of (b := w.heap.size + 1) hbb (Nat.le_refl _)).trans ⟨by simp [World.setCell], fun k hk hne => by rw [Below.heap_setCell _ _ _ k hne, Below.heap_setCell _ _ _ k hne]⟩
    · rw [endOf_snoc]; exact hv3
    · have h4 := row_far (row_far hown' (p := ⟨w.heap.size + 1, 0, none⟩) (by simp; omega) (.slice (some ⟨g', 0, none⟩) (pre.length + 1) cap')) (p := ⟨w.heap.size + 1, 1, none⟩) (by simp; omega) (.int .i64 (x.2 : Int))
      simpa using h4
    · simp [World.setCell]; omega
    · exact ((hR.below hbb (by omega)).far (by simp) _).far (by simp) _
    · exact (hB2.setCell (p := ⟨w.heap.size + 1, 0, none⟩) (by simp) _).setCell (p := ⟨w.heap.size + 1, 1, none⟩) (by simp) _
  case done =>
    rintro D ys W hD rfl ⟨⟨u, hv, hrow⟩, hW, hR, hB⟩ hK
    have hc0 := hv.cell (i := 0) rfl
    have hc1 := hv.cell (i := 1) rfl
    have hc2 := hv.cell (i := 2) rfl
    have hr0 := hR.cell (i := 0) rfl
    have hr1 := hR.cell (i := 1) rfl
    have hr2 := hR.cell (i := 2) rfl
    have hf0 := hR.froz 0
    have hf1 := hR.froz 1
    have hf2 := hR.froz 2
    obtain ⟨A1, c1, rfl⟩ := ownR_some hrow
    gi_wp2
    have hR3 := ((hR.put 0 (.slice A1 (frs s 0).length c1)).put 1 (.int .i64 (endOf (frs s 0) : Int))).put 2 (.int .i64 0)
    have hr3 := row_far (row_far (row_far hrow (p := ⟨w.heap.size, 0, none⟩) (by simp; omega) (.slice A1 (frs s 0).length c1)) (p := ⟨w.heap.size, 1, none⟩) (by simp; omega) (.int .i64 (endOf (frs s 0) : Int))) (p := ⟨w.heap.size, 2, none⟩) (by simp; omega) (.int .i64 0)
    have hB3 := ((hB.setCell (p := ⟨w.heap.size, 0, none⟩) (by simp) (.slice A1 (frs s 0).length c1)).setCell (p := ⟨w.heap.size, 1, none⟩) (by simp) (.int .i64 (endOf (frs s 0) : Int))).setCell (p := ⟨w.heap.size, 2, none⟩) (by simp) (.int .i64 0)
    have hK3 := (KeepsOthers.setCell ((W.setCell ⟨w.heap.size, 0, none⟩ (.slice A1 (frs s 0).length c1)).setCell ⟨w.heap.size, 1, none⟩ (.int .i64 (endOf (frs s 0) : Int))) ⟨w.heap.size, 2, none⟩ (.int .i64 0)).same D _ ((KeepsOthers.setCell (W.setCell ⟨w.heap.size, 0, none⟩ (.slice A1 (frs s 0).length c1)) ⟨w.heap.size, 1, none⟩ (.int .i64 (endOf (frs s 0) : Int))).same D _ ((KeepsOthers.setCell W ⟨w.heap.size, 0, none⟩ (.slice A1 (frs s 0).length c1)).same D _ hK rfl) rfl) rfl
    obtain ⟨W3, hW3⟩ : ∃ W3, (((W.setCell ⟨w.heap.size, 0, none⟩ (.slice A1 (frs s 0).length c1)).setCell ⟨w.heap.size, 1, none⟩ (.int .i64 (endOf (frs s 0) : Int))).setCell ⟨w.heap.size, 2, none⟩ (.int .i64 0)) = W3 := ⟨_, rfl⟩
    rw [hW3] at hR3 hr3 hB3 hK3 ⊢
    simp only [World.size_alloc] at hD
    have hR4 := hR3.grown (grownBy_putObj' W3 D (.deferred none)) (by simp; omega)
    have k0 := hR4.cell (i := 0) rfl
    have k1 := hR4.cell (i := 1) rfl
    have k2 := hR4.cell (i := 2) rfl
    refine ⟨by simp, .inl ⟨_, _, rfl, run_takeDeferred hK3, ?_⟩⟩
    refine ⟨framesV (.slice A1 (frs s 0).length c1) (endOf (frs s 0) : Int) 0, by simp [results, Tryz.results170, k0, k1, k2, go_sem], .slice A1 (frs s 0).length c1, rfl, ?_, hB3.trans (belowK_b (w := w) (Nat.le_refl _) W3 D _ _ (by omega) hK3 rfl rfl)⟩
    have h5 := ownsRow_putObj hr3 (.deferred none) hK3 rfl
    refine ownS_base (base := w1.heap.size + 1) ?_ (by omega)
    unfold OwnS
    rw [List.length_map, List.map_map]
    exact h5
  case stop =>
    rintro D c pre W _ _ h _
    exact h.elim
end Go.Proofs.YtebkblmejkkhfaaGreatDoor

namespace Go.Proofs.YtebkblmejkkhfaaGreatDoor
open Go.RowKit
set_option linter.unusedVariables false

/-- A field of the box laid ahead of an append. -/
theorem key {w1 w2 : World} {base k : Nat} {u : Value} {xs : List Value} {t : ByteArray} {q : Nat} (hr : w1.ownsRow base 9 1 u k xs) (hg : ((w1.alloc (.cells #[.string t, .int .i64 (q : Int), .int .i64 0] 35)).alloc (.cells #[.string t] 9)).grownBy w2 u.ownBlock) :
    w2.cell? ⟨w1.heap.size, 1, none⟩ = some (.int .i64 (q : Int)) := by
  have h0 := (Blk.fresh w1 35 [.string t, .int .i64 (q : Int), .int .i64 0]).alloc (.cells #[.string t] 9)
  exact (h0.grown hg (fun e => by have := (hr.lt _ e.symm).2; omega)).cell (i := 1) rfl

set_option maxRecDepth 1000000 in
set_option maxHeartbeats 4000000 in
theorem specRead_any (s : ByteArray) (w : World) (hs : s.size ≤ 20000) :
    Calls Tryz.prog 150 #[.string s] w fun e w' => ∃ v, e = .returned (.tuple #[v, .int .i64 (endOf (frs s 0) : Int)]) ∧ OwnS w' w.heap.size v ((frs s 0).map Prod.fst) ∧ Below w.heap.size w w' := by
  obtain ⟨i0, hi, hz0, hz1, hz2⟩ := info_parts infoStr
  have hfl := frs_len (s := s) s.size 0 (by omega)
  go_enter Tryz.func150, Tryz.ntmps150
  go_wp2
  go_loopw [4, 5] (fun o a wr => ∃ (pre : List (ByteArray × Nat)) (p : Nat), a = .int .i64 p ∧ p ≤ s.size ∧ endOf pre = p ∧ pre ++ frs s p = frs s 0 ∧ wr.ownsRow w.heap.size 9 1 o pre.length (pre.map fun x => Value.string x.1) ∧ Below w.heap.size w wr) (fun _ a _ => s.size - (intOf a).toNat)
  case atStart => exact ⟨[], 0, rfl, by omega, rfl, rfl, World.ownsRow_lit w #[] 0 (Nat.le_refl _) (by simp) (by simp), (Below.refl _ _).alloc (Nat.le_refl _) _⟩
  case round =>
    obtain ⟨pre, p, rfl, hp, he, hx, hrow, hb⟩ := hrel
    have HF := Lib.hid (fun w => specAt_fr s p w hs (by omega))
    obtain ⟨A1, c1, rfl⟩ : ∃ A c, _ = Value.slice A pre.length c := ownR_some hrow
    cases hfr : fr s p with
    | error c =>
      have hc0 : (c != 0) = true := by simpa using fr_err hfr
      rw [hfr] at HF
      rw [frs_err hfr, List.append_nil] at hx
      simp only [txV] at HF
      have HX := Lib.hid hx
      clear hx
      go_wp2_with (go_at_call 171; refine (HF.out _).mono ?_; rintro e w1 ⟨rfl, hb1⟩)
      refine bodyPost_ret (v := .tuple #[.slice A1 pre.length c1, .int .i64 (p : Int)]) (by simp [results, Tryz.results150, go_sem]) rfl ?_
      have hb2 := (hb1.alloc hb1.size (.cells #[.string ⟨#[]⟩, .int .i64 0, .int .i64 c] 35))
      refine ⟨.slice A1 pre.length c1, ?_, ?_, hb.trans (hb2.mono hb.size)⟩
      · rw [← HX.out, he]
      · rw [← HX.out]
        have := row_below hrow hb2 (Nat.le_refl _)
        unfold OwnS
        rw [List.length_map, List.map_map]
        exact this
    | ok x =>
      obtain ⟨t, q⟩ := x
      have hok := fr_ok hfr
      rw [hfr] at HF
      rw [frs_ok hfr] at hx
      simp only [txV] at HF
      have hpl : pre.length + 1 ≤ 20000 := by have := congrArg List.length hx; simp at this; omega
      have hsz := hb.size
      go_wp2_with (first
        | (go_at_call 171; refine (HF.out _).mono ?_; rintro e w1 ⟨rfl, hb1⟩; have hzz := hb1.size; have hr1 := row_below hrow hb1 (Nat.le_refl _))
        | (at_builtin; refine wpList_append_own _ rfl _ _ 50 rfl w.heap.size 9 i0 (.string ⟨#[]⟩) 1 16 Tryz.underlying50 hi hz0 hz1 hz2 rfl (by decide) _ _ _ rfl ((hr1.alloc _).alloc _) ⟨w1.heap.size + 1, 0, none⟩ 1 1 [.string t] rfl rfl (by have h := one_cell (w1.alloc (.cells #[.string t, .int .i64 (q : Int), .int .i64 0] 35)) (.string t) 9; simpa using h) (one_str _) (by unfold maxLen; omega) (by omega) (by simp; omega) ?_; intro v' w2 hown' hgrow' hne; clear hne; have kf : w2.cell? ⟨w1.heap.size, 1, none⟩ = some (.int .i64 (q : Int)) := key hr1 hgrow'))
      have h5 : w2.ownsRow w.heap.size 9 1 v' (pre ++ [(t, q)]).length ((pre ++ [(t, q)]).map fun x => Value.string x.1) := by simpa using hown'
      have hb6 : Below w.heap.size w w2 := ((((hb.trans (hb1.mono hsz)).alloc (by omega) _).alloc (by simp; omega) _).grown hgrow' (by simp; omega) (fun k e => (hr1.lt k e).1))
      exact ⟨⟨pre ++ [(t, q)], q, rfl, hok.2.1, endOf_snoc _ _, by rw [← hx]; simp, h5, hb6⟩, by simp [intOf]; omega⟩

end Go.Proofs.YtebkblmejkkhfaaGreatDoor

namespace Go.Proofs.YtebkblmejkkhfaaGreatDoor
open Go.RowKit Go.ChangeShapes Go.WideShapes Go.Deep
set_option linter.unusedVariables false
abbrev segV (v : Value) (f m : Int) : Value := .agg #[v, .int .i64 f, .int .i64 m]
theorem cellsSg : Tryz.prog.cellsOf 58 = 3 := by kernel_rfl

set_option maxRecDepth 1000000 in
/-- What is known of the files of an argument, by the one cell that holds them. -/
theorem fs_cell {H : Type} {enc : TypeId × Value → H} {W : World} {c0 : Value} {n : Nat} {y0 : DataW H × List MemPlace} (h : DataW.trod enc Tryz.prog W 0 (fun _ => true) true n 56 [c0] = some y0) :
    ∃ A L c, c0 = .slice A L.length c ∧ Fls W W.heap.size A L := by
  obtain ⟨y0, n, hx, _, h0⟩ := trod_struct1 Tryz.underlying56 h
  have h1 : DataW.trod enc Tryz.prog W 0 (fun _ => true) true n 54 [c0] = some y0 := by simpa [Value.cells, cellsSl] using h0
  rcases open_slice Tryz.underlying54 h1 with ⟨hc, _⟩ | ⟨a, len, cap, m, n', D, Pl, hc, _, hl, hm, hmm, _, hi⟩
  · injection hc with hc _
    subst hc
    exact ⟨none, [], 0, rfl, by simp [maxLen], fun i h => absurd h (by simp)⟩
  · injection hc with hc _
    subst hc
    have hmm' : m = cap := by simpa using hmm
    subst hmm'
    have key : ∀ i, i < len → ∃ f : Fil, W.cell? (a.add (i * 3)) = some (.string f.name) ∧ W.cell? (a.add (i * 3 + 1)) = some (.string f.data) ∧ W.cell? (a.add (i * 3 + 2)) = some (.int .i64 f.sync) ∧ f.fits := by
      intro i hil
      obtain ⟨cs', hcc, ht⟩ := hi i (by omega)
      rw [cells3] at hcc
      obtain ⟨_, hcl, hat⟩ := World.cells?_some hcc
      obtain ⟨ys, n2, _, _, _, hyl, hfs⟩ := DataW.trod_struct Tryz.underlying156 ht
      match cs', hcl with
      | [u0, u1, u2], _ =>
        match ys, hyl with
        | [z0, z1, z2], _ =>
          have g0 := hfs 0 _ rfl
          have g1 := hfs 1 _ rfl
          have g2 := hfs 2 _ rfl
          simp only [List.getElem?_cons_zero, List.getElem?_cons_succ] at g0 g1 g2
          obtain ⟨s0, e0, _, q0⟩ := DataW.trod_string Tryz.underlying9 g0
          obtain ⟨s1, e1, _, q1⟩ := DataW.trod_string Tryz.underlying9 g1
          obtain ⟨k2, e2, _, q2⟩ := DataW.trod_int Tryz.underlying2 g2
          injection e0 with e0 _; injection e1 with e1 _; injection e2 with e2 _
          subst e0 e1 e2
          have a0 := hat 0 (by omega)
          have a1 := hat 1 (by omega)
          have a2 := hat 2 (by omega)
          rw [ofNat_add] at a0 a1 a2
          have q := wf_i64 q2
          exact ⟨⟨s0, s1, k2⟩, a0, a1, a2, q0, q1, q.1, q.2⟩
    let F : Nat → Fil := fun i => if h : i < len then (key i h).choose else default
    have hF : ∀ i, i < len → W.cell? (a.add (i * 3)) = some (.string (F i).name) ∧ W.cell? (a.add (i * 3 + 1)) = some (.string (F i).data) ∧ W.cell? (a.add (i * 3 + 2)) = some (.int .i64 (F i).sync) ∧ (F i).fits := by
      intro i hil
      simp only [F, hil, dif_pos]
      exact (key i hil).choose_spec
    refine ⟨some a, (List.range len).map F, m, by simp, by simp; omega, fun i hi => ?_⟩
    have hil : i < len := by simpa using hi
    obtain ⟨c0, c1, c2, c3⟩ := hF i hil
    have hbl := World.block_lt_of_cell? W _ c0
    rw [add_blk] at hbl
    exact ⟨a, rfl, hbl, by simpa using c0, by simpa using c1, by simpa using c2, by simpa using c3⟩
set_option maxRecDepth 1000000 in
/-- What is known of a log that came in. -/
theorem seglog_arg {H : Type} {enc : TypeId × Value → H} {W : World} {r : Reach} {b0 : Nat} {v : Value} {d : DataW H} {p : List MemPlace} (hval : Value.okWide Tryz.prog W r b0 58 v) (h : DataW.Trod enc Tryz.prog W 0 (fun _ => true) true 58 v d p) :
    ∃ A L c f m, v = segV (.slice A (L : List Fil).length c) f m ∧ Fls W W.heap.size A L ∧ (Lit.int .i64 f).wf = true ∧ (Lit.int .i64 m).wf = true := by
  obtain ⟨cs, rfl, hsz⟩ := okWide_struct Tryz.underlying58 hval
  rw [cellsSg] at hsz
  obtain ⟨l⟩ := cs
  match l, hsz with
  | [c0, c1, c2], _ =>
    obtain ⟨fuel, hf⟩ := h
    obtain ⟨ys, n2, _, _, _, hyl, hfs⟩ := DataW.trod_struct Tryz.underlying58 hf
    match ys, hyl with
    | [z0, z1, z2], _ =>
      have g0 := hfs 0 _ rfl
      have g1 := hfs 1 _ rfl
      have g2 := hfs 2 _ rfl
      have g0' : DataW.trod enc Tryz.prog W 0 (fun _ => true) true n2 56 [c0] = some z0 := by simpa [Value.cells, cells1] using g0
      have g1' : DataW.trod enc Tryz.prog W 0 (fun _ => true) true n2 2 [c1] = some z1 := by simpa [Value.cells, cellsI64] using g1
      have g2' : DataW.trod enc Tryz.prog W 0 (fun _ => true) true n2 2 [c2] = some z2 := by simpa [Value.cells, cellsI64] using g2
      obtain ⟨A, L, c, rfl, hF⟩ := fs_cell g0'
      obtain ⟨k1, e1, _, q1⟩ := DataW.trod_int Tryz.underlying2 g1'
      obtain ⟨k2, e2, _, q2⟩ := DataW.trod_int Tryz.underlying2 g2'
      injection e1 with e1 _; injection e2 with e2 _
      subst e1 e2
      exact ⟨A, L, c, k1, k2, rfl, hF, q1, q2⟩
end Go.Proofs.YtebkblmejkkhfaaGreatDoor
