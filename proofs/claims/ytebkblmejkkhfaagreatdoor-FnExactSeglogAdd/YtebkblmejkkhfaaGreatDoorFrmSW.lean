/- A row of bytes that the call owns, told by its cells: what a conversion of a string leaves, and appends to it. The contract of frameCut; the bytes of a converted string. Contracts of FrameAt; the walk of its law. -/
import Derived.Test.YtebkblmejkkhfaaGreatDoorNameW
import Derived.Lib.ConvBytes
import Derived.ArgAppend
import Derived.Laws.IdiomCopy
import Derived.Test.YtebkblmejkkhfaaGreatDoorSegMathW
import Derived.Lib.SlBytesRow
import Derived.BigRegion
namespace Go.Proofs.YtebkblmejkkhfaaGreatDoor
open Go.RowKit
set_option linter.unusedVariables false

/-- The slice v, of the cells xs, lies at the head of a block from base on; none of its cells, nor of its spare ones, is frozen. -/
def OwnB (w : World) (base : Nat) (v : Value) (xs : List Value) : Prop :=
  ∃ g cap, v = .slice (some ⟨g, 0, none⟩) xs.length cap ∧ base ≤ g ∧ g < w.heap.size ∧ xs.length ≤ cap ∧ (∀ j u, xs[j]? = some u → w.cell? ⟨g, j, none⟩ = some u) ∧
    (∀ j, j < cap → (w.cell? ⟨g, j, none⟩).isSome = true ∧ w.frozen? ⟨g, j, none⟩ = false)

theorem OwnB.of_block {w w' : World} {base : Nat} {v : Value} {xs : List Value} (h : OwnB w base v xs) (hb : ∀ g, base ≤ g → g < w.heap.size → w'.heap[g]? = w.heap[g]?) : OwnB w' base v xs := by
  obtain ⟨g, cap, rfl, h1, h2, h3, h4, h5⟩ := h
  have e := hb g h1 h2
  refine ⟨g, cap, rfl, h1, ?_, h3, fun j u hu => ?_, fun j hj => ⟨?_, ?_⟩⟩
  · rcases Nat.lt_or_ge g w'.heap.size with hl | hl
    · exact hl
    · rw [Array.getElem?_eq_none hl, Array.getElem?_eq_getElem h2] at e; cases e
  · rw [World.cell?_of_block (a := ⟨g, j, none⟩) e]; exact h4 j u hu
  · rw [World.cell?_of_block (a := ⟨g, j, none⟩) e]; exact (h5 j hj).1
  · rw [World.frozen?_of_block (a := ⟨g, j, none⟩) e]; exact (h5 j hj).2
theorem OwnB.below {w w' : World} {base : Nat} {v : Value} {xs : List Value} (h : OwnB w base v xs) (hb : Below w.heap.size w w') : OwnB w' base v xs := h.of_block fun g _ hg => hb.block g hg
theorem OwnB.alloc {w : World} {base : Nat} {v : Value} {xs : List Value} (h : OwnB w base v xs) (o : Obj) : OwnB (w.alloc o) base v xs := h.of_block fun g _ hg => Below.heap_alloc w o g hg
theorem OwnB.drewN {w : World} {base : Nat} {v : Value} {xs : List Value} (h : OwnB w base v xs) (n : Nat) : OwnB (w.drewN n) base v xs := h
theorem OwnB.lt {w : World} {base : Nat} {v : Value} {xs : List Value} (h : OwnB w base v xs) : ∀ k, v.ownBlock = some k → base ≤ k ∧ k < w.heap.size := by
  obtain ⟨g, cap, rfl, h1, h2, _⟩ := h
  intro k hk
  simp [Value.ownBlock] at hk
  subst hk; exact ⟨h1, h2⟩
theorem OwnB.of_own {w : World} {base n : Nat} {t : TypeId} {v : Value} {xs : List Value} (h : w.ownsRow base t 1 v n xs) (hn : 0 < n) : OwnB w base v xs := by
  rcases h.2 with ⟨_, h0⟩ | ⟨g, cap, cur, rfl, hb, hh, hc, hm, hs, ht⟩
  · omega
  · have hl : xs.length = n := by have := h.1; omega
    have hbl : Blk w g t cur.toList := by unfold Blk; simpa using hh
    refine ⟨g, cap, by rw [hl], hb, hbl.lt, by omega, fun j u hu => ?_, fun j hj => ⟨?_, hbl.froz j⟩⟩
    · have hj : j < n := by rw [← hl]; exact (List.getElem?_eq_some_iff.1 hu).1
      rw [← hu]
      exact World.ownsRow.cellAt (w := w) (g := g) (cap := cap) h j (by omega)
    · have : j < cur.toList.length := by simp; omega
      rw [hbl.cell (List.getElem?_eq_getElem this)]; rfl

/-- The conversion of a string to bytes. -/
theorem conv_own (w : World) (s : ByteArray) (base : Nat) (hb : base ≤ w.heap.size) :
    ∃ w', (convert 9 22 (.string s)).run Tryz.prog w = .ok (.slice (some ⟨w.heap.size, 0, none⟩) s.size (grownCap w s.size 0 5)) w' ∧
      OwnB w' base (.slice (some ⟨w.heap.size, 0, none⟩) s.size (grownCap w s.size 0 5)) (Lib.byteCells s.data.toList) ∧ Below w.heap.size w w' := by
  refine ⟨_, Lib.run_convert_string_bytes w 9 22 5 s Tryz.underlying9 Tryz.underlying22 Tryz.underlying5, ?_, ?_⟩
  · have hl : (Lib.byteCells s.data.toList).length = s.size := by rw [Lib.byteCells_length, ← Lib.size_eq]
    have hge := grownCap_ge w s.size 0 5
    have hsz : (Lib.bytesCells w 5 s).size = grownCap w s.size 0 5 := by simp [Lib.bytesCells]; omega
    refine ⟨w.heap.size, _, by rw [hl], hb, by rw [Lib.bytesWorld_size]; omega, by rw [hl]; exact hge, fun j u hu => ?_, fun j hj => ⟨?_, ?_⟩⟩
    · have hj : j < s.size := by rw [← hl]; exact (List.getElem?_eq_some_iff.1 hu).1
      rw [Lib.bytesWorld_cell w _ s j hj, ← hu]
      have hj' : j < s.data.size := hj
      have e1 : s.data[j]? = some s.data[j] := Array.getElem?_eq_getElem hj'
      simp [Lib.byteCells, List.getD, e1]
    · rw [cell_of_row _ _ j _ _ _ (Lib.bytesWorld_at_new w 5 s), Array.getElem?_eq_getElem (by rw [hsz]; exact hj)]; rfl
    · simp only [World.frozen?, Lib.bytesWorld_at_new]
      simp; intro h; omega
  · exact ⟨rfl, rfl, rfl, by rw [Lib.bytesWorld_size]; omega, fun i hi => Lib.bytesWorld_at_old w _ s i hi⟩

theorem wpList_conv_bytes {ops : Array Oper} {rest : List Oper} {o : Oper} {a : Act} {w : World} {Q : Exit → Act → World → Prop} (hgd : o.guard = none) (x : Operand) (ho : o.op = .convert 9 22 x)
    (s : ByteArray) (base : Nat) (hx : a.eval x = .string s) (hb : base ≤ w.heap.size)
    (h : ∀ v w', OwnB w' base v (Lib.byteCells s.data.toList) → Below w.heap.size w w' → wpList Tryz.prog ops Q rest (a.put o.dst v) w') : wpList Tryz.prog ops Q (o :: rest) a w := by
  refine wpList_plain hgd fun K hK => ?_
  obtain ⟨w', hrun, h1, h2⟩ := conv_own w s base hb
  unfold Oper.wp execOp
  simp only [ho, hx, Sem.run_bind, hrun, Result.andThen_ok, Sem.run_pure]
  exact hK _ _ (h _ w' h1 h2)

set_option maxRecDepth 1000000 in
/-- One element appended. -/
theorem run_append_B (w : World) (base : Nat) (t ty e : TypeId) (i : TypeInfo) (z : Value) (bytes : Nat) (ht : Tryz.prog.underlying t = some (.slice e)) (hi : Tryz.prog.info? e = some i) (hz : i.zero = some z)
    (hsize : i.size = 1) (hby : i.bytes = bytes) (hzs : z.cells.size = 1) (v : Value) (xs : List Value) (h : OwnB w base v xs) (ad : Addr) (c : Nat) (x : Value) (hx : w.cell? ad = some x) (h1 : x.oneCell' = true)
    (h63 : xs.length + 1 ≤ maxLen) (hbytes : (xs.length + 1) * bytes ≤ 140737488355328) (hbase : base ≤ w.heap.size) :
    ∃ v' w', (Builtin.append_ #[t, t] ty #[v, .slice (some ad) 1 c]).run Tryz.prog w = .ok v' w' ∧ OwnB w' base v' (xs ++ [x]) ∧ w.grownBy w' v.ownBlock := by
  obtain ⟨g, cap, rfl, g1, g2, g3, g4, g5⟩ := h
  have hnews : ∀ j u, [x][j]? = some u → w.cell? (ad.add j) = some u := fun j u hu => by
    match j, hu with
    | 0, hu => simp at hu; subst hu; simpa [Addr.add] using hx
  have hone : ∀ u ∈ [x], u.oneCell' = true := fun u hu => by simp at hu; subst hu; exact h1
  by_cases hroom : xs.length + 1 ≤ cap
  · have hr := run_append_room_cells (P := Tryz.prog) w t ty e i ht hi g 0 xs.length cap ad 1 c [x] (by rw [hsize]; rfl) hnews hone hroom
      (fun j hj => by simp at hj; subst hj; simpa [hsize] using (g5 xs.length (by omega)).1) (fun j hj => by simp at hj; subst hj; simpa [hsize] using (g5 xs.length (by omega)).2)
    have e0 : 0 + xs.length * i.size = xs.length := by rw [hsize]; omega
    rw [e0] at hr
    have hset : w.setCells g xs.length [x] = w.setCell ⟨g, xs.length, none⟩ x := rfl
    rw [hset] at hr
    refine ⟨_, _, hr, ⟨g, cap, by simp, g1, by simpa [World.setCell] using g2, by simpa using hroom, fun j u hu => ?_, fun j hj => ?_⟩, ?_⟩
    · by_cases e : j = xs.length
      · subst e
        have hu' : u = x := by simpa using hu.symm
        subst hu'
        obtain ⟨y, hy⟩ := Option.isSome_iff_exists.1 (g5 xs.length (by omega)).1
        exact World.cell?_setCell_same w _ u hy
      · have hj : j < xs.length := by
          have := (List.getElem?_eq_some_iff.1 hu).1
          simp at this; omega
        rw [World.cell?_setCell_other w _ _ x (fun e' => e (by injection e' with _ e2 _; exact e2.symm))]
        exact g4 j u (by rw [← hu, List.getElem?_append_left hj])
    · obtain ⟨hs, hf⟩ := g5 j hj
      refine ⟨?_, by simpa using hf⟩
      obtain ⟨y, hy⟩ := Option.isSome_iff_exists.1 hs
      obtain ⟨y', hy'⟩ := cell?_setCell_some (p := ⟨g, xs.length, none⟩) (x := x) hy
      rw [hy']; rfl
    · exact ⟨rfl, rfl, rfl, by simp [World.setCell], fun k hk hne => Below.heap_setCell w _ x k (fun e => hne (by rw [e]; rfl))⟩
  · have holds : ∀ j u, xs[j]? = some u → w.cell? ((⟨g, 0, none⟩ : Addr).add j) = some u := fun j u hu => by
      have hadd : (⟨g, 0, none⟩ : Addr).add j = ⟨g, j, none⟩ := by unfold Addr.add; split <;> simp_all
      rw [hadd]; exact g4 j u hu
    obtain ⟨v', w', hr, ho, hg⟩ := run_append_arg_grows (P := Tryz.prog) w t ty e i z 1 bytes ht hi hz hsize hby hzs (by omega) ⟨g, 0, none⟩ xs.length cap xs (by omega) holds ad 1 c [x] rfl hnews (by omega) h63 hbytes
    refine ⟨v', w', hr, ?_, ⟨hg.os, hg.tape, hg.output, hg.size, fun k hk _ => hg.block k hk (by simp)⟩⟩
    have := OwnB.of_own ho (by omega)
    obtain ⟨g', cap', e', a1, a2, a3, a4, a5⟩ := this
    exact ⟨g', cap', e', by omega, a2, a3, a4, a5⟩
theorem wpList_append_B {ops : Array Oper} {rest : List Oper} {o : Oper} {a : Act} {w : World} {Q : Exit → Act → World → Prop} (hgd : o.guard = none) (s x : Operand) (t : TypeId)
    (ho : o.op = .call { callee := .builtin .append, args := #[s, x], argTypes := #[t, t] }) (base : Nat) (e : TypeId) (i : TypeInfo) (z : Value) (bytes : Nat) (ht : Tryz.prog.underlying t = some (.slice e)) (hi : Tryz.prog.info? e = some i) (hz : i.zero = some z)
    (hsize : i.size = 1) (hby : i.bytes = bytes) (hzs : z.cells.size = 1) (v : Value) (xs : List Value) (hs : a.eval s = v) (h : OwnB w base v xs) (ad : Addr) (c : Nat) (y : Value) (hx : a.eval x = .slice (some ad) 1 c) (hy : w.cell? ad = some y) (h1 : y.oneCell' = true)
    (h63 : xs.length + 1 ≤ maxLen) (hbytes : (xs.length + 1) * bytes ≤ 140737488355328) (hbase : base ≤ w.heap.size)
    (hK : ∀ v' w', OwnB w' base v' (xs ++ [y]) → w.grownBy w' v.ownBlock → wpList Tryz.prog ops Q rest (a.put o.dst v') w') : wpList Tryz.prog ops Q (o :: rest) a w := by
  refine wpList_plain hgd fun K hK' => ?_
  obtain ⟨v', w', hrun, h2, h3⟩ := run_append_B w base t o.type e i z bytes ht hi hz hsize hby hzs v xs h ad c y hy h1 h63 hbytes hbase
  unfold Oper.wp
  simp [execOp, ho, resolve, invoke, builtin, hs, hx, hrun, Result.andThen]
  exact hK' _ _ (hK v' w' h2 h3)
end Go.Proofs.YtebkblmejkkhfaaGreatDoor

namespace Go.Proofs.YtebkblmejkkhfaaGreatDoor
open Go.RowKit
set_option linter.unusedVariables false

/-- The slice v holds the bytes of s, in a block below B. -/
def Dat (w : World) (B : Nat) (v : Value) (s : ByteArray) : Prop := ∃ g cap, v = .slice (some ⟨g, 0, none⟩) s.size cap ∧ g < B ∧ s.size ≤ cap ∧ Lib.Bytes w g 0 s
theorem Dat.below {w w' : World} {B : Nat} {v : Value} {s : ByteArray} (h : Dat w B v s) (hb : Below B w w') : Dat w' B v s := by
  obtain ⟨g, cap, rfl, h1, h2, h3⟩ := h
  refine ⟨g, cap, rfl, h1, h2, ?_⟩
  intro i hi
  have := h3 i hi
  rw [World.cell?_of_block (hb.block g h1)]
  exact this

set_option maxHeartbeats 1000000 in
set_option maxRecDepth 1000000 in
theorem frameCut_any (v : Value) (s : ByteArray) (p B : Nat) (w : World) (hB : Dat w B v s) (hp : p ≤ s.size) (hs : s.size ≤ 20000) :
    Calls Tryz.prog 201 #[v, .int .i64 p] w fun e w' => e = .returned (.string (s.extract p (min (p + 1006) s.size))) ∧ w' = w := by
  obtain ⟨g, cap, rfl, h1, h2, h3⟩ := hB
  have hc : (convert 22 9 (.slice (some ⟨g, p, none⟩) ((min ((p : Int) + 1006) (s.size : Int)).toNat - p) ((min ((p : Int) + 1006) (s.size : Int)).toNat - p))).run Tryz.prog w = .ok (.string (s.extract p (min (p + 1006) s.size))) w := by
    have hm : (min ((p : Int) + 1006) (s.size : Int)).toNat = min (p + 1006) s.size := by omega
    rw [hm]
    have h := Lib.run_convert_window (P := Tryz.prog) w 22 5 9 Tryz.underlying22 Tryz.underlying5 Tryz.underlying9 g 0 s h3 p (min (p + 1006) s.size - p) (min (p + 1006) s.size - p) (by omega)
    rw [Nat.zero_add, show p + (min (p + 1006) s.size - p) = min (p + 1006) s.size by omega] at h
    exact h
  have hc0 : (convert 22 9 (.slice (some ⟨g, 0, none⟩) 0 0)).run Tryz.prog w = .ok (.string ⟨#[]⟩) w := by
    have h := Lib.run_convert_window (P := Tryz.prog) w 22 5 9 Tryz.underlying22 Tryz.underlying5 Tryz.underlying9 g 0 s h3 0 0 0 (by omega)
    rw [show s.extract 0 (0 + 0) = ⟨#[]⟩ from ByteArray.ext (by simp)] at h
    exact h
  go_enter Tryz.func201, Tryz.ntmps201
  go_wp2
  · have h : (min ((p : Int) + 1006) (s.size : Int)).toNat = p := by assumption
    go_ret
    refine ⟨retS ?_, rfl⟩
    rw [show min (p + 1006) s.size = p by omega]
    exact (ByteArray.ext (by simp)).symm
  · go_ret
    exact ⟨rfl, rfl⟩
end Go.Proofs.YtebkblmejkkhfaaGreatDoor

namespace Go.Proofs.YtebkblmejkkhfaaGreatDoor
open Go.RowKit
set_option linter.unusedVariables false

set_option maxHeartbeats 4000000 in
theorem specAt_err (s : ByteArray) (a0 c : Int) (w : World) (hc : c ≠ 0) (HG : Hid (∀ w, Calls Tryz.prog 185 #[.string s, .int .i64 a0] w fun e w' => e = .returned (textOut ⟨#[]⟩ 0 c) ∧ Below w.heap.size w w')) :
    Calls Tryz.prog 171 #[.string s, .int .i64 a0] w fun e w' => e = .returned (textOut ⟨#[]⟩ 0 c) ∧ Below w.heap.size w w' := by
  have hcb : (c != 0) = true := by simpa using hc
  clear hc
  go_enter Tryz.func171, Tryz.ntmps171
  go_wp2_with (go_at_call 185; refine (HG.out _).mono ?_; rintro e w1 ⟨rfl, hb1⟩; obtain ⟨hc1, hf1⟩ := bcell hb1; have hz1 := hb1.size; simp at hz1; have hlt : w.heap.size < w1.heap.size := hz1)
  refine bodyPost_ret (v := textOut ⟨#[]⟩ 0 c) (by simp [results, Tryz.results171, hc1, hlt, go_sem]) rfl ⟨rfl, ?_⟩
  exact below_fin (below_res hb1) (by omega)


set_option maxHeartbeats 4000000 in
theorem specAt_fr (s : ByteArray) (p : Nat) (w : World) (hs : s.size ≤ 20000) (hp : (p : Int) ≤ 9223372036854775807) :
    Calls Tryz.prog 171 #[.string s, .int .i64 p] w fun e w' => e = .returned (txV (fr s p)) ∧ Below w.heap.size w w' := by
  have HG := Lib.hid (fun w => specGetText_gt s p w hs hp)
  cases hgt : gt s p with
  | error c =>
    have hv : fr s p = .error c := by unfold fr; rw [hgt]
    rw [hv]
    rw [hgt] at HG
    exact specAt_err s p c w (gt_err hgt) HG
  | ok x =>
    obtain ⟨t, q⟩ := x
    obtain ⟨ht, hpq, hq⟩ := gt_ok hgt
    have HU := Lib.hid (fun w => specUnseal_uns t w (by omega))
    rw [hgt] at HG
    simp only [txV] at HG
    cases hu : uns t with
    | error c =>
      have hc := uns_err hu
      have hcb : (c != 0) = true := by simpa using hc
      have hv : fr s p = .error c := by unfold fr; rw [hgt]; simp only [frU, hu]
      rw [hv]
      rw [hu] at HU
      simp only [txV, unV] at HU ⊢
      clear hv hgt hu hc
      go_enter Tryz.func171, Tryz.ntmps171
      go_wp2_with (first
        | (go_at_call 185; refine (HG.out _).mono ?_; rintro e w1 ⟨rfl, hb1⟩; obtain ⟨hc1, hf1⟩ := bcell hb1; have hz1 := hb1.size; simp at hz1; have hlt : w.heap.size < w1.heap.size := hz1)
        | (go_at_call 186; refine (HU.out _).mono ?_; rintro e w2 ⟨rfl, hb2⟩; obtain ⟨hc2, hf2⟩ := bcell hb2; have hz2 := hb2.size; simp at hz2; have hlt2 : w.heap.size < w2.heap.size := (by omega); have hlt3 : w1.heap.size < w2.heap.size := (by omega)))
      have hc3 := (bcell ((hb1.alloc (by simp; omega) (.cells #[.string t, .int .i64 (q : Int), .int .i64 0] 35)).trans (hb2.mono (by simp; omega)))).1
      refine bodyPost_ret (v := textOut ⟨#[]⟩ 0 c) (by simp [results, Tryz.results171, hc3, hlt2, go_sem]) rfl ⟨rfl, ?_⟩
      exact below_fin (((below_res hb1).alloc (by omega) _).trans (hb2.mono (by simp; omega))) (by omega)
    | ok x =>
      rw [hu] at HU
      simp only [unV] at HU
      have hxs := uns_ok hu
      by_cases hx : 1000 < x.size
      · have hv : fr s p = .error 2 := by unfold fr; rw [hgt]; simp only [frU, hu]; rw [if_pos hx]
        rw [hv]
        simp only [txV]
        have hx' : (1000 : Int) < (x.size : Int) := by omega
        clear hv hgt hu
        go_enter Tryz.func171, Tryz.ntmps171
        go_wp2_with (first
          | (go_at_call 185; refine (HG.out _).mono ?_; rintro e w1 ⟨rfl, hb1⟩; obtain ⟨hc1, hf1⟩ := bcell hb1; have hz1 := hb1.size; simp at hz1; have hlt : w.heap.size < w1.heap.size := hz1)
          | (go_at_call 186; refine (HU.out _).mono ?_; rintro e w2 ⟨rfl, hb2⟩; obtain ⟨hc2, hf2⟩ := bcell hb2; have hz2 := hb2.size; simp at hz2; have hlt2 : w.heap.size < w2.heap.size := (by omega); have hlt3 : w1.heap.size < w2.heap.size := (by omega)))
        have hc3 := (bcell ((hb1.alloc (by simp; omega) (.cells #[.string t, .int .i64 (q : Int), .int .i64 0] 35)).trans (hb2.mono (by simp; omega)))).1
        refine bodyPost_ret (v := textOut ⟨#[]⟩ 0 2) (by simp [results, Tryz.results171, hc3, hlt2, go_sem]) rfl ⟨rfl, ?_⟩
        exact below_fin (((below_res hb1).alloc (by omega) _).trans (hb2.mono (by simp; omega))) (by omega)
      · have hv : fr s p = .ok (x, q) := by unfold fr; rw [hgt]; simp only [frU, hu]; rw [if_neg hx]
        rw [hv]
        simp only [txV]
        have hx' : ¬ (1000 : Int) < (x.size : Int) := by omega
        clear hv hgt hu
        go_enter Tryz.func171, Tryz.ntmps171
        go_wp2_with (first
          | (go_at_call 185; refine (HG.out _).mono ?_; rintro e w1 ⟨rfl, hb1⟩; obtain ⟨hc1, hf1⟩ := bcell hb1; have hz1 := hb1.size; simp at hz1; have hlt : w.heap.size < w1.heap.size := hz1)
          | (go_at_call 186; refine (HU.out _).mono ?_; rintro e w2 ⟨rfl, hb2⟩; obtain ⟨hc2, hf2⟩ := bcell hb2; have hz2 := hb2.size; simp at hz2; have hlt2 : w.heap.size < w2.heap.size := (by omega); have hlt3 : w1.heap.size < w2.heap.size := (by omega)))
        have hc3 := (bcell ((hb1.alloc (by simp; omega) (.cells #[.string t, .int .i64 (q : Int), .int .i64 0] 35)).trans (hb2.mono (by simp; omega)))).1
        refine bodyPost_ret (v := textOut x q 0) (by simp [results, Tryz.results171, hc3, hlt2, go_sem]) rfl ⟨rfl, ?_⟩
        exact below_fin (((below_res hb1).alloc (by omega) _).trans (hb2.mono (by simp; omega))) (by omega)

end Go.Proofs.YtebkblmejkkhfaaGreatDoor
