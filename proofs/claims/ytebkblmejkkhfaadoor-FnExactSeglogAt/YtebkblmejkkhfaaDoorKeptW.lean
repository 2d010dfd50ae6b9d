/- The iterator over frames: its contract. A region that draws its order, whose operations only read, and whose callees keep what is known of the world (they may make memory): one walk, over a class of worlds. -/
import Derived.Test.YtebkblmejkkhfaaDoorFrCutW
import Derived.Test.YtebkblmejkkhfaaDoorFrmIW
import Derived.RangeFuncNested
import Derived.RangeFuncBound
import Derived.RangeFuncCalls
import Derived.RangeFuncLeaves
import Derived.RangeFuncBox
import Derived.Shelf.Abstract
import Derived.Shelf.RegionOpen
import Derived.WalkKit
import Derived.OwnWalkIn
import Derived.TacticsInMore
import Derived.LoopNIn
import Derived.LoopIn
import Derived.Test.YtebkblmejkkhfaaDoorBlkW
import Derived.BigQuiet
namespace Go.Proofs.YtebkblmejkkhfaaDoor
open Go.RowKit Go.Shelf
set_option linter.unusedVariables false
attribute [local go_sem] Oper.semAt_some

theorem abide_below {β : Type} {B : Nat} {J : β → World → Prop} (hJ : AbidesFrom B J) {x : β} {w w' : World} (h : J x w) (hb : Below w.heap.size w w') : J x w' :=
  hJ x w w' none h ⟨hb.os, hb.tape, hb.output, hb.size, fun k hk _ => hb.block k hk⟩ (fun r e => by cases e)
/-- All blocks below n₀ but b lie as they lay. -/
def But (b n₀ : Nat) (W W' : World) : Prop := W.heap.size ≤ W'.heap.size ∧ ∀ k, k < n₀ → k ≠ b → W'.heap[k]? = W.heap[k]?
theorem But.refl (b n₀ : Nat) (W : World) : But b n₀ W W := ⟨Nat.le_refl _, fun _ _ _ => rfl⟩
theorem But.trans {b n₀ : Nat} {A B C : World} (h : But b n₀ A B) (h2 : But b n₀ B C) : But b n₀ A C := ⟨Nat.le_trans h.1 h2.1, fun k hk hb => (h2.2 k hk hb).trans (h.2 k hk hb)⟩
theorem But.of {b n₀ m : Nat} {A B : World} (h : Below m A B) (hm : n₀ ≤ m) : But b n₀ A B := ⟨h.size, fun k hk _ => h.block k (by omega)⟩
theorem But.cell {b n₀ g i : Nat} {A B : World} (h : But b n₀ A B) (hg : g < n₀) (hb : g ≠ b) : B.cell? ⟨g, i, none⟩ = A.cell? ⟨g, i, none⟩ := World.cell?_of_block (a := ⟨g, i, none⟩) (h.2 g hg hb)
theorem Dat.but {w w' : World} {b B : Nat} {v : Value} {s : ByteArray} (h : Dat w B v s) (hb : But b B w w') (hv : v.ownBlock ≠ some b) : Dat w' B v s := by
  obtain ⟨g, cap, rfl, h1, h2, h3⟩ := h
  refine ⟨g, cap, rfl, h1, h2, ?_⟩
  intro i hi
  have := h3 i hi
  rw [hb.cell h1 (fun e => hv (by rw [e]; rfl))]
  exact this
def encF (x : ByteArray × Nat) : Array Value := #[.string x.1, .int .i64 (x.2 : Int)]

set_option maxRecDepth 1000000 in
set_option maxHeartbeats 4000000 in
theorem frames1_in (n : Nat) (hn : 1 ≤ n) (l Bn n₀ B b : Nat) (v : Value) (s : ByteArray) (hs : s.size ≤ 20000) (J Jx : List (ByteArray × Nat) → World → Prop) (hJ : AbidesFrom B J)
    (hY : ∀ pre x W1, J pre W1 → pre.length < (frs s 0).length → YieldAt Fence.wide (n - 1) Tryd.prog l (encF x) W1 fun e W' =>
      (e = .returned (.bool true) ∧ J (pre ++ [x]) W' ∧ But b n₀ W1 W') ∨ (e = .returned (.bool false) ∧ Jx (pre ++ [x]) W'))
    (W : World) (hBn : W.cell? ⟨Bn, 0, none⟩ = some v) (hBn0 : Bn < n₀) (hBb : Bn ≠ b) (hV : 4 < n₀) (hVb : 4 ≠ b) (hn₀ : n₀ ≤ W.heap.size) (hD : Dat W n₀ v s) (hDb : v.ownBlock ≠ some b) (hH : Handle W) (h0 : J [] W) :
    CallsIn Fence.wide n Tryd.prog 71 #[.func (.yield l) #[] #[], .pointer (some ⟨Bn, 0, none⟩)] W fun e W' => (∃ v, e = .returned v) ∧
      ((∃ ys, ys = frs s 0 ∧ J ys W') ∨ (∃ pre, pre <+: frs s 0 ∧ Jx pre W')) := by
  refine callsIn_of_wp Tryd.func71 rfl trivial ?_ rfl
  simp only [Tryd.ntmps71, List.size_toArray, List.length_cons, List.length_nil, Nat.reduceAdd, Nat.reduceSub, Array.replicate_succ, Array.replicate_zero, List.push_toArray, List.append_toArray, List.nil_append, List.cons_append]
  gi_wp2
  gi_loopw [3] (fun a wr => ∃ (pre : List (ByteArray × Nat)) (p : Nat), a = .int .i64 p ∧ p ≤ s.size ∧ pre ++ frs s p = frs s 0 ∧ J pre wr ∧ But b n₀ W wr) (fun a _ => s.size - (intOf a).toNat)
  case atStart => exact ⟨[], 0, rfl, by omega, rfl, h0, But.refl _ _ _⟩
  case round =>
    obtain ⟨pre, p, rfl, hp, hx, hJs, hb⟩ := hrel
    have hBn' := (hb.cell hBn0 hBb).trans hBn
    have hD' := hD.but hb hDb
    have hH' : Handle wr := (hb.cell hV hVb).trans hH
    have HC := Lib.hid (frameCut_any v s p n₀ wr hD' hp hs)
    obtain ⟨cut, hcut⟩ : ∃ cut, s.extract p (min (p + 1006) s.size) = cut := ⟨_, rfl⟩
    have hcz : cut.size ≤ 20000 := by rw [← hcut]; simp; omega
    have hfc := fr_cut hp
    rw [hcut] at HC hfc
    have HF := Lib.hid (fun w hg => implAt_fr cut 0 w hg hcz (by decide))
    cases hfr : fr s p with
    | error c =>
      obtain ⟨d, hd⟩ := hfc.2 c hfr
      have hd0 : (d != 0) = true := by simpa using fr_err hd
      rw [hd] at HF
      rw [frs_err hfr, List.append_nil] at hx
      simp only [txV] at HF
      clear hfc hcut hd
      gi_wp2_with (first
        | (refine ⟨trivial, ?_⟩; gi_at_call 73; refine (callsIn_wide.2 HC.out).mono ?_; rintro e w1 ⟨rfl, rfl⟩)
        | (refine ⟨trivial, ?_⟩; gi_at_call 72; refine (callsIn_wide.2 (HF.out _ hH')).mono ?_; rintro e w2 ⟨rfl, hb2⟩))
      have hJ2 := abide_below hJ hJs (hb2.alloc hb2.size (.cells #[.string ⟨#[]⟩, .int .i64 0, .int .i64 d] 43))
      refine bodyPost_ret (results_none rfl _ _ _) rfl ?_
      exact ⟨⟨_, rfl⟩, .inl ⟨pre, hx, hJ2⟩⟩
    | ok x =>
      obtain ⟨t, q⟩ := x
      have hok := fr_ok hfr
      have hd := hfc.1 t q hfr
      obtain ⟨d, rfl⟩ : ∃ d, q = p + d := ⟨q - p, by omega⟩
      rw [Nat.add_sub_cancel_left] at hd
      rw [hd] at HF
      rw [frs_ok hfr] at hx
      simp only [txV] at HF
      clear hfc hcut hd
      have hlen : pre.length < (frs s 0).length := by rw [← hx]; simp
      gi_wp2_with (first
        | (refine ⟨trivial, ?_⟩; gi_at_call 73; refine (callsIn_wide.2 HC.out).mono ?_; rintro e w1 ⟨rfl, rfl⟩)
        | (refine ⟨trivial, ?_⟩; gi_at_call 72; refine (callsIn_wide.2 (HF.out _ hH')).mono ?_; rintro e w2 ⟨rfl, hb2⟩; have hJ2 := abide_below hJ hJs (hb2.alloc hb2.size (.cells #[.string t, .int .i64 (d : Int), .int .i64 0] 43)); obtain ⟨fn, tmps, assign, body, hy, hR⟩ := hY pre (t, p + d) _ hJ2 hlen; simp only [encF, Int.natCast_add] at hy))
      refine hR.mono ?_
      have hb3 : But b n₀ W (w2.alloc (.cells #[.string t, .int .i64 (d : Int), .int .i64 0] 43)) := hb.trans (But.of (hb2.alloc hb2.size _) (by have := hb.1; omega))
      rintro e W3 (⟨rfl, hJ3, hk3⟩ | ⟨rfl, hJx3⟩)
      · gi_wp2
        go_roundw
        case rel => exact ⟨pre ++ [(t, p + d)], p + d, by go_num, hok.2.1, by rw [← hx]; simp, hJ3, hb3.trans hk3⟩
        case measure => simp [intOf]; omega
      · gi_wp2
        refine bodyPost_ret (results_none rfl _ _ _) rfl ?_
        exact ⟨⟨_, rfl⟩, .inr ⟨pre ++ [(t, p + d)], ⟨frs s (p + d), by rw [← hx]; simp⟩, hJx3⟩⟩

/-- framesIn: its argument is boxed; the function value captures the box. -/
theorem framesIn_any (v : Value) (s : ByteArray) (B : Nat) (w : World) (hD : Dat w B v s) :
    Calls Tryd.prog 64 #[v] w fun e w' => e = .returned (.func (.func 71) #[] #[.pointer (some ⟨w.heap.size, 0, none⟩)]) ∧ w' = w.alloc (.cells #[v] 58) := by
  obtain ⟨g, cap, rfl, h1, h2, h3⟩ := hD
  go_enter Tryd.func64, Tryd.ntmps64
  go_wp2
  go_ret
  exact ⟨rfl, rfl⟩

theorem frames_stops (n : Nat) (hn : 1 ≤ n) (Bn n₀ b : Nat) (v : Value) (s : ByteArray) (hs : s.size ≤ 20000) (w : World) (hBn : w.cell? ⟨Bn, 0, none⟩ = some v) (hBn0 : Bn < n₀) (hBb : Bn ≠ b) (hV : 4 < n₀) (hVb : 4 ≠ b) (hn₀ : n₀ ≤ w.heap.size) (hD : Dat w n₀ v s) (hDb : v.ownBlock ≠ some b) (hH : Handle w) :
    SeqStopsK Fence.wide n Tryd.prog 71 #[.pointer (some ⟨Bn, 0, none⟩)] encF (But b n₀) (fun ys => ys = frs s 0) (fun pre => pre <+: frs s 0) (frs s 0).length w := fun l J Jx W hW hJ _ hY h0 =>
  frames1_in n hn l Bn n₀ W.heap.size b v s hs J Jx hJ hY W ((hW.cell (p := ⟨Bn, 0, none⟩) (show Bn < w.heap.size by omega)).trans hBn) hBn0 hBb hV hVb (by have := hW.size; omega) (hD.below (hW.mono hn₀)) hDb (Handle.below hH hW) h0
end Go.Proofs.YtebkblmejkkhfaaDoor

namespace Go.Proofs.YtebkblmejkkhfaaDoor
open Go.RowKit
set_option linter.unusedVariables false

/-- A class of worlds, told by a map from some type. -/
theorem class_of (S : World → Prop) : ∃ (I : Type) (f : I → World), ∀ W, (∃ s, W = f s) ↔ S W :=
  ⟨{ W : World // S W }, Subtype.val, fun W => ⟨fun ⟨s, e⟩ => e ▸ s.2, fun h => ⟨⟨W, h⟩, rfl⟩⟩⟩

theorem wp_region_kept {P : Program} {id : Nat} {Q : Exit → Act → World → Prop} {a : Act} {w : World} {l : List Oper} {I : Type} (f : I → World) (hm : P.follows .mixedOrders = true) (hB : Region.lexB .any l.toArray = true) (h0 : ∃ s, w.drew = f s)
    (h : wpQuiet P l.toArray (fun w' => ∃ s, w' = f s) (fun a' => ∀ w', (∃ s, w' = f s) → Q .normal a' w') l a) : (Code.region id l.toArray true).wp P Q a w :=
  wp_region_quiet (C := fun w' => ∃ s, w' = f s) hm hB h0 (by simpa using h)

/-- The worlds that come of w by making memory. -/
theorem class_grown (w : World) : ∃ (I : Type) (f : I → World), Nonempty I ∧ (∃ s, w.drew = f s) ∧ (∀ s, Below w.heap.size w (f s)) ∧ (∀ s W', Below (f s).heap.size (f s) W' → ∃ s', W' = f s') ∧ (∀ W, (∃ s, W = f s) → Below w.heap.size w W) := by
  obtain ⟨I, f, hf⟩ := class_of (fun W => Below w.heap.size w W)
  have h0 : ∃ s, w.drew = f s := (hf _).2 (below_drew (Below.refl _ _))
  exact ⟨I, f, ⟨h0.choose⟩, h0, fun s => (hf _).1 ⟨s, rfl⟩, fun s W' h => (hf _).2 (((hf _).1 ⟨s, rfl⟩).trans (h.mono ((hf _).1 ⟨s, rfl⟩).size)), fun W h => (hf _).1 h⟩
theorem kept_cell {w W : World} {a : Addr} {v : Value} (h : Below w.heap.size w W) (hc : w.cell? a = some v) : W.cell? a = some v := by
  rw [← hc]; exact World.cell?_of_block (h.block _ (World.block_lt_of_cell? w a hc))
theorem row_off {w : World} {base n size : Nat} {e : TypeId} {v : Value} {xs : List Value} (h : w.ownsRow base e size v n xs) {p : Addr} (hp : v.ownBlock ≠ some p.block) (u : Value) : (w.setCell p u).ownsRow base e size v n xs :=
  h.kept (row := some p.block) ⟨rfl, rfl, rfl, by simp [World.setCell], fun k _ hne => Below.heap_setCell w p u k (fun e => hne (by rw [e]))⟩ (.inr hp)
theorem cell_put_far {w : World} {a p : Addr} {v : Value} (h : w.cell? a = some v) (hne : a.block ≠ p.block) (u : Value) : (w.setCell p u).cell? a = some v := by
  rw [← h]; exact World.cell?_of_block (Below.heap_setCell w p u _ hne)
theorem row_cell {w : World} {base g n c size : Nat} {e : TypeId} {xs : List Value} (h : w.ownsRow base e size (.slice (some ⟨g, 0, none⟩) n c) n xs) {j : Nat} (hj : j < n * size) : ∃ u, w.cell? ⟨g, j, none⟩ = some u := by
  have hl := h.1
  exact ⟨xs[j]'(by omega), by rw [h.cellAt j hj, List.getElem?_eq_getElem]⟩

end Go.Proofs.YtebkblmejkkhfaaDoor
