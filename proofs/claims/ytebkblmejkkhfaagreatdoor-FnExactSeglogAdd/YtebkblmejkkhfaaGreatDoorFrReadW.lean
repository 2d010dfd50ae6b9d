/- Contracts of FrameAt; the walk of its law. The iterator over frames: its contract. The contract of impl.FramesRead. -/
import Derived.Test.YtebkblmejkkhfaaGreatDoorFrmSW
import Derived.BigRegion
import Derived.RangeFuncNested
import Derived.RangeFuncBound
import Derived.RangeFuncCalls
import Derived.RangeFuncLeaves
import Derived.RangeFuncBox
import Derived.Shelf.Abstract
import Derived.Shelf.RegionOpen
import Derived.WalkKit
import Derived.OwnWalkIn
import Derived.TacticsInMore
import Derived.LoopNIn
import Derived.LoopIn
import Derived.Test.YtebkblmejkkhfaaGreatDoorSgOutW
import Derived.RangeFuncFrom
import Derived.Maps.AppendAt
namespace Go.Proofs.YtebkblmejkkhfaaGreatDoor
open Go.RowKit
set_option linter.unusedVariables false

set_option maxHeartbeats 4000000 in
theorem implAt_err (s : ByteArray) (a0 c : Int) (w : World) (hg : Handle w) (hc : c ≠ 0) (HG : Hid (∀ w, Handle w → Calls Tryz.prog 221 #[.string s, .int .i64 a0] w fun e w' => e = .returned (textOut ⟨#[]⟩ 0 c) ∧ Below w.heap.size w w')) :
    Calls Tryz.prog 200 #[.string s, .int .i64 a0] w fun e w' => e = .returned (textOut ⟨#[]⟩ 0 c) ∧ Below w.heap.size w w' := by
  have hg' := Handle.below hg ((Below.refl _ w).alloc (Nat.le_refl _) (.cells #[.string ⟨#[]⟩, .int .i64 0, .int .i64 0] 35))
  have HH := Lib.hid hg'
  clear hg' hg
  have hcb : (c != 0) = true := by simpa using hc
  clear hc
  go_enter Tryz.func200, Tryz.ntmps200
  go_wp2_with (go_at_call 221; refine (HG.out _ HH.out).mono ?_; rintro e w1 ⟨rfl, hb1⟩; obtain ⟨hc1, hf1⟩ := bcell hb1; have hz1 := hb1.size; simp at hz1; have hlt : w.heap.size < w1.heap.size := hz1)
  refine bodyPost_ret (v := textOut ⟨#[]⟩ 0 c) (by simp [results, Tryz.results200, hc1, hlt, go_sem]) rfl ⟨rfl, ?_⟩
  exact below_fin (below_res hb1) (by omega)


set_option maxHeartbeats 4000000 in
theorem implAt_fr (s : ByteArray) (p : Nat) (w : World) (hg : Handle w) (hs : s.size ≤ 20000) (hp : (p : Int) ≤ 9223372036854775807) :
    Calls Tryz.prog 200 #[.string s, .int .i64 p] w fun e w' => e = .returned (txV (fr s p)) ∧ Below w.heap.size w w' := by
  have HH0 := Lib.hid hg
  have hg' := Handle.below hg ((Below.refl _ w).alloc (Nat.le_refl _) (.cells #[.string ⟨#[]⟩, .int .i64 0, .int .i64 0] 35))
  have HH := Lib.hid hg'
  clear hg' hg
  have HG := Lib.hid (fun w hg => implGetText_gt s p w hg hs hp)
  cases hgt : gt s p with
  | error c =>
    have hv : fr s p = .error c := by unfold fr; rw [hgt]
    rw [hv]
    rw [hgt] at HG
    exact implAt_err s p c w HH0.out (gt_err hgt) HG
  | ok x =>
    obtain ⟨t, q⟩ := x
    obtain ⟨ht, hpq, hq⟩ := gt_ok hgt
    have HU := Lib.hid (fun w => implUnseal_uns t w (by omega))
    rw [hgt] at HG
    simp only [txV] at HG
    cases hu : uns t with
    | error c =>
      have hc := uns_err hu
      have hcb : (c != 0) = true := by simpa using hc
      have hv : fr s p = .error c := by unfold fr; rw [hgt]; simp only [frU, hu]
      rw [hv]
      rw [hu] at HU
      simp only [txV, unV] at HU ⊢
      clear hv hgt hu hc
      go_enter Tryz.func200, Tryz.ntmps200
      go_wp2_with (first
        | (go_at_call 221; refine (HG.out _ HH.out).mono ?_; rintro e w1 ⟨rfl, hb1⟩; obtain ⟨hc1, hf1⟩ := bcell hb1; have hz1 := hb1.size; simp at hz1; have hlt : w.heap.size < w1.heap.size := hz1)
        | (go_at_call 222; refine (HU.out _).mono ?_; rintro e w2 ⟨rfl, hb2⟩; obtain ⟨hc2, hf2⟩ := bcell hb2; have hz2 := hb2.size; simp at hz2; have hlt2 : w.heap.size < w2.heap.size := (by omega); have hlt3 : w1.heap.size < w2.heap.size := (by omega)))
      have hc3 := (bcell ((hb1.alloc (by simp; omega) (.cells #[.string t, .int .i64 (q : Int), .int .i64 0] 35)).trans (hb2.mono (by simp; omega)))).1
      refine bodyPost_ret (v := textOut ⟨#[]⟩ 0 c) (by simp [results, Tryz.results200, hc3, hlt2, go_sem]) rfl ⟨rfl, ?_⟩
      exact below_fin (((below_res hb1).alloc (by omega) _).trans (hb2.mono (by simp; omega))) (by omega)
    | ok x =>
      rw [hu] at HU
      simp only [unV] at HU
      have hxs := uns_ok hu
      by_cases hx : 1000 < x.size
      · have hv : fr s p = .error 2 := by unfold fr; rw [hgt]; simp only [frU, hu]; rw [if_pos hx]
        rw [hv]
        simp only [txV]
        have hx' : (1000 : Int) < (x.size : Int) := by omega
        clear hv hgt hu
        go_enter Tryz.func200, Tryz.ntmps200
        go_wp2_with (first
          | (go_at_call 221; refine (HG.out _ HH.out).mono ?_; rintro e w1 ⟨rfl, hb1⟩; obtain ⟨hc1, hf1⟩ := bcell hb1; have hz1 := hb1.size; simp at hz1; have hlt : w.heap.size < w1.heap.size := hz1)
          | (go_at_call 222; refine (HU.out _).mono ?_; rintro e w2 ⟨rfl, hb2⟩; obtain ⟨hc2, hf2⟩ := bcell hb2; have hz2 := hb2.size; simp at hz2; have hlt2 : w.heap.size < w2.heap.size := (by omega); have hlt3 : w1.heap.size < w2.heap.size := (by omega)))
        have hc3 := (bcell ((hb1.alloc (by simp; omega) (.cells #[.string t, .int .i64 (q : Int), .int .i64 0] 35)).trans (hb2.mono (by simp; omega)))).1
        refine bodyPost_ret (v := textOut ⟨#[]⟩ 0 2) (by simp [results, Tryz.results200, hc3, hlt2, go_sem]) rfl ⟨rfl, ?_⟩
        exact below_fin (((below_res hb1).alloc (by omega) _).trans (hb2.mono (by simp; omega))) (by omega)
      · have hv : fr s p = .ok (x, q) := by unfold fr; rw [hgt]; simp only [frU, hu]; rw [if_neg hx]
        rw [hv]
        simp only [txV]
        have hx' : ¬ (1000 : Int) < (x.size : Int) := by omega
        clear hv hgt hu
        go_enter Tryz.func200, Tryz.ntmps200
        go_wp2_with (first
          | (go_at_call 221; refine (HG.out _ HH.out).mono ?_; rintro e w1 ⟨rfl, hb1⟩; obtain ⟨hc1, hf1⟩ := bcell hb1; have hz1 := hb1.size; simp at hz1; have hlt : w.heap.size < w1.heap.size := hz1)
          | (go_at_call 222; refine (HU.out _).mono ?_; rintro e w2 ⟨rfl, hb2⟩; obtain ⟨hc2, hf2⟩ := bcell hb2; have hz2 := hb2.size; simp at hz2; have hlt2 : w.heap.size < w2.heap.size := (by omega); have hlt3 : w1.heap.size < w2.heap.size := (by omega)))
        have hc3 := (bcell ((hb1.alloc (by simp; omega) (.cells #[.string t, .int .i64 (q : Int), .int .i64 0] 35)).trans (hb2.mono (by simp; omega)))).1
        refine bodyPost_ret (v := textOut x q 0) (by simp [results, Tryz.results200, hc3, hlt2, go_sem]) rfl ⟨rfl, ?_⟩
        exact below_fin (((below_res hb1).alloc (by omega) _).trans (hb2.mono (by simp; omega))) (by omega)

end Go.Proofs.YtebkblmejkkhfaaGreatDoor

namespace Go.Proofs.YtebkblmejkkhfaaGreatDoor
open Go.RowKit Go.Shelf
set_option linter.unusedVariables false
attribute [local go_sem] Oper.semAt_some

theorem abide_below {β : Type} {B : Nat} {J : β → World → Prop} (hJ : AbidesFrom B J) {x : β} {w w' : World} (h : J x w) (hb : Below w.heap.size w w') : J x w' :=
  hJ x w w' none h ⟨hb.os, hb.tape, hb.output, hb.size, fun k hk _ => hb.block k hk⟩ (fun r e => by cases e)
/-- All blocks below n₀ but b lie as they lay. -/
def But (b n₀ : Nat) (W W' : World) : Prop := W.heap.size ≤ W'.heap.size ∧ ∀ k, k < n₀ → k ≠ b → W'.heap[k]? = W.heap[k]?
theorem But.refl (b n₀ : Nat) (W : World) : But b n₀ W W := ⟨Nat.le_refl _, fun _ _ _ => rfl⟩
theorem But.trans {b n₀ : Nat} {A B C : World} (h : But b n₀ A B) (h2 : But b n₀ B C) : But b n₀ A C := ⟨Nat.le_trans h.1 h2.1, fun k hk hb => (h2.2 k hk hb).trans (h.2 k hk hb)⟩
theorem But.of {b n₀ m : Nat} {A B : World} (h : Below m A B) (hm : n₀ ≤ m) : But b n₀ A B := ⟨h.size, fun k hk _ => h.block k (by omega)⟩
theorem But.cell {b n₀ g i : Nat} {A B : World} (h : But b n₀ A B) (hg : g < n₀) (hb : g ≠ b) : B.cell? ⟨g, i, none⟩ = A.cell? ⟨g, i, none⟩ := World.cell?_of_block (a := ⟨g, i, none⟩) (h.2 g hg hb)
theorem Dat.but {w w' : World} {b B : Nat} {v : Value} {s : ByteArray} (h : Dat w B v s) (hb : But b B w w') (hv : v.ownBlock ≠ some b) : Dat w' B v s := by
  obtain ⟨g, cap, rfl, h1, h2, h3⟩ := h
  refine ⟨g, cap, rfl, h1, h2, ?_⟩
  intro i hi
  have := h3 i hi
  rw [hb.cell h1 (fun e => hv (by rw [e]; rfl))]
  exact this
def encF (x : ByteArray × Nat) : Array Value := #[.string x.1, .int .i64 (x.2 : Int)]

set_option maxRecDepth 1000000 in
set_option maxHeartbeats 4000000 in
theorem frames1_in (n : Nat) (hn : 1 ≤ n) (l Bn n₀ B b : Nat) (v : Value) (s : ByteArray) (hs : s.size ≤ 20000) (J Jx : List (ByteArray × Nat) → World → Prop) (hJ : AbidesFrom B J)
    (hY : ∀ pre x W1, J pre W1 → pre.length < (frs s 0).length → YieldAt Fence.wide (n - 1) Tryz.prog l (encF x) W1 fun e W' =>
      (e = .returned (.bool true) ∧ J (pre ++ [x]) W' ∧ But b n₀ W1 W') ∨ (e = .returned (.bool false) ∧ Jx (pre ++ [x]) W'))
    (W : World) (hBn : W.cell? ⟨Bn, 0, none⟩ = some v) (hBn0 : Bn < n₀) (hBb : Bn ≠ b) (hV : 11 < n₀) (hVb : 11 ≠ b) (hn₀ : n₀ ≤ W.heap.size) (hD : Dat W n₀ v s) (hDb : v.ownBlock ≠ some b) (hH : Handle W) (h0 : J [] W) :
    CallsIn Fence.wide n Tryz.prog 199 #[.func (.yield l) #[] #[], .pointer (some ⟨Bn, 0, none⟩)] W fun e W' => (∃ v, e = .returned v) ∧
      ((∃ ys, ys = frs s 0 ∧ J ys W') ∨ (∃ pre, pre <+: frs s 0 ∧ Jx pre W')) := by
  refine callsIn_of_wp Tryz.func199 rfl trivial ?_ rfl
  simp only [Tryz.ntmps199, List.size_toArray, List.length_cons, List.length_nil, Nat.reduceAdd, Nat.reduceSub, Array.replicate_succ, Array.replicate_zero, List.push_toArray, List.append_toArray, List.nil_append, List.cons_append]
  gi_wp2
  gi_loopw [3] (fun a wr => ∃ (pre : List (ByteArray × Nat)) (p : Nat), a = .int .i64 p ∧ p ≤ s.size ∧ pre ++ frs s p = frs s 0 ∧ J pre wr ∧ But b n₀ W wr) (fun a _ => s.size - (intOf a).toNat)
  case atStart => exact ⟨[], 0, rfl, by omega, rfl, h0, But.refl _ _ _⟩
  case round =>
    obtain ⟨pre, p, rfl, hp, hx, hJs, hb⟩ := hrel
    have hBn' := (hb.cell hBn0 hBb).trans hBn
    have hD' := hD.but hb hDb
    have hH' : Handle wr := (hb.cell hV hVb).trans hH
    have HC := Lib.hid (frameCut_any v s p n₀ wr hD' hp hs)
    obtain ⟨cut, hcut⟩ : ∃ cut, s.extract p (min (p + 1006) s.size) = cut := ⟨_, rfl⟩
    have hcz : cut.size ≤ 20000 := by rw [← hcut]; simp; omega
    have hfc := fr_cut hp
    rw [hcut] at HC hfc
    have HF := Lib.hid (fun w hg => implAt_fr cut 0 w hg hcz (by decide))
    cases hfr : fr s p with
    | error c =>
      obtain ⟨d, hd⟩ := hfc.2 c hfr
      have hd0 : (d != 0) = true := by simpa using fr_err hd
      rw [hd] at HF
      rw [frs_err hfr, List.append_nil] at hx
      simp only [txV] at HF
      clear hfc hcut hd
      gi_wp2_with (first
        | (refine ⟨trivial, ?_⟩; gi_at_call 201; refine (callsIn_wide.2 HC.out).mono ?_; rintro e w1 ⟨rfl, rfl⟩)
        | (refine ⟨trivial, ?_⟩; gi_at_call 200; refine (callsIn_wide.2 (HF.out _ hH')).mono ?_; rintro e w2 ⟨rfl, hb2⟩))
      have hJ2 := abide_below hJ hJs (hb2.alloc hb2.size (.cells #[.string ⟨#[]⟩, .int .i64 0, .int .i64 d] 35))
      refine bodyPost_ret (results_none rfl _ _ _) rfl ?_
      exact ⟨⟨_, rfl⟩, .inl ⟨pre, hx, hJ2⟩⟩
    | ok x =>
      obtain ⟨t, q⟩ := x
      have hok := fr_ok hfr
      have hd := hfc.1 t q hfr
      obtain ⟨d, rfl⟩ : ∃ d, q = p + d := ⟨q - p, by omega⟩
      rw [Nat.add_sub_cancel_left] at hd
      rw [hd] at HF
      rw [frs_ok hfr] at hx
      simp only [txV] at HF
      clear hfc hcut hd
      have hlen : pre.length < (frs s 0).length := by rw [← hx]; simp
      gi_wp2_with (first
        | (refine ⟨trivial, ?_⟩; gi_at_call 201; refine (callsIn_wide.2 HC.out).mono ?_; rintro e w1 ⟨rfl, rfl⟩)
        | (refine ⟨trivial, ?_⟩; gi_at_call 200; refine (callsIn_wide.2 (HF.out _ hH')).mono ?_; rintro e w2 ⟨rfl, hb2⟩; have hJ2 := abide_below hJ hJs (hb2.alloc hb2.size (.cells #[.string t, .int .i64 (d : Int), .int .i64 0] 35)); obtain ⟨fn, tmps, assign, body, hy, hR⟩ := hY pre (t, p + d) _ hJ2 hlen; simp only [encF, Int.natCast_add] at hy))
      refine hR.mono ?_
      have hb3 : But b n₀ W (w2.alloc (.cells #[.string t, .int .i64 (d : Int), .int .i64 0] 35)) := hb.trans (But.of (hb2.alloc hb2.size _) (by have := hb.1; omega))
      rintro e W3 (⟨rfl, hJ3, hk3⟩ | ⟨rfl, hJx3⟩)
      · gi_wp2
        go_roundw
        case rel => exact ⟨pre ++ [(t, p + d)], p + d, by go_num, hok.2.1, by rw [← hx]; simp, hJ3, hb3.trans hk3⟩
        case measure => simp [intOf]; omega
      · gi_wp2
        refine bodyPost_ret (results_none rfl _ _ _) rfl ?_
        exact ⟨⟨_, rfl⟩, .inr ⟨pre ++ [(t, p + d)], ⟨frs s (p + d), by rw [← hx]; simp⟩, hJx3⟩⟩

/-- framesIn: its argument is boxed; the function value captures the box. -/
theorem framesIn_any (v : Value) (s : ByteArray) (B : Nat) (w : World) (hD : Dat w B v s) :
    Calls Tryz.prog 184 #[v] w fun e w' => e = .returned (.func (.func 199) #[] #[.pointer (some ⟨w.heap.size, 0, none⟩)]) ∧ w' = w.alloc (.cells #[v] 22) := by
  obtain ⟨g, cap, rfl, h1, h2, h3⟩ := hD
  go_enter Tryz.func184, Tryz.ntmps184
  go_wp2
  go_ret
  exact ⟨rfl, rfl⟩

theorem frames_stops (n : Nat) (hn : 1 ≤ n) (Bn n₀ b : Nat) (v : Value) (s : ByteArray) (hs : s.size ≤ 20000) (w : World) (hBn : w.cell? ⟨Bn, 0, none⟩ = some v) (hBn0 : Bn < n₀) (hBb : Bn ≠ b) (hV : 11 < n₀) (hVb : 11 ≠ b) (hn₀ : n₀ ≤ w.heap.size) (hD : Dat w n₀ v s) (hDb : v.ownBlock ≠ some b) (hH : Handle w) :
    SeqStopsK Fence.wide n Tryz.prog 199 #[.pointer (some ⟨Bn, 0, none⟩)] encF (But b n₀) (fun ys => ys = frs s 0) (fun pre => pre <+: frs s 0) (frs s 0).length w := fun l J Jx W hW hJ _ hY h0 =>
  frames1_in n hn l Bn n₀ W.heap.size b v s hs J Jx hJ hY W ((hW.cell (p := ⟨Bn, 0, none⟩) (show Bn < w.heap.size by omega)).trans hBn) hBn0 hBb hV hVb (by have := hW.size; omega) (hD.below (hW.mono hn₀)) hDb (Handle.below hH hW) h0
end Go.Proofs.YtebkblmejkkhfaaGreatDoor

namespace Go.Proofs.YtebkblmejkkhfaaGreatDoor
open Go.RowKit Go.Shelf
set_option linter.unusedVariables false
attribute [local go_sem] Oper.semAt_some

abbrev framesV (v : Value) (p c : Int) : Value := .agg #[v, .int .i64 p, .int .i64 c]
theorem blk_not_row {W : World} {B : Nat} {t e : TypeId} {cs : List Value} (h : Blk W B t cs) (hte : t ≠ e) {base size k : Nat} {v : Value} {xs : List Value} (hr : W.ownsRow base e size v k xs) : some B ≠ v.ownBlock := by
  rcases hr.2 with ⟨rfl, _⟩ | ⟨g, cap, cur, rfl, _, hgb, _⟩
  · simp [Value.ownBlock]
  · intro e'
    obtain rfl : B = g := by simpa [Value.ownBlock] using e'
    have := (show W.heap[B]? = _ from h).symm.trans hgb
    simp at this
    exact hte this.2
theorem ownR_some {w : World} {base size n : Nat} {e : TypeId} {v : Value} {xs : List Value} (h : w.ownsRow base e size v n xs) : ∃ A c, v = .slice A n c := by
  rcases h.2 with ⟨rfl, hz⟩ | ⟨g, cap, cur, rfl, _⟩
  · exact ⟨none, 0, by rw [hz]⟩
  · exact ⟨_, _, rfl⟩
/-- What is known of the loop's variable between two rounds. -/
def Got (n₀ b : Nat) (pre : List (ByteArray × Nat)) (W : World) : Prop :=
  ∃ v, Blk W b 177 [v, .int .i64 (endOf pre : Int), .int .i64 0] ∧ W.ownsRow n₀ 9 1 v pre.length (pre.map fun x => Value.string x.1)
theorem got_own (n₀ b : Nat) : Own (Got n₀ b) := by
  rintro s X Y row ⟨v, hv, hr⟩ hg hrow
  refine ⟨v, hv.grown hg (fun e' => ?_), hr.kept hg ?_⟩
  · obtain ⟨o, ho, hc⟩ := hrow b e'.symm
    rw [show X.heap[b]? = _ from hv] at ho; cases ho; cases hc
  · rcases hr.2 with ⟨rfl, _⟩ | ⟨g, cap, cur, rfl, _, hgb, _⟩
    · exact .inl rfl
    · refine .inr fun e' => ?_
      obtain ⟨o, ho, hc⟩ := hrow g (by simpa [Value.ownBlock] using e'.symm)
      rw [hgb] at ho; cases ho; cases hc
theorem got_app {W w2 : World} {n₀ b : Nat} {t e : TypeId} {u : Value} {k : Nat} {xs cs : List Value} {tmp : Obj} (hv : Blk W b t cs) (hte : t ≠ e) (hrow : W.ownsRow n₀ e 1 u k xs) (hn₀ : n₀ ≤ W.heap.size) (hgrow : (W.alloc tmp).grownBy w2 u.ownBlock) :
    Blk w2 b t cs ∧ KeepsOthers W w2 ∧ Below n₀ W w2 := by
  refine ⟨(hv.alloc tmp).grown hgrow (blk_not_row hv hte hrow), ?_, ?_⟩
  · refine (KeepsOthers.alloc W tmp).trans (KeepsOthers.of_grownBy hgrow fun j o ej hj => ?_)
    rcases (hrow.alloc tmp).2 with ⟨rfl, _⟩ | ⟨g, cap, cur, rfl, _, hgb, _⟩
    · simp [Value.ownBlock] at ej
    · obtain rfl : g = j := by simpa [Value.ownBlock] using ej
      rw [hgb] at hj; cases hj; rfl
  · refine ((Below.refl n₀ W).alloc hn₀ tmp).grown hgrow (by simp; omega) fun j ej => ?_
    rcases hrow.2 with ⟨rfl, _⟩ | ⟨g, cap, cur, rfl, hb, _, _⟩
    · simp [Value.ownBlock] at ej
    · obtain rfl : g = j := by simpa [Value.ownBlock] using ej
      exact hb
theorem conv_dat (w : World) (s : ByteArray) :
    ∃ v w', (convert 9 22 (.string s)).run Tryz.prog w = .ok v w' ∧ Dat w' w'.heap.size v s ∧ v.ownBlock = some w.heap.size ∧ Below w.heap.size w w' := by
  obtain ⟨w', h1, ⟨g, cap, e, hg0, hg1, hc, h2, h3⟩, h4⟩ := conv_own w s w.heap.size (Nat.le_refl _)
  have hl : (Lib.byteCells s.data.toList).length = s.size := by rw [Lib.byteCells_length, ← Lib.size_eq]
  rw [hl] at e hc
  cases e
  refine ⟨_, w', h1, ⟨w.heap.size, _, rfl, hg1, hc, fun i hi => ?_⟩, rfl, h4⟩
  rw [Nat.zero_add]
  refine h2 i _ ?_
  have hi' : i < s.data.size := hi
  simp [Lib.byteCells]
  exact ⟨s.data[i], Array.getElem?_eq_getElem hi', rfl⟩

set_option maxRecDepth 1000000 in
set_option maxHeartbeats 4000000 in
theorem implFramesRead_any (s : ByteArray) (w : World) (hs : s.size ≤ 20000) (hH : Handle w) :
    Calls Tryz.prog 170 #[.string s] w fun e w' => ∃ v, e = .returned (framesV v (endOf (frs s 0) : Int) 0) ∧ OwnS w' w.heap.size v ((frs s 0).map Prod.fst) ∧ Below w.heap.size w w' := by
  obtain ⟨i0, hi, hz0, hz1, hz2⟩ := info_parts infoStr
  refine (callsIn_wide (n := 3)).1 ?_
  refine callsIn_of_wp_marks Tryz.func170 rfl trivial ?_ rfl
  simp only [Tryz.ntmps170, List.size_toArray, List.length_cons, List.length_nil, Nat.reduceAdd, Nat.reduceSub, Array.replicate_succ, Array.replicate_zero, List.push_toArray, List.append_toArray, List.nil_append, List.cons_append]
  have HT : Hid (∀ w, Calls Tryz.prog 74 #[.string s] w fun e w' => e = .returned (.bool false) ∧ w' = w) := Lib.hid fun w => by
    go_enter Tryz.func74, Tryz.ntmps74
    go_wp2
    go_ret
    exact ⟨retB (by simp; omega), rfl⟩
  obtain ⟨v, w1, hcv, hD, hv, hb1⟩ := conv_dat ((w.alloc (.cells #[.slice none 0 0, .int .i64 0, .int .i64 0] 177)).alloc (.cells #[.slice none 0 0, .int .i64 0, .int .i64 0] 177)) s
  gi_wp2_with (first
    | (refine ⟨trivial, ?_⟩; gi_at_call 74; refine (callsIn_wide.2 (HT.out _)).mono ?_; rintro e w' ⟨rfl, rfl⟩)
    | (refine ⟨trivial, ?_⟩; gi_at_call 184; refine (callsIn_wide.2 (framesIn_any v s _ _ hD)).mono ?_; rintro e w' ⟨rfl, rfl⟩))
  have hO0 := Blk.fresh (w.alloc (.cells #[.slice none 0 0, .int .i64 0, .int .i64 0] 177)) 177 [.slice none 0 0, .int .i64 0, .int .i64 0]
  have hR0 := (Blk.fresh w 177 [.slice none 0 0, .int .i64 0, .int .i64 0]).alloc (.cells #[.slice none 0 0, .int .i64 0, .int .i64 0] 177)
  have hb0 : Below w.heap.size w ((w.alloc (.cells #[.slice none 0 0, .int .i64 0, .int .i64 0] 177)).alloc (.cells #[.slice none 0 0, .int .i64 0, .int .i64 0] 177)) := ((Below.refl _ w).alloc (Nat.le_refl _) _).alloc (by simp) _
  obtain ⟨w0, hw0⟩ : ∃ w0, ((w.alloc (.cells #[.slice none 0 0, .int .i64 0, .int .i64 0] 177)).alloc (.cells #[.slice none 0 0, .int .i64 0, .int .i64 0] 177)) = w0 := ⟨_, rfl⟩
  have hz : w0.heap.size = w.heap.size + 2 := by rw [← hw0]; simp
  have e1 : (w.alloc (.cells #[.slice none 0 0, .int .i64 0, .int .i64 0] 177)).heap.size = w.heap.size + 1 := by simp
  simp only [List.toArray] at hO0 hR0
  rw [e1] at hO0
  rw [hw0] at hb1 hv hb0 hO0 hR0
  clear hcv hw0
  have hzb := hb1.size
  have hO1 := hO0.below hb1 (by omega)
  have hR1 := hR0.below hb1 (by omega)
  have hB1 := hb0.trans (hb1.mono (by omega))
  have hvb : v.ownBlock ≠ some (w.heap.size + 1) := by rw [hv, hz]; simp
  have hVw := Handle.lt hH
  have hH1 := Handle.below hH (hB1.alloc hB1.size (.cells #[v] 22))
  have bN := Boxed.new w1 22 v
  have hD1 : Dat (w1.alloc (.cells #[v] 22)) (w1.heap.size + 1) v s := by
    obtain ⟨g, cap, e, h1, h2, h3⟩ := hD.below ((Below.refl _ w1).alloc (Nat.le_refl _) (.cells #[v] 22))
    exact ⟨g, cap, e, by omega, h2, h3⟩
  refine wpIn_rangeFunc_ownF rfl (by decide) (gf := 199) (lb := #[.pointer (some ⟨w1.heap.size, 0, none⟩)]) rfl trivial (enters_of Tryz.func199 (by kernel_rfl) rfl)
    (frames_stops (3 - 1) (by decide) w1.heap.size (w1.heap.size + 1) (w.heap.size + 1) v s hs _ bN.cell (by omega) (by omega) (by omega) (by omega) (by simp) hD1 hvb hH1) But.trans
    (fun W l o o' hl h _ _ => But.of (m := w1.heap.size + 1) ((Below.refl _ W).grown (grownBy_putObj' W l o') (by have := (Array.getElem?_eq_some_iff.1 h).1; simp at hl; omega) (fun k e => by cases e; simpa using hl)) (Nat.le_refl _)) (Below.refl _ _) (fun _ => rfl)
    (fun pre W => Got (w1.heap.size + 1) (w.heap.size + 1) pre W ∧ w1.heap.size + 1 ≤ W.heap.size ∧ Blk W w.heap.size 177 [.slice none 0 0, .int .i64 0, .int .i64 0] ∧ Below w.heap.size w W)
    (fun _ _ _ => False)
    (OwnFrom.and (Own.from (got_own _ _) _) (OwnFrom.and (fun s X Y row hs hg hr => Nat.le_trans hs hg.size) (OwnFrom.and (fun s X Y row hs hg hr => hs.grown hg (fun e => by have := (hr _ e.symm).1; simp at this; omega)) (ownFrom_below (Nat.le_refl _) (by simp; omega)))))
    (fun _ _ _ _ _ hs _ _ => hs)
    ⟨⟨_, hO1.alloc _, World.ownsRow_nil _ _ _ _⟩, by simp, hR1.alloc _, hB1.alloc hB1.size _⟩
    (fun x => { tmps := #[.string s, undef, .pointer (some ⟨w.heap.size, 0, none⟩), .pointer (some ⟨w.heap.size + 1, 0, none⟩), .string x.1, .int .i64 (x.2 : Int), .string s, .bool false, undef, .string s, v, .func (.func 199) #[] #[.pointer (some ⟨w1.heap.size, 0, none⟩)], .string x.1, .int .i64 (x.2 : Int), undef, undef, undef, undef, undef, undef, undef, undef, undef], defers := [] }) ?assign ?body ?done ?stop
  case assign =>
    intro l x W K hK
    simp only [encF]
    gi_wp2
    exact hK
  case body =>
    rintro l pre x W ⟨⟨u, hv, hrow⟩, hW, hR, hB⟩ hlt
    have hfl := frs_len (s := s) s.size 0 (by omega)
    have hc0 := hv.cell (i := 0) rfl
    have hsz := hB.size
    gi_wp2_with (gi_at_builtin; refine wpListIn_append_own _ rfl _ _ 50 rfl (w1.heap.size + 1) 9 i0 (.string ⟨#[]⟩) 1 16 Tryz.underlying50 hi hz0 hz1 hz2 rfl (by decide) _ _ _ rfl (hrow.alloc _) ⟨W.heap.size, 0, none⟩ 1 1 [.string x.1] rfl rfl (cell_one_new _ _ _) (by simp [Value.oneCell']) (by unfold maxLen; omega) (by omega) (by simp; omega) ?_; intro v' w2 hown' hgrow _; obtain ⟨g', cap', rfl⟩ := ownsRow_succ hown'; obtain ⟨hv1, hk1, hbb⟩ := got_app hv (by decide) hrow hW hgrow; have hc1 := hv1.cell (i := 0) rfl; have hf1 := hv1.froz 0; have hv2 := hv1.put 0 (.slice (some ⟨g', 0, none⟩) (pre.length + 1) cap'); have hc2 := hv2.cell (i := 1) rfl; have hf2 := hv2.froz 1)
    have hv3 := hv2.put 1 (.int .i64 (x.2 : Int))
    have hB2 := hB.trans (hbb.mono (by omega))
    have hzz := hbb.size
    refine ⟨(hk1.trans (KeepsOthers.setCell _ _ _)).trans (KeepsOthers.setCell _ _ _), ?_, ⟨.slice (some ⟨g', 0, none⟩) (pre.length + 1) cap', ?_, ?_⟩, ?_, ?_, ?_⟩
    · exact (But.of (b := w.heap.size + 1) hbb (Nat.le_refl _)).trans ⟨by simp [World.setCell], fun k hk hne => by rw [Below.heap_setCell _ _ _ k hne, Below.heap_setCell _ _ _ k hne]⟩
    · rw [endOf_snoc]; exact hv3
    · have h4 := row_far (row_far hown' (p := ⟨w.heap.size + 1, 0, none⟩) (by simp; omega) (.slice (some ⟨g', 0, none⟩) (pre.length + 1) cap')) (p := ⟨w.heap.size + 1, 1, none⟩) (by simp; omega) (.int .i64 (x.2 : Int))
      simpa using h4
    · simp [World.setCell]; omega
    · exact ((hR.below hbb (by omega)).far (by simp) _).far (by simp) _
    · exact (hB2.setCell (p := ⟨w.heap.size + 1, 0, none⟩) (by simp) _).setCell (p := ⟨w.heap.size + 1, 1, none⟩) (by simp) _
  case done =>
    rintro D ys W hD rfl ⟨⟨u, hv, hrow⟩, hW, hR, hB⟩ hK
    have hc0 := hv.cell (i := 0) rfl
    have hc1 := hv.cell (i := 1) rfl
    have hc2 := hv.cell (i := 2) rfl
    have hr0 := hR.cell (i := 0) rfl
    have hr1 := hR.cell (i := 1) rfl
    have hr2 := hR.cell (i := 2) rfl
    have hf0 := hR.froz 0
    have hf1 := hR.froz 1
    have hf2 := hR.froz 2
    obtain ⟨A1, c1, rfl⟩ := ownR_some hrow
    gi_wp2
    have hR3 := ((hR.put 0 (.slice A1 (frs s 0).length c1)).put 1 (.int .i64 (endOf (frs s 0) : Int))).put 2 (.int .i64 0)
    have hr3 := row_far (row_far (row_far hrow (p := ⟨w.heap.size, 0, none⟩) (by simp; omega) (.slice A1 (frs s 0).length c1)) (p := ⟨w.heap.size, 1, none⟩) (by simp; omega) (.int .i64 (endOf (frs s 0) : Int))) (p := ⟨w.heap.size, 2, none⟩) (by simp; omega) (.int .i64 0)
    have hB3 := ((hB.setCell (p := ⟨w.heap.size, 0, none⟩) (by simp) (.slice A1 (frs s 0).length c1)).setCell (p := ⟨w.heap.size, 1, none⟩) (by simp) (.int .i64 (endOf (frs s 0) : Int))).setCell (p := ⟨w.heap.size, 2, none⟩) (by simp) (.int .i64 0)
    have hK3 := (KeepsOthers.setCell ((W.setCell ⟨w.heap.size, 0, none⟩ (.slice A1 (frs s 0).length c1)).setCell ⟨w.heap.size, 1, none⟩ (.int .i64 (endOf (frs s 0) : Int))) ⟨w.heap.size, 2, none⟩ (.int .i64 0)).same D _ ((KeepsOthers.setCell (W.setCell ⟨w.heap.size, 0, none⟩ (.slice A1 (frs s 0).length c1)) ⟨w.heap.size, 1, none⟩ (.int .i64 (endOf (frs s 0) : Int))).same D _ ((KeepsOthers.setCell W ⟨w.heap.size, 0, none⟩ (.slice A1 (frs s 0).length c1)).same D _ hK rfl) rfl) rfl
    obtain ⟨W3, hW3⟩ : ∃ W3, (((W.setCell ⟨w.heap.size, 0, none⟩ (.slice A1 (frs s 0).length c1)).setCell ⟨w.heap.size, 1, none⟩ (.int .i64 (endOf (frs s 0) : Int))).setCell ⟨w.heap.size, 2, none⟩ (.int .i64 0)) = W3 := ⟨_, rfl⟩
    rw [hW3] at hR3 hr3 hB3 hK3 ⊢
    simp only [World.size_alloc] at hD
    have hR4 := hR3.grown (grownBy_putObj' W3 D (.deferred none)) (by simp; omega)
    have k0 := hR4.cell (i := 0) rfl
    have k1 := hR4.cell (i := 1) rfl
    have k2 := hR4.cell (i := 2) rfl
    refine ⟨by simp, .inl ⟨_, _, rfl, run_takeDeferred hK3, ?_⟩⟩
    refine ⟨framesV (.slice A1 (frs s 0).length c1) (endOf (frs s 0) : Int) 0, by simp [results, Tryz.results170, k0, k1, k2, go_sem], .slice A1 (frs s 0).length c1, rfl, ?_, hB3.trans (belowK_b (w := w) (Nat.le_refl _) W3 D _ _ (by omega) hK3 rfl rfl)⟩
    have h5 := ownsRow_putObj hr3 (.deferred none) hK3 rfl
    refine ownS_base (base := w1.heap.size + 1) ?_ (by omega)
    unfold OwnS
    rw [List.length_map, List.map_map]
    exact h5
  case stop =>
    rintro D c pre W _ _ h _
    exact h.elim
end Go.Proofs.YtebkblmejkkhfaaGreatDoor
