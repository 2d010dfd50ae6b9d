/- Contracts of FrameAt; the walk of its law. Contracts of FrameAt; the walk of its law. The iterator over frames: its contract. -/
import Derived.Test.YtebkblmejkkhfaaGreatDoorFrW
import Derived.BigRegion
import Derived.Test.YtebkblmejkkhfaaGreatDoorFrCutW
import Derived.RangeFuncNested
import Derived.RangeFuncBound
import Derived.RangeFuncCalls
import Derived.RangeFuncLeaves
import Derived.RangeFuncBox
import Derived.Shelf.Abstract
import Derived.Shelf.RegionOpen
import Derived.WalkKit
import Derived.OwnWalkIn
import Derived.TacticsInMore
import Derived.LoopNIn
import Derived.LoopIn
namespace Go.Proofs.YtebkblmejkkhfaaGreatDoor
open Go.RowKit
set_option linter.unusedVariables false

set_option maxHeartbeats 4000000 in
theorem specAt_err (s : ByteArray) (a0 c : Int) (w : World) (hc : c ≠ 0) (HG : Hid (∀ w, Calls Tryz.prog 185 #[.string s, .int .i64 a0] w fun e w' => e = .returned (textOut ⟨#[]⟩ 0 c) ∧ Below w.heap.size w w')) :
    Calls Tryz.prog 171 #[.string s, .int .i64 a0] w fun e w' => e = .returned (textOut ⟨#[]⟩ 0 c) ∧ Below w.heap.size w w' := by
  have hcb : (c != 0) = true := by simpa using hc
  clear hc
  go_enter Tryz.func171, Tryz.ntmps171
  go_wp2_with (go_at_call 185; refine (HG.out _).mono ?_; rintro e w1 ⟨rfl, hb1⟩; obtain ⟨hc1, hf1⟩ := bcell hb1; have hz1 := hb1.size; simp at hz1; have hlt : w.heap.size < w1.heap.size := hz1)
  refine bodyPost_ret (v := textOut ⟨#[]⟩ 0 c) (by simp [results, Tryz.results171, hc1, hlt, go_sem]) rfl ⟨rfl, ?_⟩
  exact below_fin (below_res hb1) (by omega)


set_option maxHeartbeats 4000000 in
theorem specAt_fr (s : ByteArray) (p : Nat) (w : World) (hs : s.size ≤ 20000) (hp : (p : Int) ≤ 9223372036854775807) :
    Calls Tryz.prog 171 #[.string s, .int .i64 p] w fun e w' => e = .returned (txV (fr s p)) ∧ Below w.heap.size w w' := by
  have HG := Lib.hid (fun w => specGetText_gt s p w hs hp)
  cases hgt : gt s p with
  | error c =>
    have hv : fr s p = .error c := by unfold fr; rw [hgt]
    rw [hv]
    rw [hgt] at HG
    exact specAt_err s p c w (gt_err hgt) HG
  | ok x =>
    obtain ⟨t, q⟩ := x
    obtain ⟨ht, hpq, hq⟩ := gt_ok hgt
    have HU := Lib.hid (fun w => specUnseal_uns t w (by omega))
    rw [hgt] at HG
    simp only [txV] at HG
    cases hu : uns t with
    | error c =>
      have hc := uns_err hu
      have hcb : (c != 0) = true := by simpa using hc
      have hv : fr s p = .error c := by unfold fr; rw [hgt]; simp only [frU, hu]
      rw [hv]
      rw [hu] at HU
      simp only [txV, unV] at HU ⊢
      clear hv hgt hu hc
      go_enter Tryz.func171, Tryz.ntmps171
      go_wp2_with (first
        | (go_at_call 185; refine (HG.out _).mono ?_; rintro e w1 ⟨rfl, hb1⟩; obtain ⟨hc1, hf1⟩ := bcell hb1; have hz1 := hb1.size; simp at hz1; have hlt : w.heap.size < w1.heap.size := hz1)
        | (go_at_call 186; refine (HU.out _).mono ?_; rintro e w2 ⟨rfl, hb2⟩; obtain ⟨hc2, hf2⟩ := bcell hb2; have hz2 := hb2.size; simp at hz2; have hlt2 : w.heap.size < w2.heap.size := (by omega); have hlt3 : w1.heap.size < w2.heap.size := (by omega)))
      have hc3 := (bcell ((hb1.alloc (by simp; omega) (.cells #[.string t, .int .i64 (q : Int), .int .i64 0] 35)).trans (hb2.mono (by simp; omega)))).1
      refine bodyPost_ret (v := textOut ⟨#[]⟩ 0 c) (by simp [results, Tryz.results171, hc3, hlt2, go_sem]) rfl ⟨rfl, ?_⟩
      exact below_fin (((below_res hb1).alloc (by omega) _).trans (hb2.mono (by simp; omega))) (by omega)
    | ok x =>
      rw [hu] at HU
      simp only [unV] at HU
      have hxs := uns_ok hu
      by_cases hx : 1000 < x.size
      · have hv : fr s p = .error 2 := by unfold fr; rw [hgt]; simp only [frU, hu]; rw [if_pos hx]
        rw [hv]
        simp only [txV]
        have hx' : (1000 : Int) < (x.size : Int) := by omega
        clear hv hgt hu
        go_enter Tryz.func171, Tryz.ntmps171
        go_wp2_with (first
          | (go_at_call 185; refine (HG.out _).mono ?_; rintro e w1 ⟨rfl, hb1⟩; obtain ⟨hc1, hf1⟩ := bcell hb1; have hz1 := hb1.size; simp at hz1; have hlt : w.heap.size < w1.heap.size := hz1)
          | (go_at_call 186; refine (HU.out _).mono ?_; rintro e w2 ⟨rfl, hb2⟩; obtain ⟨hc2, hf2⟩ := bcell hb2; have hz2 := hb2.size; simp at hz2; have hlt2 : w.heap.size < w2.heap.size := (by omega); have hlt3 : w1.heap.size < w2.heap.size := (by omega)))
        have hc3 := (bcell ((hb1.alloc (by simp; omega) (.cells #[.string t, .int .i64 (q : Int), .int .i64 0] 35)).trans (hb2.mono (by simp; omega)))).1
        refine bodyPost_ret (v := textOut ⟨#[]⟩ 0 2) (by simp [results, Tryz.results171, hc3, hlt2, go_sem]) rfl ⟨rfl, ?_⟩
        exact below_fin (((below_res hb1).alloc (by omega) _).trans (hb2.mono (by simp; omega))) (by omega)
      · have hv : fr s p = .ok (x, q) := by unfold fr; rw [hgt]; simp only [frU, hu]; rw [if_neg hx]
        rw [hv]
        simp only [txV]
        have hx' : ¬ (1000 : Int) < (x.size : Int) := by omega
        clear hv hgt hu
        go_enter Tryz.func171, Tryz.ntmps171
        go_wp2_with (first
          | (go_at_call 185; refine (HG.out _).mono ?_; rintro e w1 ⟨rfl, hb1⟩; obtain ⟨hc1, hf1⟩ := bcell hb1; have hz1 := hb1.size; simp at hz1; have hlt : w.heap.size < w1.heap.size := hz1)
          | (go_at_call 186; refine (HU.out _).mono ?_; rintro e w2 ⟨rfl, hb2⟩; obtain ⟨hc2, hf2⟩ := bcell hb2; have hz2 := hb2.size; simp at hz2; have hlt2 : w.heap.size < w2.heap.size := (by omega); have hlt3 : w1.heap.size < w2.heap.size := (by omega)))
        have hc3 := (bcell ((hb1.alloc (by simp; omega) (.cells #[.string t, .int .i64 (q : Int), .int .i64 0] 35)).trans (hb2.mono (by simp; omega)))).1
        refine bodyPost_ret (v := textOut x q 0) (by simp [results, Tryz.results171, hc3, hlt2, go_sem]) rfl ⟨rfl, ?_⟩
        exact below_fin (((below_res hb1).alloc (by omega) _).trans (hb2.mono (by simp; omega))) (by omega)

end Go.Proofs.YtebkblmejkkhfaaGreatDoor

namespace Go.Proofs.YtebkblmejkkhfaaGreatDoor
open Go.RowKit
set_option linter.unusedVariables false

set_option maxHeartbeats 4000000 in
theorem implAt_err (s : ByteArray) (a0 c : Int) (w : World) (hg : Handle w) (hc : c ≠ 0) (HG : Hid (∀ w, Handle w → Calls Tryz.prog 221 #[.string s, .int .i64 a0] w fun e w' => e = .returned (textOut ⟨#[]⟩ 0 c) ∧ Below w.heap.size w w')) :
    Calls Tryz.prog 200 #[.string s, .int .i64 a0] w fun e w' => e = .returned (textOut ⟨#[]⟩ 0 c) ∧ Below w.heap.size w w' := by
  have hg' := Handle.below hg ((Below.refl _ w).alloc (Nat.le_refl _) (.cells #[.string ⟨#[]⟩, .int .i64 0, .int .i64 0] 35))
  have HH := Lib.hid hg'
  clear hg' hg
  have hcb : (c != 0) = true := by simpa using hc
  clear hc
  go_enter Tryz.func200, Tryz.ntmps200
  go_wp2_with (go_at_call 221; refine (HG.out _ HH.out).mono ?_; rintro e w1 ⟨rfl, hb1⟩; obtain ⟨hc1, hf1⟩ := bcell hb1; have hz1 := hb1.size; simp at hz1; have hlt : w.heap.size < w1.heap.size := hz1)
  refine bodyPost_ret (v := textOut ⟨#[]⟩ 0 c) (by simp [results, Tryz.results200, hc1, hlt, go_sem]) rfl ⟨rfl, ?_⟩
  exact below_fin (below_res hb1) (by omega)


set_option maxHeartbeats 4000000 in
theorem implAt_fr (s : ByteArray) (p : Nat) (w : World) (hg : Handle w) (hs : s.size ≤ 20000) (hp : (p : Int) ≤ 9223372036854775807) :
    Calls Tryz.prog 200 #[.string s, .int .i64 p] w fun e w' => e = .returned (txV (fr s p)) ∧ Below w.heap.size w w' := by
  have HH0 := Lib.hid hg
  have hg' := Handle.below hg ((Below.refl _ w).alloc (Nat.le_refl _) (.cells #[.string ⟨#[]⟩, .int .i64 0, .int .i64 0] 35))
  have HH := Lib.hid hg'
  clear hg' hg
  have HG := Lib.hid (fun w hg => implGetText_gt s p w hg hs hp)
  cases hgt : gt s p with
  | error c =>
    have hv : fr s p = .error c := by unfold fr; rw [hgt]
    rw [hv]
    rw [hgt] at HG
    exact implAt_err s p c w HH0.out (gt_err hgt) HG
  | ok x =>
    obtain ⟨t, q⟩ := x
    obtain ⟨ht, hpq, hq⟩ := gt_ok hgt
    have HU := Lib.hid (fun w => implUnseal_uns t w (by omega))
    rw [hgt] at HG
    simp only [txV] at HG
    cases hu : uns t with
    | error c =>
      have hc := uns_err hu
      have hcb : (c != 0) = true := by simpa using hc
      have hv : fr s p = .error c := by unfold fr; rw [hgt]; simp only [frU, hu]
      rw [hv]
      rw [hu] at HU
      simp only [txV, unV] at HU ⊢
      clear hv hgt hu hc
      go_enter Tryz.func200, Tryz.ntmps200
      go_wp2_with (first
        | (go_at_call 221; refine (HG.out _ HH.out).mono ?_; rintro e w1 ⟨rfl, hb1⟩; obtain ⟨hc1, hf1⟩ := bcell hb1; have hz1 := hb1.size; simp at hz1; have hlt : w.heap.size < w1.heap.size := hz1)
        | (go_at_call 222; refine (HU.out _).mono ?_; rintro e w2 ⟨rfl, hb2⟩; obtain ⟨hc2, hf2⟩ := bcell hb2; have hz2 := hb2.size; simp at hz2; have hlt2 : w.heap.size < w2.heap.size := (by omega); have hlt3 : w1.heap.size < w2.heap.size := (by omega)))
      have hc3 := (bcell ((hb1.alloc (by simp; omega) (.cells #[.string t, .int .i64 (q : Int), .int .i64 0] 35)).trans (hb2.mono (by simp; omega)))).1
      refine bodyPost_ret (v := textOut ⟨#[]⟩ 0 c) (by simp [results, Tryz.results200, hc3, hlt2, go_sem]) rfl ⟨rfl, ?_⟩
      exact below_fin (((below_res hb1).alloc (by omega) _).trans (hb2.mono (by simp; omega))) (by omega)
    | ok x =>
      rw [hu] at HU
      simp only [unV] at HU
      have hxs := uns_ok hu
      by_cases hx : 1000 < x.size
      · have hv : fr s p = .error 2 := by unfold fr; rw [hgt]; simp only [frU, hu]; rw [if_pos hx]
        rw [hv]
        simp only [txV]
        have hx' : (1000 : Int) < (x.size : Int) := by omega
        clear hv hgt hu
        go_enter Tryz.func200, Tryz.ntmps200
        go_wp2_with (first
          | (go_at_call 221; refine (HG.out _ HH.out).mono ?_; rintro e w1 ⟨rfl, hb1⟩; obtain ⟨hc1, hf1⟩ := bcell hb1; have hz1 := hb1.size; simp at hz1; have hlt : w.heap.size < w1.heap.size := hz1)
          | (go_at_call 222; refine (HU.out _).mono ?_; rintro e w2 ⟨rfl, hb2⟩; obtain ⟨hc2, hf2⟩ := bcell hb2; have hz2 := hb2.size; simp at hz2; have hlt2 : w.heap.size < w2.heap.size := (by omega); have hlt3 : w1.heap.size < w2.heap.size := (by omega)))
        have hc3 := (bcell ((hb1.alloc (by simp; omega) (.cells #[.string t, .int .i64 (q : Int), .int .i64 0] 35)).trans (hb2.mono (by simp; omega)))).1
        refine bodyPost_ret (v := textOut ⟨#[]⟩ 0 2) (by simp [results, Tryz.results200, hc3, hlt2, go_sem]) rfl ⟨rfl, ?_⟩
        exact below_fin (((below_res hb1).alloc (by omega) _).trans (hb2.mono (by simp; omega))) (by omega)
      · have hv : fr s p = .ok (x, q) := by unfold fr; rw [hgt]; simp only [frU, hu]; rw [if_neg hx]
        rw [hv]
        simp only [txV]
        have hx' : ¬ (1000 : Int) < (x.size : Int) := by omega
        clear hv hgt hu
        go_enter Tryz.func200, Tryz.ntmps200
        go_wp2_with (first
          | (go_at_call 221; refine (HG.out _ HH.out).mono ?_; rintro e w1 ⟨rfl, hb1⟩; obtain ⟨hc1, hf1⟩ := bcell hb1; have hz1 := hb1.size; simp at hz1; have hlt : w.heap.size < w1.heap.size := hz1)
          | (go_at_call 222; refine (HU.out _).mono ?_; rintro e w2 ⟨rfl, hb2⟩; obtain ⟨hc2, hf2⟩ := bcell hb2; have hz2 := hb2.size; simp at hz2; have hlt2 : w.heap.size < w2.heap.size := (by omega); have hlt3 : w1.heap.size < w2.heap.size := (by omega)))
        have hc3 := (bcell ((hb1.alloc (by simp; omega) (.cells #[.string t, .int .i64 (q : Int), .int .i64 0] 35)).trans (hb2.mono (by simp; omega)))).1
        refine bodyPost_ret (v := textOut x q 0) (by simp [results, Tryz.results200, hc3, hlt2, go_sem]) rfl ⟨rfl, ?_⟩
        exact below_fin (((below_res hb1).alloc (by omega) _).trans (hb2.mono (by simp; omega))) (by omega)

end Go.Proofs.YtebkblmejkkhfaaGreatDoor

namespace Go.Proofs.YtebkblmejkkhfaaGreatDoor
open Go.RowKit Go.Shelf
set_option linter.unusedVariables false
attribute [local go_sem] Oper.semAt_some

theorem abide_below {β : Type} {B : Nat} {J : β → World → Prop} (hJ : AbidesFrom B J) {x : β} {w w' : World} (h : J x w) (hb : Below w.heap.size w w') : J x w' :=
  hJ x w w' none h ⟨hb.os, hb.tape, hb.output, hb.size, fun k hk _ => hb.block k hk⟩ (fun r e => by cases e)
/-- All blocks below n₀ but b lie as they lay. -/
def But (b n₀ : Nat) (W W' : World) : Prop := W.heap.size ≤ W'.heap.size ∧ ∀ k, k < n₀ → k ≠ b → W'.heap[k]? = W.heap[k]?
theorem But.refl (b n₀ : Nat) (W : World) : But b n₀ W W := ⟨Nat.le_refl _, fun _ _ _ => rfl⟩
theorem But.trans {b n₀ : Nat} {A B C : World} (h : But b n₀ A B) (h2 : But b n₀ B C) : But b n₀ A C := ⟨Nat.le_trans h.1 h2.1, fun k hk hb => (h2.2 k hk hb).trans (h.2 k hk hb)⟩
theorem But.of {b n₀ m : Nat} {A B : World} (h : Below m A B) (hm : n₀ ≤ m) : But b n₀ A B := ⟨h.size, fun k hk _ => h.block k (by omega)⟩
theorem But.cell {b n₀ g i : Nat} {A B : World} (h : But b n₀ A B) (hg : g < n₀) (hb : g ≠ b) : B.cell? ⟨g, i, none⟩ = A.cell? ⟨g, i, none⟩ := World.cell?_of_block (a := ⟨g, i, none⟩) (h.2 g hg hb)
theorem Dat.but {w w' : World} {b B : Nat} {v : Value} {s : ByteArray} (h : Dat w B v s) (hb : But b B w w') (hv : v.ownBlock ≠ some b) : Dat w' B v s := by
  obtain ⟨g, cap, rfl, h1, h2, h3⟩ := h
  refine ⟨g, cap, rfl, h1, h2, ?_⟩
  intro i hi
  have := h3 i hi
  rw [hb.cell h1 (fun e => hv (by rw [e]; rfl))]
  exact this
def encF (x : ByteArray × Nat) : Array Value := #[.string x.1, .int .i64 (x.2 : Int)]

set_option maxRecDepth 1000000 in
set_option maxHeartbeats 4000000 in
theorem frames1_in (n : Nat) (hn : 1 ≤ n) (l Bn n₀ B b : Nat) (v : Value) (s : ByteArray) (hs : s.size ≤ 20000) (J Jx : List (ByteArray × Nat) → World → Prop) (hJ : AbidesFrom B J)
    (hY : ∀ pre x W1, J pre W1 → pre.length < (frs s 0).length → YieldAt Fence.wide (n - 1) Tryz.prog l (encF x) W1 fun e W' =>
      (e = .returned (.bool true) ∧ J (pre ++ [x]) W' ∧ But b n₀ W1 W') ∨ (e = .returned (.bool false) ∧ Jx (pre ++ [x]) W'))
    (W : World) (hBn : W.cell? ⟨Bn, 0, none⟩ = some v) (hBn0 : Bn < n₀) (hBb : Bn ≠ b) (hV : 11 < n₀) (hVb : 11 ≠ b) (hn₀ : n₀ ≤ W.heap.size) (hD : Dat W n₀ v s) (hDb : v.ownBlock ≠ some b) (hH : Handle W) (h0 : J [] W) :
    CallsIn Fence.wide n Tryz.prog 199 #[.func (.yield l) #[] #[], .pointer (some ⟨Bn, 0, none⟩)] W fun e W' => (∃ v, e = .returned v) ∧
      ((∃ ys, ys = frs s 0 ∧ J ys W') ∨ (∃ pre, pre <+: frs s 0 ∧ Jx pre W')) := by
  refine callsIn_of_wp Tryz.func199 rfl trivial ?_ rfl
  simp only [Tryz.ntmps199, List.size_toArray, List.length_cons, List.length_nil, Nat.reduceAdd, Nat.reduceSub, Array.replicate_succ, Array.replicate_zero, List.push_toArray, List.append_toArray, List.nil_append, List.cons_append]
  gi_wp2
  gi_loopw [3] (fun a wr => ∃ (pre : List (ByteArray × Nat)) (p : Nat), a = .int .i64 p ∧ p ≤ s.size ∧ pre ++ frs s p = frs s 0 ∧ J pre wr ∧ But b n₀ W wr) (fun a _ => s.size - (intOf a).toNat)
  case atStart => exact ⟨[], 0, rfl, by omega, rfl, h0, But.refl _ _ _⟩
  case round =>
    obtain ⟨pre, p, rfl, hp, hx, hJs, hb⟩ := hrel
    have hBn' := (hb.cell hBn0 hBb).trans hBn
    have hD' := hD.but hb hDb
    have hH' : Handle wr := (hb.cell hV hVb).trans hH
    have HC := Lib.hid (frameCut_any v s p n₀ wr hD' hp hs)
    obtain ⟨cut, hcut⟩ : ∃ cut, s.extract p (min (p + 1006) s.size) = cut := ⟨_, rfl⟩
    have hcz : cut.size ≤ 20000 := by rw [← hcut]; simp; omega
    have hfc := fr_cut hp
    rw [hcut] at HC hfc
    have HF := Lib.hid (fun w hg => implAt_fr cut 0 w hg hcz (by decide))
    cases hfr : fr s p with
    | error c =>
      obtain ⟨d, hd⟩ := hfc.2 c hfr
      have hd0 : (d != 0) = true := by simpa using fr_err hd
      rw [hd] at HF
      rw [frs_err hfr, List.append_nil] at hx
      simp only [txV] at HF
      clear hfc hcut hd
      gi_wp2_with (first
        | (refine ⟨trivial, ?_⟩; gi_at_call 201; refine (callsIn_wide.2 HC.out).mono ?_; rintro e w1 ⟨rfl, rfl⟩)
        | (refine ⟨trivial, ?_⟩; gi_at_call 200; refine (callsIn_wide.2 (HF.out _ hH')).mono ?_; rintro e w2 ⟨rfl, hb2⟩))
      have hJ2 := abide_below hJ hJs (hb2.alloc hb2.size (.cells #[.string ⟨#[]⟩, .int .i64 0, .int .i64 d] 35))
      refine bodyPost_ret (results_none rfl _ _ _) rfl ?_
      exact ⟨⟨_, rfl⟩, .inl ⟨pre, hx, hJ2⟩⟩
    | ok x =>
      obtain ⟨t, q⟩ := x
      have hok := fr_ok hfr
      have hd := hfc.1 t q hfr
      obtain ⟨d, rfl⟩ : ∃ d, q = p + d := ⟨q - p, by omega⟩
      rw [Nat.add_sub_cancel_left] at hd
      rw [hd] at HF
      rw [frs_ok hfr] at hx
      simp only [txV] at HF
      clear hfc hcut hd
      have hlen : pre.length < (frs s 0).length := by rw [← hx]; simp
      gi_wp2_with (first
        | (refine ⟨trivial, ?_⟩; gi_at_call 201; refine (callsIn_wide.2 HC.out).mono ?_; rintro e w1 ⟨rfl, rfl⟩)
        | (refine ⟨trivial, ?_⟩; gi_at_call 200; refine (callsIn_wide.2 (HF.out _ hH')).mono ?_; rintro e w2 ⟨rfl, hb2⟩; have hJ2 := abide_below hJ hJs (hb2.alloc hb2.size (.cells #[.string t, .int .i64 (d : Int), .int .i64 0] 35)); obtain ⟨fn, tmps, assign, body, hy, hR⟩ := hY pre (t, p + d) _ hJ2 hlen; simp only [encF, Int.natCast_add] at hy))
      refine hR.mono ?_
      have hb3 : But b n₀ W (w2.alloc (.cells #[.string t, .int .i64 (d : Int), .int .i64 0] 35)) := hb.trans (But.of (hb2.alloc hb2.size _) (by have := hb.1; omega))
      rintro e W3 (⟨rfl, hJ3, hk3⟩ | ⟨rfl, hJx3⟩)
      · gi_wp2
        go_roundw
        case rel => exact ⟨pre ++ [(t, p + d)], p + d, by go_num, hok.2.1, by rw [← hx]; simp, hJ3, hb3.trans hk3⟩
        case measure => simp [intOf]; omega
      · gi_wp2
        refine bodyPost_ret (results_none rfl _ _ _) rfl ?_
        exact ⟨⟨_, rfl⟩, .inr ⟨pre ++ [(t, p + d)], ⟨frs s (p + d), by rw [← hx]; simp⟩, hJx3⟩⟩

/-- framesIn: its argument is boxed; the function value captures the box. -/
theorem framesIn_any (v : Value) (s : ByteArray) (B : Nat) (w : World) (hD : Dat w B v s) :
    Calls Tryz.prog 184 #[v] w fun e w' => e = .returned (.func (.func 199) #[] #[.pointer (some ⟨w.heap.size, 0, none⟩)]) ∧ w' = w.alloc (.cells #[v] 22) := by
  obtain ⟨g, cap, rfl, h1, h2, h3⟩ := hD
  go_enter Tryz.func184, Tryz.ntmps184
  go_wp2
  go_ret
  exact ⟨rfl, rfl⟩

theorem frames_stops (n : Nat) (hn : 1 ≤ n) (Bn n₀ b : Nat) (v : Value) (s : ByteArray) (hs : s.size ≤ 20000) (w : World) (hBn : w.cell? ⟨Bn, 0, none⟩ = some v) (hBn0 : Bn < n₀) (hBb : Bn ≠ b) (hV : 11 < n₀) (hVb : 11 ≠ b) (hn₀ : n₀ ≤ w.heap.size) (hD : Dat w n₀ v s) (hDb : v.ownBlock ≠ some b) (hH : Handle w) :
    SeqStopsK Fence.wide n Tryz.prog 199 #[.pointer (some ⟨Bn, 0, none⟩)] encF (But b n₀) (fun ys => ys = frs s 0) (fun pre => pre <+: frs s 0) (frs s 0).length w := fun l J Jx W hW hJ _ hY h0 =>
  frames1_in n hn l Bn n₀ W.heap.size b v s hs J Jx hJ hY W ((hW.cell (p := ⟨Bn, 0, none⟩) (show Bn < w.heap.size by omega)).trans hBn) hBn0 hBb hV hVb (by have := hW.size; omega) (hD.below (hW.mono hn₀)) hDb (Handle.below hH hW) h0
end Go.Proofs.YtebkblmejkkhfaaGreatDoor
