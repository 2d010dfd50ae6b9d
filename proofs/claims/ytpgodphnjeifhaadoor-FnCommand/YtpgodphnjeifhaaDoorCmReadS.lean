/- spec.CommandRead. -/
import Derived.Test.YtpgodphnjeifhaaDoorCmRead
import Derived.Test.YtpgodphnjeifhaaDoorCmRdS
import Derived.Test.YtpgodphnjeifhaaDoorCmB
import Derived.Test.YtpgodphnjeifhaaDoorQTail
import Derived.Deep.RegionHeld3
import Derived.BigRegion
namespace Go.Proofs.YtpgodphnjeifhaaDoor
open Go.RowKit
set_option linter.unusedVariables false
set_option linter.unusedSimpArgs false
set_option maxRecDepth 1000000

theorem specNum_any (r : Nat) (s : ByteArray) (o : Option Nat) (w : World) (hR : Rdr 72 w r s o) (hs : s.size ≤ 20000) :
    Calls Tryd.prog 49 #[.pointer (some ⟨r, 0, none⟩)] w fun e w' => e = .returned (.int .i64 (rN s o).1) ∧ Rdr 72 w' r s (rN s o).2 ∧ w.grownBy w' (some r) := by
  cases o with
  | none =>
    obtain ⟨q, h1, h2⟩ := hR
    have GN := Lib.hid (fun W => specGetNum_any s q W hs (by omega))
    cases hr : rd s q 10 0 0 with
    | error c =>
      rw [hr] at GN
      exact (specNum_bad r s q 0 0 c w h2 GN).mono fun e w' ⟨e1, e2, e3⟩ => ⟨e1, ⟨q, h1, e2⟩, e3⟩
    | ok x =>
      obtain ⟨u, m⟩ := x
      rw [hr] at GN
      exact (specNum_bad r s q (unzig u) ((q : Int) + m) 0 w h2 GN).mono fun e w' ⟨e1, e2, e3⟩ => ⟨e1, ⟨q, h1, e2⟩, e3⟩
  | some p =>
    have hp := hR.2
    have GN := Lib.hid (fun W => specGetNum_any s p W hs (by omega))
    cases hr : rd s p 10 0 0 with
    | error c =>
      have hc := rd_err_ne _ _ _ hr
      rw [hr] at GN
      refine (specNum_err r s p 0 0 c w hR.1 (by simpa using hc) GN).mono fun e w' ⟨e1, e2, e3⟩ => ?_
      simp only [rN, hr]
      exact ⟨e1, ⟨p, hp, e2⟩, e3⟩
    | ok x =>
      obtain ⟨u, m⟩ := x
      have hm := rd_within _ _ _ hr
      rw [hr] at GN
      refine (specNum_ok r s p (unzig u) ((p : Int) + m) 0 w hR.1 rfl GN).mono fun e w' ⟨e1, e2, e3⟩ => ?_
      simp only [rN, hr]
      exact ⟨e1, ⟨e2, hm⟩, e3⟩
theorem specText_any (r : Nat) (s : ByteArray) (o : Option Nat) (w : World) (hR : Rdr 72 w r s o) (hs : s.size ≤ 20000) :
    Calls Tryd.prog 50 #[.pointer (some ⟨r, 0, none⟩)] w fun e w' => e = .returned (.string (rT s o).1) ∧ Rdr 72 w' r s (rT s o).2 ∧ w.grownBy w' (some r) := by
  cases o with
  | none =>
    obtain ⟨q, h1, h2⟩ := hR
    have GN := Lib.hid (fun W => specGetText_gt s q W hs (by omega))
    cases hr : gt s q with
    | error c =>
      rw [hr] at GN
      exact (specText_bad r s q ⟨#[]⟩ 0 c w h2 GN).mono fun e w' ⟨e1, e2, e3⟩ => ⟨e1, ⟨q, h1, e2⟩, e3⟩
    | ok x =>
      obtain ⟨t, m⟩ := x
      rw [hr] at GN
      exact (specText_bad r s q t m 0 w h2 GN).mono fun e w' ⟨e1, e2, e3⟩ => ⟨e1, ⟨q, h1, e2⟩, e3⟩
  | some p =>
    have hp := hR.2
    have GN := Lib.hid (fun W => specGetText_gt s p W hs (by omega))
    cases hr : gt s p with
    | error c =>
      have hc := gt_err hr
      rw [hr] at GN
      refine (specText_err r s p ⟨#[]⟩ 0 c w hR.1 (by simpa using hc) GN).mono fun e w' ⟨e1, e2, e3⟩ => ?_
      simp only [rT, hr]
      exact ⟨e1, ⟨p, hp, e2⟩, e3⟩
    | ok x =>
      obtain ⟨t, m⟩ := x
      have hm := (gt_ok hr).2.2
      rw [hr] at GN
      refine (specText_ok r s p t m 0 w hR.1 rfl GN).mono fun e w' ⟨e1, e2, e3⟩ => ?_
      simp only [rT, hr]
      exact ⟨e1, ⟨e2, hm⟩, e3⟩
/-- What spec.l06Read knows while it reads. -/
def RQ (w W : World) (B : Nat) (s : ByteArray) (o : Option Nat) (cs : List Value) : Prop :=
  Rdr 72 W (w.heap.size + 1) s o ∧ Blk W B 24 cs ∧ Blk W w.heap.size 24 [.int .i64 0, .int .i64 0, .int .i64 0, .string ⟨#[]⟩, .string ⟨#[]⟩, .string ⟨#[]⟩, .int .i64 0] ∧ Below w.heap.size w W ∧ w.heap.size + 1 < B
theorem RQ.call {w W W' : World} {B : Nat} {s : ByteArray} {o o' : Option Nat} {cs : List Value} (h : RQ w W B s o cs) (hg : W.grownBy W' (some (w.heap.size + 1))) (hR : Rdr 72 W' (w.heap.size + 1) s o') : RQ w W' B s o' cs :=
  ⟨hR, h.2.1.grown hg (fun e => by have := Option.some.inj e; have := h.2.2.2.2; omega), h.2.2.1.grown hg (fun e => by have := Option.some.inj e; omega), below_grown h.2.2.2.1 hg (by omega), h.2.2.2.2⟩
theorem RQ.put {w W : World} {B : Nat} {s : ByteArray} {o : Option Nat} {cs : List Value} (h : RQ w W B s o cs) (i : Nat) (u : Value) : RQ w (W.setCell ⟨B, i, none⟩ u) B s o (cs.set i u) := by
  have := h.2.2.2.2
  exact ⟨h.1.far (p := ⟨B, i, none⟩) (by simp; omega) u, h.2.1.put i u, h.2.2.1.far (p := ⟨B, i, none⟩) (by simp; omega) u, h.2.2.2.1.setCell (by simp; omega) u, h.2.2.2.2⟩
theorem RQ.below {w W W' : World} {B : Nat} {s : ByteArray} {o : Option Nat} {cs : List Value} (h : RQ w W B s o cs) (hb : Below W.heap.size W W') : RQ w W' B s o cs :=
  ⟨h.1.below hb, h.2.1.below hb h.2.1.lt, h.2.2.1.below hb h.2.2.1.lt, h.2.2.2.1.trans (hb.mono h.2.2.2.1.size), h.2.2.2.2⟩
theorem str_eq_b (a b : ByteArray) : (a.toList == b.toList) = decide (a = b) := by
  by_cases h : a = b
  · simp [h]
  · have : (a.toList == b.toList) = false := by rw [beq_eq_false_iff_ne]; intro e; rw [Lib.toList_data, Lib.toList_data] at e; exact h (ByteArray.ext (Array.toList_inj.1 e))
    rw [this]; simp [h]
theorem good_some {s : ByteArray} {q : Nat} (h : (readC s).2 = some q) : goodR s = ((cmdBytes (readC s).1).toList == s.toList) := by
  obtain ⟨h1, h2, h3⟩ := readC_enc h
  rw [str_eq_b]
  unfold goodR
  rw [h]
  cases hc : cmdB (readC s).1
  · have hb : cmdBytes (readC s).1 = ⟨#[]⟩ := by simp [cmdBytes, hc]
    rw [hb, Bool.and_false]
    refine (decide_eq_false ?_).symm
    intro e
    have : s.size = 0 := by rw [← e]; rfl
    omega
  · have hb : cmdBytes (readC s).1 = s.extract 0 q := by simp [cmdBytes, hc, h1]
    rw [hb, Bool.and_true]
    by_cases e : q = s.size
    · subst e
      rw [decide_eq_true (by apply ByteArray.ext; rw [ByteArray.data_extract]; exact Array.extract_size)]
      simp
    · rw [decide_eq_false]
      · simp [e]
      · intro e2
        have e3 : (s.extract 0 q).size = s.size := by rw [e2]
        simp at e3
        omega
theorem good_none {s : ByteArray} (h : (readC s).2 = none) : goodR s = false := by unfold goodR; rw [h]; rfl
theorem read_ne {s : ByteArray} {q : Nat} (h : (readC s).2 = some q) : emptyB s = false := by
  obtain ⟨h1, h2, h3⟩ := readC_enc h
  exact decide_eq_false (by omega)

set_option maxHeartbeats 8000000 in
theorem l06Read_bad (s : ByteArray) (w : World) (hs : s.size ≤ 20000) (hE : (readC s).2 = none) :
    Calls Tryd.prog 37 #[.string s] w fun e w' => e = .returned (.tuple #[(readC s).1.v, .bool (goodR s)]) ∧ Below w.heap.size w w' := by
  have hsm := read_small hs
  have C0 := Lib.hid (fun W h2 => specNum_any (w.heap.size + 1) s (some 0) W h2 hs)
  obtain ⟨a, o0, E0⟩ : ∃ x y, rN s (some 0) = (x, y) := ⟨_, _, rfl⟩
  rw [E0] at C0
  have C1 := Lib.hid (fun W h2 => specNum_any (w.heap.size + 1) s o0 W h2 hs)
  obtain ⟨b, o1, E1⟩ : ∃ x y, rN s o0 = (x, y) := ⟨_, _, rfl⟩
  rw [E1] at C1
  have C2 := Lib.hid (fun W h2 => specNum_any (w.heap.size + 1) s o1 W h2 hs)
  obtain ⟨k, o2, E2⟩ : ∃ x y, rN s o1 = (x, y) := ⟨_, _, rfl⟩
  rw [E2] at C2
  have C3 := Lib.hid (fun W h2 => specText_any (w.heap.size + 1) s o2 W h2 hs)
  obtain ⟨t, o3, E3⟩ : ∃ x y, rT s o2 = (x, y) := ⟨_, _, rfl⟩
  rw [E3] at C3
  have C4 := Lib.hid (fun W h2 => specText_any (w.heap.size + 1) s o3 W h2 hs)
  obtain ⟨g, o4, E4⟩ : ∃ x y, rT s o3 = (x, y) := ⟨_, _, rfl⟩
  rw [E4] at C4
  have C5 := Lib.hid (fun W h2 => specText_any (w.heap.size + 1) s o4 W h2 hs)
  obtain ⟨x, o5, E5⟩ : ∃ x y, rT s o4 = (x, y) := ⟨_, _, rfl⟩
  rw [E5] at C5
  have C6 := Lib.hid (fun W h2 => specNum_any (w.heap.size + 1) s o5 W h2 hs)
  obtain ⟨n, o6, E6⟩ : ∃ x y, rN s o5 = (x, y) := ⟨_, _, rfl⟩
  rw [E6] at C6
  have hRC : readC s = (⟨a, b, k, t, g, x, n⟩, o6) := by unfold readC; simp only [E0, E1, E2, E3, E4, E5, E6]
  have hgd := good_none hE
  rw [hRC] at hE ⊢
  obtain rfl : o6 = none := hE
  rw [hgd]
  unfold Cmd.v
  simp only at C0 C1 C2 C3 C4 C5 C6 ⊢
  clear E0 E1 E2 E3 E4 E5 E6 hRC hsm
  have h1 := (Blk.fresh w 24 [.int .i64 0, .int .i64 0, .int .i64 0, .string ⟨#[]⟩, .string ⟨#[]⟩, .string ⟨#[]⟩, .int .i64 0]).alloc (.cells #[.string s, .int .i64 0, .bool false] 72)
  have h2 := Blk.fresh (w.alloc (.cells #[.int .i64 0, .int .i64 0, .int .i64 0, .string ⟨#[]⟩, .string ⟨#[]⟩, .string ⟨#[]⟩, .int .i64 0] 24)) 72 [.string s, .int .i64 0, .bool false]
  have hb0 := (below_box w (.cells #[.int .i64 0, .int .i64 0, .int .i64 0, .string ⟨#[]⟩, .string ⟨#[]⟩, .string ⟨#[]⟩, .int .i64 0] 24)).alloc (by simp) (.cells #[.string s, .int .i64 0, .bool false] 72)
  simp only [World.size_alloc, List.toArray] at h1 h2
  have hR0 : Rdr 72 ((w.alloc (.cells #[.int .i64 0, .int .i64 0, .int .i64 0, .string ⟨#[]⟩, .string ⟨#[]⟩, .string ⟨#[]⟩, .int .i64 0] 24)).alloc (.cells #[.string s, .int .i64 0, .bool false] 72)) (w.heap.size + 1) s (some 0) := ⟨h2, Nat.zero_le _⟩
  clear h2
  go_enter Tryd.func37, Tryd.ntmps37
  go_wp2_with (fail)
  generalize (w.alloc (.cells #[.int .i64 0, .int .i64 0, .int .i64 0, .string ⟨#[]⟩, .string ⟨#[]⟩, .string ⟨#[]⟩, .int .i64 0] 24)).alloc (.cells #[.string s, .int .i64 0, .bool false] 72) = W0 at h1 hb0 hR0 ⊢
  refine (C0.out _ hR0).mono ?_
  rintro e w0 ⟨rfl, hR, hG⟩
  have hrl := hR.lt
  replace h1 := h1.grown hG (fun e => by have := Option.some.inj e; omega)
  replace hb0 := below_grown hb0 hG (by omega)
  clear hG hR0
  have hS' : RQ w (w0.alloc (.cells #[.int .i64 a, .int .i64 0, .int .i64 0, .string ⟨#[]⟩, .string ⟨#[]⟩, .string ⟨#[]⟩, .int .i64 0] 24)) w0.heap.size s o0 [.int .i64 a, .int .i64 0, .int .i64 0, .string ⟨#[]⟩, .string ⟨#[]⟩, .string ⟨#[]⟩, .int .i64 0] := ⟨hR.below (below_box _ _), Blk.fresh w0 24 [.int .i64 a, .int .i64 0, .int .i64 0, .string ⟨#[]⟩, .string ⟨#[]⟩, .string ⟨#[]⟩, .int .i64 0], h1.alloc _, hb0.alloc hb0.size _, hrl⟩
  clear hR h1 hb0
  go_wp2_with (fail)
  generalize w0.alloc (.cells #[.int .i64 a, .int .i64 0, .int .i64 0, .string ⟨#[]⟩, .string ⟨#[]⟩, .string ⟨#[]⟩, .int .i64 0] 24) = W1 at hS' ⊢
  generalize w0.heap.size = B at hS' ⊢
  have hS := hS'
  clear hS' 
  refine (C1.out _ hS.1).mono ?_
  rintro e w1 ⟨rfl, hR, hG⟩
  replace hS := hS.call hG hR
  clear hR hG
  have c0 := hS.2.1.cell (i := 1) rfl
  have f0 := hS.2.1.froz 1
  have hS' := hS.put 1 (.int .i64 b)
  simp only [List.set_cons_succ, List.set_cons_zero] at hS'
  clear hS
  go_wp2_with (fail)
  generalize w1.setCell ⟨B, 1, none⟩ (.int .i64 b) = W2 at hS' ⊢
  have hS := hS'
  clear hS' c0 f0
  refine (C2.out _ hS.1).mono ?_
  rintro e w2 ⟨rfl, hR, hG⟩
  replace hS := hS.call hG hR
  clear hR hG
  have c0 := hS.2.1.cell (i := 2) rfl
  have f0 := hS.2.1.froz 2
  have hS' := hS.put 2 (.int .i64 k)
  simp only [List.set_cons_succ, List.set_cons_zero] at hS'
  clear hS
  go_wp2_with (fail)
  generalize w2.setCell ⟨B, 2, none⟩ (.int .i64 k) = W3 at hS' ⊢
  have hS := hS'
  clear hS' c0 f0
  refine (C3.out _ hS.1).mono ?_
  rintro e w3 ⟨rfl, hR, hG⟩
  replace hS := hS.call hG hR
  clear hR hG
  have c0 := hS.2.1.cell (i := 3) rfl
  have f0 := hS.2.1.froz 3
  have hS' := hS.put 3 (.string t)
  simp only [List.set_cons_succ, List.set_cons_zero] at hS'
  clear hS
  go_wp2_with (fail)
  generalize w3.setCell ⟨B, 3, none⟩ (.string t) = W4 at hS' ⊢
  have hS := hS'
  clear hS' c0 f0
  refine (C4.out _ hS.1).mono ?_
  rintro e w4 ⟨rfl, hR, hG⟩
  replace hS := hS.call hG hR
  clear hR hG
  have c0 := hS.2.1.cell (i := 4) rfl
  have f0 := hS.2.1.froz 4
  have hS' := hS.put 4 (.string g)
  simp only [List.set_cons_succ, List.set_cons_zero] at hS'
  clear hS
  go_wp2_with (fail)
  generalize w4.setCell ⟨B, 4, none⟩ (.string g) = W5 at hS' ⊢
  have hS := hS'
  clear hS' c0 f0
  refine (C5.out _ hS.1).mono ?_
  rintro e w5 ⟨rfl, hR, hG⟩
  replace hS := hS.call hG hR
  clear hR hG
  have c0 := hS.2.1.cell (i := 5) rfl
  have f0 := hS.2.1.froz 5
  have hS' := hS.put 5 (.string x)
  simp only [List.set_cons_succ, List.set_cons_zero] at hS'
  clear hS
  go_wp2_with (fail)
  generalize w5.setCell ⟨B, 5, none⟩ (.string x) = W6 at hS' ⊢
  have hS := hS'
  clear hS' c0 f0
  refine (C6.out _ hS.1).mono ?_
  rintro e w6 ⟨rfl, hR, hG⟩
  replace hS := hS.call hG hR
  clear hR hG
  have c0 := hS.2.1.cell (i := 6) rfl
  have f0 := hS.2.1.froz 6
  have hS' := hS.put 6 (.int .i64 n)
  simp only [List.set_cons_succ, List.set_cons_zero] at hS'
  clear hS
  go_wp2_with (fail)
  generalize w6.setCell ⟨B, 6, none⟩ (.int .i64 n) = W7 at hS' ⊢
  have hS := hS'
  clear hS' c0 f0
  have PC : Hid (∀ W, RQ w W B s none [.int .i64 a, .int .i64 b, .int .i64 k, .string t, .string g, .string x, .int .i64 n] → (W.cell? ⟨B, 0, none⟩ = some (.int .i64 a) ∧ W.cell? ⟨B, 1, none⟩ = some (.int .i64 b) ∧ W.cell? ⟨B, 2, none⟩ = some (.int .i64 k) ∧ W.cell? ⟨B, 3, none⟩ = some (.string t) ∧ W.cell? ⟨B, 4, none⟩ = some (.string g) ∧ W.cell? ⟨B, 5, none⟩ = some (.string x) ∧ W.cell? ⟨B, 6, none⟩ = some (.int .i64 n) ∧ W.cell? ⟨w.heap.size + 1, 2, none⟩ = some (.bool true))) := Lib.hid fun W h => by
    obtain ⟨q, _, hq⟩ := h.1
    exact ⟨h.2.1.cell (i := 0) rfl, h.2.1.cell (i := 1) rfl, h.2.1.cell (i := 2) rfl, h.2.1.cell (i := 3) rfl, h.2.1.cell (i := 4) rfl, h.2.1.cell (i := 5) rfl, h.2.1.cell (i := 6) rfl, hq.cell (i := 2) rfl⟩
  have hBl := hS.2.2.2.2
  have PF : Hid (∀ (W : World) (i : Nat) (u : Value), (W.cell? ⟨B, 0, none⟩ = some (.int .i64 a) ∧ W.cell? ⟨B, 1, none⟩ = some (.int .i64 b) ∧ W.cell? ⟨B, 2, none⟩ = some (.int .i64 k) ∧ W.cell? ⟨B, 3, none⟩ = some (.string t) ∧ W.cell? ⟨B, 4, none⟩ = some (.string g) ∧ W.cell? ⟨B, 5, none⟩ = some (.string x) ∧ W.cell? ⟨B, 6, none⟩ = some (.int .i64 n) ∧ W.cell? ⟨w.heap.size + 1, 2, none⟩ = some (.bool true)) → ((W.setCell ⟨w.heap.size, i, none⟩ u).cell? ⟨B, 0, none⟩ = some (.int .i64 a) ∧ (W.setCell ⟨w.heap.size, i, none⟩ u).cell? ⟨B, 1, none⟩ = some (.int .i64 b) ∧ (W.setCell ⟨w.heap.size, i, none⟩ u).cell? ⟨B, 2, none⟩ = some (.int .i64 k) ∧ (W.setCell ⟨w.heap.size, i, none⟩ u).cell? ⟨B, 3, none⟩ = some (.string t) ∧ (W.setCell ⟨w.heap.size, i, none⟩ u).cell? ⟨B, 4, none⟩ = some (.string g) ∧ (W.setCell ⟨w.heap.size, i, none⟩ u).cell? ⟨B, 5, none⟩ = some (.string x) ∧ (W.setCell ⟨w.heap.size, i, none⟩ u).cell? ⟨B, 6, none⟩ = some (.int .i64 n) ∧ (W.setCell ⟨w.heap.size, i, none⟩ u).cell? ⟨w.heap.size + 1, 2, none⟩ = some (.bool true))) := Lib.hid fun W i u h => ⟨cell_put_far h.1 (by simp; omega) _, cell_put_far h.2.1 (by simp; omega) _, cell_put_far h.2.2.1 (by simp; omega) _, cell_put_far h.2.2.2.1 (by simp; omega) _, cell_put_far h.2.2.2.2.1 (by simp; omega) _, cell_put_far h.2.2.2.2.2.1 (by simp; omega) _, cell_put_far h.2.2.2.2.2.2.1 (by simp; omega) _, cell_put_far h.2.2.2.2.2.2.2 (by simp) _⟩
  have p0 := hS.2.2.1.cell (i := 0) rfl; have q0 := hS.2.2.1.froz 0; have p1 := hS.2.2.1.cell (i := 1) rfl; have q1 := hS.2.2.1.froz 1; have p2 := hS.2.2.1.cell (i := 2) rfl; have q2 := hS.2.2.1.froz 2; have p3 := hS.2.2.1.cell (i := 3) rfl; have q3 := hS.2.2.1.froz 3; have p4 := hS.2.2.1.cell (i := 4) rfl; have q4 := hS.2.2.1.froz 4; have p5 := hS.2.2.1.cell (i := 5) rfl; have q5 := hS.2.2.1.froz 5; have p6 := hS.2.2.1.cell (i := 6) rfl; have q6 := hS.2.2.1.froz 6
  have hX := PC.out _ hS
  have PD : Hid (∀ (W : World), (W.cell? ⟨B, 0, none⟩ = some (.int .i64 a) ∧ W.cell? ⟨B, 1, none⟩ = some (.int .i64 b) ∧ W.cell? ⟨B, 2, none⟩ = some (.int .i64 k) ∧ W.cell? ⟨B, 3, none⟩ = some (.string t) ∧ W.cell? ⟨B, 4, none⟩ = some (.string g) ∧ W.cell? ⟨B, 5, none⟩ = some (.string x) ∧ W.cell? ⟨B, 6, none⟩ = some (.int .i64 n) ∧ W.cell? ⟨w.heap.size + 1, 2, none⟩ = some (.bool true)) → (W.drew.cell? ⟨B, 0, none⟩ = some (.int .i64 a) ∧ W.drew.cell? ⟨B, 1, none⟩ = some (.int .i64 b) ∧ W.drew.cell? ⟨B, 2, none⟩ = some (.int .i64 k) ∧ W.drew.cell? ⟨B, 3, none⟩ = some (.string t) ∧ W.drew.cell? ⟨B, 4, none⟩ = some (.string g) ∧ W.drew.cell? ⟨B, 5, none⟩ = some (.string x) ∧ W.drew.cell? ⟨B, 6, none⟩ = some (.int .i64 n) ∧ W.drew.cell? ⟨w.heap.size + 1, 2, none⟩ = some (.bool true))) := Lib.hid fun W h => h
  refine wp_region_held_drew (S := fun W => W.cell? ⟨B, 0, none⟩ = some (.int .i64 a) ∧ W.cell? ⟨B, 1, none⟩ = some (.int .i64 b) ∧ W.cell? ⟨B, 2, none⟩ = some (.int .i64 k) ∧ W.cell? ⟨B, 3, none⟩ = some (.string t) ∧ W.cell? ⟨B, 4, none⟩ = some (.string g) ∧ W.cell? ⟨B, 5, none⟩ = some (.string x) ∧ W.cell? ⟨B, 6, none⟩ = some (.int .i64 n) ∧ W.cell? ⟨w.heap.size + 1, 2, none⟩ = some (.bool true)) (by kernel_rfl) (PD.out _ hX) (fun hHeld => ?_)
  refine wpAnyH_take (i := 0) (v := ?_) rfl (by kernel_rfl) (by kernel_rfl) (by kernel_rfl) (fun _ _ _ h => h) (Or.inl ⟨by rfl, ?_⟩) (by assumption) ?_
  case refine_2 =>
    intro W hSw
    (try dsimp only at hSw)
    go_simp
    try with_reducible rfl
  try simp only [Act.put, List.setIfInBounds_toArray, List.set_cons_zero, List.set_cons_succ]
  refine wpAnyH_take (i := 1) (v := ?_) rfl (by kernel_rfl) (by kernel_rfl) (by kernel_rfl) (fun _ _ _ h => h) (Or.inl ⟨by rfl, ?_⟩) (by assumption) ?_
  case refine_2 =>
    intro W hSw
    (try dsimp only at hSw)
    go_simp
    try with_reducible rfl
  try simp only [Act.put, List.setIfInBounds_toArray, List.set_cons_zero, List.set_cons_succ]
  refine wpAnyH_take (i := 2) (v := ?_) rfl (by kernel_rfl) (by kernel_rfl) (by kernel_rfl) (fun _ _ _ h => h) (Or.inl ⟨by rfl, ?_⟩) (by assumption) ?_
  case refine_2 =>
    intro W hSw
    (try dsimp only at hSw)
    go_simp
    try with_reducible rfl
  try simp only [Act.put, List.setIfInBounds_toArray, List.set_cons_zero, List.set_cons_succ]
  refine wpAnyH_take (i := 3) (v := ?_) rfl (by kernel_rfl) (by kernel_rfl) (by kernel_rfl) (fun _ _ _ h => h) (Or.inl ⟨by rfl, ?_⟩) (by assumption) ?_
  case refine_2 =>
    intro W hSw
    (try dsimp only at hSw)
    go_simp
    try with_reducible rfl
  try simp only [Act.put, List.setIfInBounds_toArray, List.set_cons_zero, List.set_cons_succ]
  refine wpAnyH_take (i := 4) (v := ?_) rfl (by kernel_rfl) (by kernel_rfl) (by kernel_rfl) (fun _ _ _ h => h) (Or.inl ⟨by rfl, ?_⟩) (by assumption) ?_
  case refine_2 =>
    intro W hSw
    (try dsimp only at hSw)
    go_simp
    try with_reducible rfl
  try simp only [Act.put, List.setIfInBounds_toArray, List.set_cons_zero, List.set_cons_succ]
  refine wpAnyH_take (i := 5) (v := ?_) rfl (by kernel_rfl) (by kernel_rfl) (by kernel_rfl) (fun _ _ _ h => h) (Or.inl ⟨by rfl, ?_⟩) (by assumption) ?_
  case refine_2 =>
    intro W hSw
    (try dsimp only at hSw)
    go_simp
    try with_reducible rfl
  try simp only [Act.put, List.setIfInBounds_toArray, List.set_cons_zero, List.set_cons_succ]
  refine wpAnyH_take (i := 6) (v := ?_) rfl (by kernel_rfl) (by kernel_rfl) (by kernel_rfl) (fun _ _ _ h => h) (Or.inl ⟨by rfl, ?_⟩) (by assumption) ?_
  case refine_2 =>
    intro W hSw
    (try dsimp only at hSw)
    go_simp
    try with_reducible rfl
  try simp only [Act.put, List.setIfInBounds_toArray, List.set_cons_zero, List.set_cons_succ]
  refine wpAnyH_take (i := 7) (v := undef) rfl (by kernel_rfl) (by kernel_rfl) (by kernel_rfl) (fun _ _ _ h => h) (Or.inr ⟨by kernel_rfl, rfl⟩) (by assumption) ?_
  try simp only [Act.put, List.setIfInBounds_toArray, List.set_cons_zero, List.set_cons_succ]
  refine wpAnyH_take (i := 8) (v := undef) rfl (by kernel_rfl) (by kernel_rfl) (by kernel_rfl) (fun _ _ _ h => h) (Or.inr ⟨by kernel_rfl, rfl⟩) (by assumption) ?_
  try simp only [Act.put, List.setIfInBounds_toArray, List.set_cons_zero, List.set_cons_succ]
  refine wpAnyH_take (i := 9) (v := ?_) rfl (by kernel_rfl) (by kernel_rfl) (by kernel_rfl) (fun _ _ _ h => h) (Or.inl ⟨by rfl, ?_⟩) (by assumption) ?_
  case refine_2 =>
    intro W hSw
    (try dsimp only at hSw)
    go_simp
    try with_reducible rfl
  try simp only [Act.put, List.setIfInBounds_toArray, List.set_cons_zero, List.set_cons_succ]
  refine wpAnyH_take (i := 10) (v := ?_) rfl (by kernel_rfl) (by kernel_rfl) (by kernel_rfl) (fun _ _ _ h => h) (Or.inl ⟨by rfl, ?_⟩) (by assumption) ?_
  case refine_2 =>
    intro W hSw
    (try dsimp only at hSw)
    go_simp
    try with_reducible rfl
  try simp only [Act.put, List.setIfInBounds_toArray, List.set_cons_zero, List.set_cons_succ]
  refine wpAnyH_take (i := 11) (v := undef) rfl (by kernel_rfl) (by kernel_rfl) (by kernel_rfl) (fun _ _ _ h => h) (Or.inr ⟨by kernel_rfl, rfl⟩) (by assumption) ?_
  try simp only [Act.put, List.setIfInBounds_toArray, List.set_cons_zero, List.set_cons_succ]
  refine wpAnyH_take (i := 12) (v := undef) rfl (by kernel_rfl) (by kernel_rfl) (by kernel_rfl) (fun _ _ _ h => h) (Or.inr ⟨by kernel_rfl, rfl⟩) (by assumption) ?_
  try simp only [Act.put, List.setIfInBounds_toArray, List.set_cons_zero, List.set_cons_succ]
  refine wpAnyH_take (i := 13) (v := undef) rfl (by kernel_rfl) (by kernel_rfl) (by kernel_rfl) (fun _ _ _ h => h) (Or.inr ⟨by kernel_rfl, rfl⟩) (by assumption) ?_
  try simp only [Act.put, List.setIfInBounds_toArray, List.set_cons_zero, List.set_cons_succ]
  refine wpAnyH_take (i := 14) (v := undef) rfl (by kernel_rfl) (by kernel_rfl) (by kernel_rfl) (fun _ _ _ h => h) (Or.inr ⟨by kernel_rfl, rfl⟩) (by assumption) ?_
  try simp only [Act.put, List.setIfInBounds_toArray, List.set_cons_zero, List.set_cons_succ]
  refine wpAnyH_take (i := 15) (v := ?_) rfl (by kernel_rfl) (by kernel_rfl) (by kernel_rfl) (fun _ _ _ h => h) (Or.inl ⟨by rfl, ?_⟩) (by assumption) ?_
  case refine_2 =>
    intro W hSw
    (try dsimp only at hSw)
    go_simp
    try with_reducible rfl
  try simp only [Act.put, List.setIfInBounds_toArray, List.set_cons_zero, List.set_cons_succ]
  refine wpAnyH_ready (rs := [16]) (by kernel_rfl) (by simp) ?_
  refine AllReadyH.cons rfl (fun K hK => ?_) AllReadyH.nil
  go_simp
  refine hK.out _ _ ?_ (fun hHeld2 => ?_)
  · with_reducible exact PD.out _ (PF.out _ _ _ (PF.out _ _ _ (PF.out _ _ _ (PF.out _ _ _ (PF.out _ _ _ (PF.out _ _ _ (PF.out _ _ _ hX)))))))
  clear hK K hHeld
  try simp only [Act.put, List.setIfInBounds_toArray, List.set_cons_zero, List.set_cons_succ]
  refine wpAnyH_take (i := 17) (v := ?_) rfl (by kernel_rfl) (by kernel_rfl) (by kernel_rfl) (fun _ _ _ h => h) (Or.inl ⟨by rfl, ?_⟩) hHeld2 ?_
  case refine_2 =>
    intro W hSw
    (try dsimp only at hSw)
    go_simp
    try with_reducible rfl
  simp only [Act.put, List.getElem_toArray, List.getElem_cons_succ, List.getElem_cons_zero, List.setIfInBounds_toArray, List.set_cons_zero, List.set_cons_succ]
  refine wpAnyH_done (by kernel_rfl) ?_ _
  have hF := (((((((hS.2.2.1.put 0 (.int .i64 a)).put 1 (.int .i64 b)).put 2 (.int .i64 k)).put 3 (.string t)).put 4 (.string g)).put 5 (.string x)).put 6 (.int .i64 n))
  have hb := (((((((hS.2.2.2.1.setCell (Nat.le_refl _) (.int .i64 a) (p := ⟨w.heap.size, 0, none⟩)).setCell (Nat.le_refl _) (.int .i64 b) (p := ⟨w.heap.size, 1, none⟩)).setCell (Nat.le_refl _) (.int .i64 k) (p := ⟨w.heap.size, 2, none⟩)).setCell (Nat.le_refl _) (.string t) (p := ⟨w.heap.size, 3, none⟩)).setCell (Nat.le_refl _) (.string g) (p := ⟨w.heap.size, 4, none⟩)).setCell (Nat.le_refl _) (.string x) (p := ⟨w.heap.size, 5, none⟩)).setCell (Nat.le_refl _) (.int .i64 n) (p := ⟨w.heap.size, 6, none⟩))
  simp only [List.set_cons_succ, List.set_cons_zero] at hF
  clear hHeld2 hX p0 p1 p2 p3 p4 p5 p6 q0 q1 q2 q3 q4 q5 q6
  generalize (((((((W7.setCell ⟨w.heap.size, 0, none⟩ (.int .i64 a)).setCell ⟨w.heap.size, 1, none⟩ (.int .i64 b)).setCell ⟨w.heap.size, 2, none⟩ (.int .i64 k)).setCell ⟨w.heap.size, 3, none⟩ (.string t)).setCell ⟨w.heap.size, 4, none⟩ (.string g)).setCell ⟨w.heap.size, 5, none⟩ (.string x)).setCell ⟨w.heap.size, 6, none⟩ (.int .i64 n)) = WF at hF hb ⊢
  replace hF := hF.drew
  replace hb := below_drew hb
  generalize WF.drew = WG at hF hb ⊢
  go_wp2
  have k0 := hF.cell (i := 0) rfl
  have k1 := hF.cell (i := 1) rfl
  have k2 := hF.cell (i := 2) rfl
  have k3 := hF.cell (i := 3) rfl
  have k4 := hF.cell (i := 4) rfl
  have k5 := hF.cell (i := 5) rfl
  have k6 := hF.cell (i := 6) rfl
  exact bodyPost_ret (v := .tuple #[cmdV a b k t g x n, .bool false]) (by simp [results, Tryd.results37, go_sem, k0, k1, k2, k3, k4, k5, k6]) rfl ⟨rfl, hb⟩
set_option maxHeartbeats 8000000 in
theorem l06Read_ok (s : ByteArray) (w : World) (hs : s.size ≤ 20000) (qq : Nat) (hE : (readC s).2 = some qq) :
    Calls Tryd.prog 37 #[.string s] w fun e w' => e = .returned (.tuple #[(readC s).1.v, .bool (goodR s)]) ∧ Below w.heap.size w w' := by
  have hsm := read_small hs
  have C0 := Lib.hid (fun W h2 => specNum_any (w.heap.size + 1) s (some 0) W h2 hs)
  obtain ⟨a, o0, E0⟩ : ∃ x y, rN s (some 0) = (x, y) := ⟨_, _, rfl⟩
  rw [E0] at C0
  have C1 := Lib.hid (fun W h2 => specNum_any (w.heap.size + 1) s o0 W h2 hs)
  obtain ⟨b, o1, E1⟩ : ∃ x y, rN s o0 = (x, y) := ⟨_, _, rfl⟩
  rw [E1] at C1
  have C2 := Lib.hid (fun W h2 => specNum_any (w.heap.size + 1) s o1 W h2 hs)
  obtain ⟨k, o2, E2⟩ : ∃ x y, rN s o1 = (x, y) := ⟨_, _, rfl⟩
  rw [E2] at C2
  have C3 := Lib.hid (fun W h2 => specText_any (w.heap.size + 1) s o2 W h2 hs)
  obtain ⟨t, o3, E3⟩ : ∃ x y, rT s o2 = (x, y) := ⟨_, _, rfl⟩
  rw [E3] at C3
  have C4 := Lib.hid (fun W h2 => specText_any (w.heap.size + 1) s o3 W h2 hs)
  obtain ⟨g, o4, E4⟩ : ∃ x y, rT s o3 = (x, y) := ⟨_, _, rfl⟩
  rw [E4] at C4
  have C5 := Lib.hid (fun W h2 => specText_any (w.heap.size + 1) s o4 W h2 hs)
  obtain ⟨x, o5, E5⟩ : ∃ x y, rT s o4 = (x, y) := ⟨_, _, rfl⟩
  rw [E5] at C5
  have C6 := Lib.hid (fun W h2 => specNum_any (w.heap.size + 1) s o5 W h2 hs)
  obtain ⟨n, o6, E6⟩ : ∃ x y, rN s o5 = (x, y) := ⟨_, _, rfl⟩
  rw [E6] at C6
  have hRC : readC s = (⟨a, b, k, t, g, x, n⟩, o6) := by unfold readC; simp only [E0, E1, E2, E3, E4, E5, E6]
  have hgd := good_some hE
  have hne := empty_list (read_ne hE)
  have hne' : s.toList.isEmpty = false := by cases hl : s.toList with
    | nil => rw [hl] at hne; cases hne
    | cons y l => rfl
  clear hne
  rw [hRC] at hE hsm hgd ⊢
  obtain rfl : o6 = some qq := hE
  have CB := Lib.hid (specCommandBytes_any ⟨a, b, k, t, g, x, n⟩ hsm)
  simp only at hgd CB
  generalize cmdBytes ⟨a, b, k, t, g, x, n⟩ = bs at CB hgd
  generalize goodR s = gd at hgd ⊢
  unfold Cmd.v at CB
  simp only at CB
  unfold Cmd.v
  simp only at C0 C1 C2 C3 C4 C5 C6 ⊢
  clear E0 E1 E2 E3 E4 E5 E6 hRC hsm
  have h1 := (Blk.fresh w 24 [.int .i64 0, .int .i64 0, .int .i64 0, .string ⟨#[]⟩, .string ⟨#[]⟩, .string ⟨#[]⟩, .int .i64 0]).alloc (.cells #[.string s, .int .i64 0, .bool false] 72)
  have h2 := Blk.fresh (w.alloc (.cells #[.int .i64 0, .int .i64 0, .int .i64 0, .string ⟨#[]⟩, .string ⟨#[]⟩, .string ⟨#[]⟩, .int .i64 0] 24)) 72 [.string s, .int .i64 0, .bool false]
  have hb0 := (below_box w (.cells #[.int .i64 0, .int .i64 0, .int .i64 0, .string ⟨#[]⟩, .string ⟨#[]⟩, .string ⟨#[]⟩, .int .i64 0] 24)).alloc (by simp) (.cells #[.string s, .int .i64 0, .bool false] 72)
  simp only [World.size_alloc, List.toArray] at h1 h2
  have hR0 : Rdr 72 ((w.alloc (.cells #[.int .i64 0, .int .i64 0, .int .i64 0, .string ⟨#[]⟩, .string ⟨#[]⟩, .string ⟨#[]⟩, .int .i64 0] 24)).alloc (.cells #[.string s, .int .i64 0, .bool false] 72)) (w.heap.size + 1) s (some 0) := ⟨h2, Nat.zero_le _⟩
  clear h2
  go_enter Tryd.func37, Tryd.ntmps37
  go_wp2_with (fail)
  generalize (w.alloc (.cells #[.int .i64 0, .int .i64 0, .int .i64 0, .string ⟨#[]⟩, .string ⟨#[]⟩, .string ⟨#[]⟩, .int .i64 0] 24)).alloc (.cells #[.string s, .int .i64 0, .bool false] 72) = W0 at h1 hb0 hR0 ⊢
  refine (C0.out _ hR0).mono ?_
  rintro e w0 ⟨rfl, hR, hG⟩
  have hrl := hR.lt
  replace h1 := h1.grown hG (fun e => by have := Option.some.inj e; omega)
  replace hb0 := below_grown hb0 hG (by omega)
  clear hG hR0
  have hS' : RQ w (w0.alloc (.cells #[.int .i64 a, .int .i64 0, .int .i64 0, .string ⟨#[]⟩, .string ⟨#[]⟩, .string ⟨#[]⟩, .int .i64 0] 24)) w0.heap.size s o0 [.int .i64 a, .int .i64 0, .int .i64 0, .string ⟨#[]⟩, .string ⟨#[]⟩, .string ⟨#[]⟩, .int .i64 0] := ⟨hR.below (below_box _ _), Blk.fresh w0 24 [.int .i64 a, .int .i64 0, .int .i64 0, .string ⟨#[]⟩, .string ⟨#[]⟩, .string ⟨#[]⟩, .int .i64 0], h1.alloc _, hb0.alloc hb0.size _, hrl⟩
  clear hR h1 hb0
  go_wp2_with (fail)
  generalize w0.alloc (.cells #[.int .i64 a, .int .i64 0, .int .i64 0, .string ⟨#[]⟩, .string ⟨#[]⟩, .string ⟨#[]⟩, .int .i64 0] 24) = W1 at hS' ⊢
  generalize w0.heap.size = B at hS' ⊢
  have hS := hS'
  clear hS' 
  refine (C1.out _ hS.1).mono ?_
  rintro e w1 ⟨rfl, hR, hG⟩
  replace hS := hS.call hG hR
  clear hR hG
  have c0 := hS.2.1.cell (i := 1) rfl
  have f0 := hS.2.1.froz 1
  have hS' := hS.put 1 (.int .i64 b)
  simp only [List.set_cons_succ, List.set_cons_zero] at hS'
  clear hS
  go_wp2_with (fail)
  generalize w1.setCell ⟨B, 1, none⟩ (.int .i64 b) = W2 at hS' ⊢
  have hS := hS'
  clear hS' c0 f0
  refine (C2.out _ hS.1).mono ?_
  rintro e w2 ⟨rfl, hR, hG⟩
  replace hS := hS.call hG hR
  clear hR hG
  have c0 := hS.2.1.cell (i := 2) rfl
  have f0 := hS.2.1.froz 2
  have hS' := hS.put 2 (.int .i64 k)
  simp only [List.set_cons_succ, List.set_cons_zero] at hS'
  clear hS
  go_wp2_with (fail)
  generalize w2.setCell ⟨B, 2, none⟩ (.int .i64 k) = W3 at hS' ⊢
  have hS := hS'
  clear hS' c0 f0
  refine (C3.out _ hS.1).mono ?_
  rintro e w3 ⟨rfl, hR, hG⟩
  replace hS := hS.call hG hR
  clear hR hG
  have c0 := hS.2.1.cell (i := 3) rfl
  have f0 := hS.2.1.froz 3
  have hS' := hS.put 3 (.string t)
  simp only [List.set_cons_succ, List.set_cons_zero] at hS'
  clear hS
  go_wp2_with (fail)
  generalize w3.setCell ⟨B, 3, none⟩ (.string t) = W4 at hS' ⊢
  have hS := hS'
  clear hS' c0 f0
  refine (C4.out _ hS.1).mono ?_
  rintro e w4 ⟨rfl, hR, hG⟩
  replace hS := hS.call hG hR
  clear hR hG
  have c0 := hS.2.1.cell (i := 4) rfl
  have f0 := hS.2.1.froz 4
  have hS' := hS.put 4 (.string g)
  simp only [List.set_cons_succ, List.set_cons_zero] at hS'
  clear hS
  go_wp2_with (fail)
  generalize w4.setCell ⟨B, 4, none⟩ (.string g) = W5 at hS' ⊢
  have hS := hS'
  clear hS' c0 f0
  refine (C5.out _ hS.1).mono ?_
  rintro e w5 ⟨rfl, hR, hG⟩
  replace hS := hS.call hG hR
  clear hR hG
  have c0 := hS.2.1.cell (i := 5) rfl
  have f0 := hS.2.1.froz 5
  have hS' := hS.put 5 (.string x)
  simp only [List.set_cons_succ, List.set_cons_zero] at hS'
  clear hS
  go_wp2_with (fail)
  generalize w5.setCell ⟨B, 5, none⟩ (.string x) = W6 at hS' ⊢
  have hS := hS'
  clear hS' c0 f0
  refine (C6.out _ hS.1).mono ?_
  rintro e w6 ⟨rfl, hR, hG⟩
  replace hS := hS.call hG hR
  clear hR hG
  have c0 := hS.2.1.cell (i := 6) rfl
  have f0 := hS.2.1.froz 6
  have hS' := hS.put 6 (.int .i64 n)
  simp only [List.set_cons_succ, List.set_cons_zero] at hS'
  clear hS
  go_wp2_with (fail)
  generalize w6.setCell ⟨B, 6, none⟩ (.int .i64 n) = W7 at hS' ⊢
  have hS := hS'
  clear hS' c0 f0
  have PC : Hid (∀ W, RQ w W B s (some qq) [.int .i64 a, .int .i64 b, .int .i64 k, .string t, .string g, .string x, .int .i64 n] → (W.cell? ⟨B, 0, none⟩ = some (.int .i64 a) ∧ W.cell? ⟨B, 1, none⟩ = some (.int .i64 b) ∧ W.cell? ⟨B, 2, none⟩ = some (.int .i64 k) ∧ W.cell? ⟨B, 3, none⟩ = some (.string t) ∧ W.cell? ⟨B, 4, none⟩ = some (.string g) ∧ W.cell? ⟨B, 5, none⟩ = some (.string x) ∧ W.cell? ⟨B, 6, none⟩ = some (.int .i64 n) ∧ W.cell? ⟨w.heap.size + 1, 2, none⟩ = some (.bool false))) := Lib.hid fun W h => ⟨h.2.1.cell (i := 0) rfl, h.2.1.cell (i := 1) rfl, h.2.1.cell (i := 2) rfl, h.2.1.cell (i := 3) rfl, h.2.1.cell (i := 4) rfl, h.2.1.cell (i := 5) rfl, h.2.1.cell (i := 6) rfl, h.1.1.cell (i := 2) rfl⟩
  have hBl := hS.2.2.2.2
  have PF : Hid (∀ (W : World) (i : Nat) (u : Value), (W.cell? ⟨B, 0, none⟩ = some (.int .i64 a) ∧ W.cell? ⟨B, 1, none⟩ = some (.int .i64 b) ∧ W.cell? ⟨B, 2, none⟩ = some (.int .i64 k) ∧ W.cell? ⟨B, 3, none⟩ = some (.string t) ∧ W.cell? ⟨B, 4, none⟩ = some (.string g) ∧ W.cell? ⟨B, 5, none⟩ = some (.string x) ∧ W.cell? ⟨B, 6, none⟩ = some (.int .i64 n) ∧ W.cell? ⟨w.heap.size + 1, 2, none⟩ = some (.bool false)) → ((W.setCell ⟨w.heap.size, i, none⟩ u).cell? ⟨B, 0, none⟩ = some (.int .i64 a) ∧ (W.setCell ⟨w.heap.size, i, none⟩ u).cell? ⟨B, 1, none⟩ = some (.int .i64 b) ∧ (W.setCell ⟨w.heap.size, i, none⟩ u).cell? ⟨B, 2, none⟩ = some (.int .i64 k) ∧ (W.setCell ⟨w.heap.size, i, none⟩ u).cell? ⟨B, 3, none⟩ = some (.string t) ∧ (W.setCell ⟨w.heap.size, i, none⟩ u).cell? ⟨B, 4, none⟩ = some (.string g) ∧ (W.setCell ⟨w.heap.size, i, none⟩ u).cell? ⟨B, 5, none⟩ = some (.string x) ∧ (W.setCell ⟨w.heap.size, i, none⟩ u).cell? ⟨B, 6, none⟩ = some (.int .i64 n) ∧ (W.setCell ⟨w.heap.size, i, none⟩ u).cell? ⟨w.heap.size + 1, 2, none⟩ = some (.bool false))) := Lib.hid fun W i u h => ⟨cell_put_far h.1 (by simp; omega) _, cell_put_far h.2.1 (by simp; omega) _, cell_put_far h.2.2.1 (by simp; omega) _, cell_put_far h.2.2.2.1 (by simp; omega) _, cell_put_far h.2.2.2.2.1 (by simp; omega) _, cell_put_far h.2.2.2.2.2.1 (by simp; omega) _, cell_put_far h.2.2.2.2.2.2.1 (by simp; omega) _, cell_put_far h.2.2.2.2.2.2.2 (by simp) _⟩
  have x0 := PC.out _ (hS.below (below_drew (Below.refl _ _)))
  replace hS := hS.below (below_drew (Below.refl _ _))
  have z0 := hS.2.2.1.cell (i := 0) rfl; have y0 := hS.2.2.1.froz 0; have z1 := hS.2.2.1.cell (i := 1) rfl; have y1 := hS.2.2.1.froz 1; have z2 := hS.2.2.1.cell (i := 2) rfl; have y2 := hS.2.2.1.froz 2; have z3 := hS.2.2.1.cell (i := 3) rfl; have y3 := hS.2.2.1.froz 3; have z4 := hS.2.2.1.cell (i := 4) rfl; have y4 := hS.2.2.1.froz 4; have z5 := hS.2.2.1.cell (i := 5) rfl; have y5 := hS.2.2.1.froz 5; have z6 := hS.2.2.1.cell (i := 6) rfl; have y6 := hS.2.2.1.froz 6
  go_region_held3 (fun W => W.cell? ⟨B, 0, none⟩ = some (.int .i64 a) ∧ W.cell? ⟨B, 1, none⟩ = some (.int .i64 b) ∧ W.cell? ⟨B, 2, none⟩ = some (.int .i64 k) ∧ W.cell? ⟨B, 3, none⟩ = some (.string t) ∧ W.cell? ⟨B, 4, none⟩ = some (.string g) ∧ W.cell? ⟨B, 5, none⟩ = some (.string x) ∧ W.cell? ⟨B, 6, none⟩ = some (.int .i64 n) ∧ W.cell? ⟨w.heap.size + 1, 2, none⟩ = some (.bool false))
    (first
      | with_reducible exact x0
      | with_reducible exact x1
      | with_reducible exact PF.out _ _ _ (PF.out _ _ _ (PF.out _ _ _ (PF.out _ _ _ (PF.out _ _ _ (PF.out _ _ _ (PF.out _ _ _ x1)))))))
    (first
      | (go_at_call 8; (with_reducible refine (CB.out _).mono ?_); rintro e v1 ⟨rfl, hb1⟩; replace hS := hS.below hb1; have x1 := PC.out _ hS; clear z0 z1 z2 z3 z4 z5 z6 y0 y1 y2 y3 y4 y5 y6; have z0 := hS.2.2.1.cell (i := 0) rfl; have y0 := hS.2.2.1.froz 0; have z1 := hS.2.2.1.cell (i := 1) rfl; have y1 := hS.2.2.1.froz 1; have z2 := hS.2.2.1.cell (i := 2) rfl; have y2 := hS.2.2.1.froz 2; have z3 := hS.2.2.1.cell (i := 3) rfl; have y3 := hS.2.2.1.froz 3; have z4 := hS.2.2.1.cell (i := 4) rfl; have y4 := hS.2.2.1.froz 4; have z5 := hS.2.2.1.cell (i := 5) rfl; have y5 := hS.2.2.1.froz 5; have z6 := hS.2.2.1.cell (i := 6) rfl; have y6 := hS.2.2.1.froz 6))
  all_goals
    go_wp2
    have hF := (((((((hS.2.2.1.put 0 (.int .i64 a)).put 1 (.int .i64 b)).put 2 (.int .i64 k)).put 3 (.string t)).put 4 (.string g)).put 5 (.string x)).put 6 (.int .i64 n))
    have hb := (((((((hS.2.2.2.1.setCell (Nat.le_refl _) (.int .i64 a) (p := ⟨w.heap.size, 0, none⟩)).setCell (Nat.le_refl _) (.int .i64 b) (p := ⟨w.heap.size, 1, none⟩)).setCell (Nat.le_refl _) (.int .i64 k) (p := ⟨w.heap.size, 2, none⟩)).setCell (Nat.le_refl _) (.string t) (p := ⟨w.heap.size, 3, none⟩)).setCell (Nat.le_refl _) (.string g) (p := ⟨w.heap.size, 4, none⟩)).setCell (Nat.le_refl _) (.string x) (p := ⟨w.heap.size, 5, none⟩)).setCell (Nat.le_refl _) (.int .i64 n) (p := ⟨w.heap.size, 6, none⟩))
    simp only [List.set_cons_succ, List.set_cons_zero] at hF
    generalize (((((((v1.setCell ⟨w.heap.size, 0, none⟩ (.int .i64 a)).setCell ⟨w.heap.size, 1, none⟩ (.int .i64 b)).setCell ⟨w.heap.size, 2, none⟩ (.int .i64 k)).setCell ⟨w.heap.size, 3, none⟩ (.string t)).setCell ⟨w.heap.size, 4, none⟩ (.string g)).setCell ⟨w.heap.size, 5, none⟩ (.string x)).setCell ⟨w.heap.size, 6, none⟩ (.int .i64 n)) = WF at hF hb ⊢
    have k0 := hF.cell (i := 0) rfl
    have k1 := hF.cell (i := 1) rfl
    have k2 := hF.cell (i := 2) rfl
    have k3 := hF.cell (i := 3) rfl
    have k4 := hF.cell (i := 4) rfl
    have k5 := hF.cell (i := 5) rfl
    have k6 := hF.cell (i := 6) rfl
    exact bodyPost_ret (v := .tuple #[cmdV a b k t g x n, .bool gd]) (by simp [results, Tryd.results37, go_sem, k0, k1, k2, k3, k4, k5, k6, hgd]) rfl ⟨rfl, hb⟩
end Go.Proofs.YtpgodphnjeifhaaDoor
