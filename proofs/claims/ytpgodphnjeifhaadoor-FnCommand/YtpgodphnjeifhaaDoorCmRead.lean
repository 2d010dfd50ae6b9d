/- impl.CommandRead. -/
import Derived.Test.YtpgodphnjeifhaaDoorCmRdI
namespace Go.Proofs.YtpgodphnjeifhaaDoor
open Go.RowKit
set_option linter.unusedVariables false
set_option linter.unusedSimpArgs false
set_option maxRecDepth 1000000

/-- A command and a code. -/
abbrev coutV (a b k : Int) (t g x : ByteArray) (n cd : Int) : Value := .agg #[.int .i64 a, .int .i64 b, .int .i64 k, .string t, .string g, .string x, .int .i64 n, .int .i64 cd]
def Cmd.out (c : Cmd) (cd : Int) : Value := coutV c.client c.number c.kind c.topic c.group c.text c.n cd
/-- CommandRead. -/
noncomputable def goodR (s : ByteArray) : Bool := ((readC s).2 == some s.size) && cmdB (readC s).1
noncomputable def readCmd (s : ByteArray) : Cmd × Int := if 20000 < s.size then (Cmd.zero, 2) else if goodR s = true then ((readC s).1, 0) else (Cmd.zero, 3)
/-- What impl.CommandRead knows while it reads. -/
def RS (w W : World) (s : ByteArray) (o : Option Nat) (cs : List Value) : Prop :=
  Rdr 48 W (w.heap.size + 1) s o ∧ Blk W (w.heap.size + 2) 24 cs ∧ Blk W w.heap.size 31 [.int .i64 0, .int .i64 0, .int .i64 0, .string ⟨#[]⟩, .string ⟨#[]⟩, .string ⟨#[]⟩, .int .i64 0, .int .i64 0] ∧ Below w.heap.size w W
theorem below_grown {w W W' : World} {r : Nat} (h : Below w.heap.size w W) (hg : W.grownBy W' (some r)) (hr : w.heap.size ≤ r) : Below w.heap.size w W' :=
  ⟨hg.os.trans h.os, hg.tape.trans h.tape, hg.output.trans h.output, Nat.le_trans h.size hg.size, fun k hk => (hg.block k (Nat.lt_of_lt_of_le hk h.size) (fun e => by have := Option.some.inj e; omega)).trans (h.block k hk)⟩
theorem RS.call {w W W' : World} {s : ByteArray} {o o' : Option Nat} {cs : List Value} (h : RS w W s o cs) (hg : W.grownBy W' (some (w.heap.size + 1))) (hR : Rdr 48 W' (w.heap.size + 1) s o') : RS w W' s o' cs :=
  ⟨hR, h.2.1.grown hg (fun e => by have := Option.some.inj e; omega), h.2.2.1.grown hg (fun e => by have := Option.some.inj e; omega), below_grown h.2.2.2 hg (by omega)⟩
theorem RS.put {w W : World} {s : ByteArray} {o : Option Nat} {cs : List Value} (h : RS w W s o cs) (i : Nat) (u : Value) : RS w (W.setCell ⟨w.heap.size + 2, i, none⟩ u) s o (cs.set i u) :=
  ⟨h.1.far (p := ⟨w.heap.size + 2, i, none⟩) (by simp) u, h.2.1.put i u, h.2.2.1.far (p := ⟨w.heap.size + 2, i, none⟩) (by simp) u, h.2.2.2.setCell (by simp) u⟩
theorem RS.below {w W W' : World} {s : ByteArray} {o : Option Nat} {cs : List Value} (h : RS w W s o cs) (hb : Below W.heap.size W W') : RS w W' s o cs :=
  ⟨h.1.below hb, h.2.1.below hb h.2.1.lt, h.2.2.1.below hb h.2.2.1.lt, h.2.2.2.trans (hb.mono h.2.2.2.size)⟩
theorem read_small {s : ByteArray} (hs : s.size ≤ 20000) : (readC s).1.small := by
  have key : ∀ o, (rT s o).1.size ≤ s.size := by
    intro o
    cases o with
    | none => exact Nat.zero_le _
    | some p =>
      cases hr : gt s p with
      | error c => simp only [rT, hr]; exact Nat.zero_le _
      | ok x => obtain ⟨t, q⟩ := x; simp only [rT, hr]; exact (gt_ok hr).1
  have hm : s.size ≤ maxLen := by unfold maxLen; omega
  exact ⟨Nat.le_trans (key _) hm, Nat.le_trans (key _) hm, Nat.le_trans (key _) hm⟩

theorem implRead_size (s : ByteArray) (w : World) (hs : s.size ≤ maxLen) (h : 20000 < s.size) :
    Calls Tryd.prog 13 #[.string s] w fun e w' => e = .returned ((readCmd s).1.out (readCmd s).2) ∧ Below w.heap.size w w' := by
  have hr : readCmd s = (Cmd.zero, 2) := by unfold readCmd; rw [if_pos h]
  rw [hr]
  unfold maxLen at hs
  go_enter Tryd.func13, Tryd.ntmps13
  go_wp2_with (go_at_call 32; go_in)
  exact bodyPost_ret (v := coutV 0 0 0 ⟨#[]⟩ ⟨#[]⟩ ⟨#[]⟩ 0 2) (by simp [results, Tryd.results13, go_sem]) rfl ⟨rfl, below_box _ _⟩

set_option maxHeartbeats 4000000 in
theorem implCommandRead_in (s : ByteArray) (w : World) (hg : Handle w) (hs : s.size ≤ 20000) :
    Calls Tryd.prog 13 #[.string s] w fun e w' => e = .returned ((readCmd s).1.out (readCmd s).2) ∧ Below w.heap.size w w' := by
  have hn2 : ¬ 20000 < s.size := by omega
  have hrc : readCmd s = if goodR s = true then ((readC s).1, 0) else (Cmd.zero, 3) := by unfold readCmd; rw [if_neg hn2]
  have hsm := read_small hs
  have C0 := Lib.hid (fun W h1 h2 => implNum_any (w.heap.size + 1) s (some 0) W h1 h2 hs)
  obtain ⟨a, o0, E0⟩ : ∃ x y, rN s (some 0) = (x, y) := ⟨_, _, rfl⟩
  rw [E0] at C0
  have C1 := Lib.hid (fun W h1 h2 => implNum_any (w.heap.size + 1) s o0 W h1 h2 hs)
  obtain ⟨b, o1, E1⟩ : ∃ x y, rN s o0 = (x, y) := ⟨_, _, rfl⟩
  rw [E1] at C1
  have C2 := Lib.hid (fun W h1 h2 => implNum_any (w.heap.size + 1) s o1 W h1 h2 hs)
  obtain ⟨k, o2, E2⟩ : ∃ x y, rN s o1 = (x, y) := ⟨_, _, rfl⟩
  rw [E2] at C2
  have C3 := Lib.hid (fun W h1 h2 => implText_any (w.heap.size + 1) s o2 W h1 h2 hs)
  obtain ⟨t, o3, E3⟩ : ∃ x y, rT s o2 = (x, y) := ⟨_, _, rfl⟩
  rw [E3] at C3
  have C4 := Lib.hid (fun W h1 h2 => implText_any (w.heap.size + 1) s o3 W h1 h2 hs)
  obtain ⟨g, o4, E4⟩ : ∃ x y, rT s o3 = (x, y) := ⟨_, _, rfl⟩
  rw [E4] at C4
  have C5 := Lib.hid (fun W h1 h2 => implText_any (w.heap.size + 1) s o4 W h1 h2 hs)
  obtain ⟨x, o5, E5⟩ : ∃ x y, rT s o4 = (x, y) := ⟨_, _, rfl⟩
  rw [E5] at C5
  have C6 := Lib.hid (fun W h1 h2 => implNum_any (w.heap.size + 1) s o5 W h1 h2 hs)
  obtain ⟨n, o6, E6⟩ : ∃ x y, rN s o5 = (x, y) := ⟨_, _, rfl⟩
  rw [E6] at C6
  have hRC : readC s = (⟨a, b, k, t, g, x, n⟩, o6) := by unfold readC; simp only [E0, E1, E2, E3, E4, E5, E6]
  rw [hRC] at hsm
  have CC := Lib.hid (fun W h => complete_any (w.heap.size + 1) s o6 W h hs)
  have CR := Lib.hid (implCommandRight_any ⟨a, b, k, t, g, x, n⟩ hsm)
  have hgd : goodR s = ((o6 == some s.size) && cmdB ⟨a, b, k, t, g, x, n⟩) := by unfold goodR; rw [hRC]
  rw [hRC] at hrc
  generalize (o6 == some s.size) = fin at CC hgd
  generalize cmdB ⟨a, b, k, t, g, x, n⟩ = rgt at CR hgd
  unfold Cmd.v at CR
  simp only at C0 C1 C2 C3 C4 C5 C6 CR
  clear E0 E1 E2 E3 E4 E5 E6 hRC hsm
  have HG := Lib.hid hgd
  have HC := Lib.hid hrc
  clear hgd hrc
  generalize readCmd s = res at HC ⊢
  have hS : RS w (((w.alloc (.cells #[.int .i64 0, .int .i64 0, .int .i64 0, .string ⟨#[]⟩, .string ⟨#[]⟩, .string ⟨#[]⟩, .int .i64 0, .int .i64 0] 31)).alloc (.cells #[.string s, .int .i64 0, .bool false] 48)).alloc (.cells #[.int .i64 0, .int .i64 0, .int .i64 0, .string ⟨#[]⟩, .string ⟨#[]⟩, .string ⟨#[]⟩, .int .i64 0] 24)) s (some 0) [.int .i64 0, .int .i64 0, .int .i64 0, .string ⟨#[]⟩, .string ⟨#[]⟩, .string ⟨#[]⟩, .int .i64 0] := by
    have h1 := ((Blk.fresh w 31 [.int .i64 0, .int .i64 0, .int .i64 0, .string ⟨#[]⟩, .string ⟨#[]⟩, .string ⟨#[]⟩, .int .i64 0, .int .i64 0]).alloc (.cells #[.string s, .int .i64 0, .bool false] 48)).alloc (.cells #[.int .i64 0, .int .i64 0, .int .i64 0, .string ⟨#[]⟩, .string ⟨#[]⟩, .string ⟨#[]⟩, .int .i64 0] 24)
    have h2 := (Blk.fresh (w.alloc (.cells #[.int .i64 0, .int .i64 0, .int .i64 0, .string ⟨#[]⟩, .string ⟨#[]⟩, .string ⟨#[]⟩, .int .i64 0, .int .i64 0] 31)) 48 [.string s, .int .i64 0, .bool false]).alloc (.cells #[.int .i64 0, .int .i64 0, .int .i64 0, .string ⟨#[]⟩, .string ⟨#[]⟩, .string ⟨#[]⟩, .int .i64 0] 24)
    have h3 := Blk.fresh ((w.alloc (.cells #[.int .i64 0, .int .i64 0, .int .i64 0, .string ⟨#[]⟩, .string ⟨#[]⟩, .string ⟨#[]⟩, .int .i64 0, .int .i64 0] 31)).alloc (.cells #[.string s, .int .i64 0, .bool false] 48)) 24 [.int .i64 0, .int .i64 0, .int .i64 0, .string ⟨#[]⟩, .string ⟨#[]⟩, .string ⟨#[]⟩, .int .i64 0]
    simp only [World.size_alloc] at h1 h2 h3
    exact ⟨⟨h2, Nat.zero_le _⟩, h3, h1, ((below_box _ _).alloc (by simp) _).alloc (by simp; omega) _⟩
  go_enter Tryd.func13, Tryd.ntmps13
  go_wp2_with (go_at_call 32; go_in)
  generalize ((w.alloc (.cells #[.int .i64 0, .int .i64 0, .int .i64 0, .string ⟨#[]⟩, .string ⟨#[]⟩, .string ⟨#[]⟩, .int .i64 0, .int .i64 0] 31)).alloc (.cells #[.string s, .int .i64 0, .bool false] 48)).alloc (.cells #[.int .i64 0, .int .i64 0, .int .i64 0, .string ⟨#[]⟩, .string ⟨#[]⟩, .string ⟨#[]⟩, .int .i64 0] 24) = W0 at hS ⊢
  refine (C0.out _ (Handle.below hg hS.2.2.2) hS.1).mono ?_
  rintro e w0 ⟨rfl, hR, hG⟩
  replace hS := hS.call hG hR
  clear hR hG
  have c0 := hS.2.1.cell (i := 0) rfl
  have f0 := hS.2.1.froz 0
  have hS' := hS.put 0 (.int .i64 a)
  simp only [List.set_cons_succ, List.set_cons_zero] at hS'
  clear hS
  go_wp2_with (fail)
  generalize w0.setCell ⟨w.heap.size + 2, 0, none⟩ (.int .i64 a) = W1 at hS' ⊢
  have hS := hS'
  clear hS' c0 f0
  refine (C1.out _ (Handle.below hg hS.2.2.2) hS.1).mono ?_
  rintro e w1 ⟨rfl, hR, hG⟩
  replace hS := hS.call hG hR
  clear hR hG
  have c0 := hS.2.1.cell (i := 1) rfl
  have f0 := hS.2.1.froz 1
  have hS' := hS.put 1 (.int .i64 b)
  simp only [List.set_cons_succ, List.set_cons_zero] at hS'
  clear hS
  go_wp2_with (fail)
  generalize w1.setCell ⟨w.heap.size + 2, 1, none⟩ (.int .i64 b) = W2 at hS' ⊢
  have hS := hS'
  clear hS' c0 f0
  refine (C2.out _ (Handle.below hg hS.2.2.2) hS.1).mono ?_
  rintro e w2 ⟨rfl, hR, hG⟩
  replace hS := hS.call hG hR
  clear hR hG
  have c0 := hS.2.1.cell (i := 2) rfl
  have f0 := hS.2.1.froz 2
  have hS' := hS.put 2 (.int .i64 k)
  simp only [List.set_cons_succ, List.set_cons_zero] at hS'
  clear hS
  go_wp2_with (fail)
  generalize w2.setCell ⟨w.heap.size + 2, 2, none⟩ (.int .i64 k) = W3 at hS' ⊢
  have hS := hS'
  clear hS' c0 f0
  refine (C3.out _ (Handle.below hg hS.2.2.2) hS.1).mono ?_
  rintro e w3 ⟨rfl, hR, hG⟩
  replace hS := hS.call hG hR
  clear hR hG
  have c0 := hS.2.1.cell (i := 3) rfl
  have f0 := hS.2.1.froz 3
  have hS' := hS.put 3 (.string t)
  simp only [List.set_cons_succ, List.set_cons_zero] at hS'
  clear hS
  go_wp2_with (fail)
  generalize w3.setCell ⟨w.heap.size + 2, 3, none⟩ (.string t) = W4 at hS' ⊢
  have hS := hS'
  clear hS' c0 f0
  refine (C4.out _ (Handle.below hg hS.2.2.2) hS.1).mono ?_
  rintro e w4 ⟨rfl, hR, hG⟩
  replace hS := hS.call hG hR
  clear hR hG
  have c0 := hS.2.1.cell (i := 4) rfl
  have f0 := hS.2.1.froz 4
  have hS' := hS.put 4 (.string g)
  simp only [List.set_cons_succ, List.set_cons_zero] at hS'
  clear hS
  go_wp2_with (fail)
  generalize w4.setCell ⟨w.heap.size + 2, 4, none⟩ (.string g) = W5 at hS' ⊢
  have hS := hS'
  clear hS' c0 f0
  refine (C5.out _ (Handle.below hg hS.2.2.2) hS.1).mono ?_
  rintro e w5 ⟨rfl, hR, hG⟩
  replace hS := hS.call hG hR
  clear hR hG
  have c0 := hS.2.1.cell (i := 5) rfl
  have f0 := hS.2.1.froz 5
  have hS' := hS.put 5 (.string x)
  simp only [List.set_cons_succ, List.set_cons_zero] at hS'
  clear hS
  go_wp2_with (fail)
  generalize w5.setCell ⟨w.heap.size + 2, 5, none⟩ (.string x) = W6 at hS' ⊢
  have hS := hS'
  clear hS' c0 f0
  refine (C6.out _ (Handle.below hg hS.2.2.2) hS.1).mono ?_
  rintro e w6 ⟨rfl, hR, hG⟩
  replace hS := hS.call hG hR
  clear hR hG
  have c0 := hS.2.1.cell (i := 6) rfl
  have f0 := hS.2.1.froz 6
  have hS' := hS.put 6 (.int .i64 n)
  simp only [List.set_cons_succ, List.set_cons_zero] at hS'
  clear hS
  go_wp2_with (fail)
  generalize w6.setCell ⟨w.heap.size + 2, 6, none⟩ (.int .i64 n) = W7 at hS' ⊢
  have hS := hS'
  clear hS' c0 f0
  refine (CC.out _ hS.1).mono ?_
  rintro e w8 ⟨rfl, hb8⟩
  replace hS := hS.below hb8
  clear hb8
  have z0 := hS.2.2.1.cell (i := 0) rfl
  have z1 := hS.2.2.1.cell (i := 1) rfl
  have z2 := hS.2.2.1.cell (i := 2) rfl
  have z3 := hS.2.2.1.cell (i := 3) rfl
  have z4 := hS.2.2.1.cell (i := 4) rfl
  have z5 := hS.2.2.1.cell (i := 5) rfl
  have z6 := hS.2.2.1.cell (i := 6) rfl
  have z7 := hS.2.2.1.cell (i := 7) rfl
  have y0 := hS.2.2.1.froz 0
  have y1 := hS.2.2.1.froz 1
  have y2 := hS.2.2.1.froz 2
  have y3 := hS.2.2.1.froz 3
  have y4 := hS.2.2.1.froz 4
  have y5 := hS.2.2.1.froz 5
  have y6 := hS.2.2.1.froz 6
  have y7 := hS.2.2.1.froz 7
  cases fin
  · obtain rfl : res = (Cmd.zero, 3) := by rw [HC.out, HG.out]; rfl
    go_wp2
    have hF := ((((((((hS.2.2.1.put 0 (.int .i64 0)).put 1 (.int .i64 0)).put 2 (.int .i64 0)).put 3 (.string ⟨#[]⟩)).put 4 (.string ⟨#[]⟩)).put 5 (.string ⟨#[]⟩)).put 6 (.int .i64 0)).put 7 (.int .i64 3))
    have hb := ((((((((hS.2.2.2.setCell (Nat.le_refl _) (.int .i64 0) (p := ⟨w.heap.size, 0, none⟩)).setCell (Nat.le_refl _) (.int .i64 0) (p := ⟨w.heap.size, 1, none⟩)).setCell (Nat.le_refl _) (.int .i64 0) (p := ⟨w.heap.size, 2, none⟩)).setCell (Nat.le_refl _) (.string ⟨#[]⟩) (p := ⟨w.heap.size, 3, none⟩)).setCell (Nat.le_refl _) (.string ⟨#[]⟩) (p := ⟨w.heap.size, 4, none⟩)).setCell (Nat.le_refl _) (.string ⟨#[]⟩) (p := ⟨w.heap.size, 5, none⟩)).setCell (Nat.le_refl _) (.int .i64 0) (p := ⟨w.heap.size, 6, none⟩)).setCell (Nat.le_refl _) (.int .i64 3) (p := ⟨w.heap.size, 7, none⟩))
    simp only [List.set_cons_succ, List.set_cons_zero] at hF
    generalize ((((((((w8.setCell ⟨w.heap.size, 0, none⟩ (.int .i64 0)).setCell ⟨w.heap.size, 1, none⟩ (.int .i64 0)).setCell ⟨w.heap.size, 2, none⟩ (.int .i64 0)).setCell ⟨w.heap.size, 3, none⟩ (.string ⟨#[]⟩)).setCell ⟨w.heap.size, 4, none⟩ (.string ⟨#[]⟩)).setCell ⟨w.heap.size, 5, none⟩ (.string ⟨#[]⟩)).setCell ⟨w.heap.size, 6, none⟩ (.int .i64 0)).setCell ⟨w.heap.size, 7, none⟩ (.int .i64 3)) = WF at hF hb ⊢
    have k0 := hF.cell (i := 0) rfl
    have k1 := hF.cell (i := 1) rfl
    have k2 := hF.cell (i := 2) rfl
    have k3 := hF.cell (i := 3) rfl
    have k4 := hF.cell (i := 4) rfl
    have k5 := hF.cell (i := 5) rfl
    have k6 := hF.cell (i := 6) rfl
    have k7 := hF.cell (i := 7) rfl
    exact bodyPost_ret (v := coutV 0 0 0 ⟨#[]⟩ ⟨#[]⟩ ⟨#[]⟩ 0 3) (by simp [results, Tryd.results13, go_sem, k0, k1, k2, k3, k4, k5, k6, k7]) rfl ⟨rfl, hb⟩
  · have d0 := hS.2.1.cell (i := 0) rfl
    have d1 := hS.2.1.cell (i := 1) rfl
    have d2 := hS.2.1.cell (i := 2) rfl
    have d3 := hS.2.1.cell (i := 3) rfl
    have d4 := hS.2.1.cell (i := 4) rfl
    have d5 := hS.2.1.cell (i := 5) rfl
    have d6 := hS.2.1.cell (i := 6) rfl
    go_wp2_with (fail)
    refine (CR.out _).mono ?_
    rintro e w9 ⟨rfl, hb9⟩
    replace hS := hS.below hb9
    clear hb9 z0 z1 z2 z3 z4 z5 z6 z7 y0 y1 y2 y3 y4 y5 y6 y7 d0 d1 d2 d3 d4 d5 d6
    have z0 := hS.2.2.1.cell (i := 0) rfl
    have y0 := hS.2.2.1.froz 0
    have z1 := hS.2.2.1.cell (i := 1) rfl
    have y1 := hS.2.2.1.froz 1
    have z2 := hS.2.2.1.cell (i := 2) rfl
    have y2 := hS.2.2.1.froz 2
    have z3 := hS.2.2.1.cell (i := 3) rfl
    have y3 := hS.2.2.1.froz 3
    have z4 := hS.2.2.1.cell (i := 4) rfl
    have y4 := hS.2.2.1.froz 4
    have z5 := hS.2.2.1.cell (i := 5) rfl
    have y5 := hS.2.2.1.froz 5
    have z6 := hS.2.2.1.cell (i := 6) rfl
    have y6 := hS.2.2.1.froz 6
    have z7 := hS.2.2.1.cell (i := 7) rfl
    have y7 := hS.2.2.1.froz 7
    have d0 := hS.2.1.cell (i := 0) rfl
    have d1 := hS.2.1.cell (i := 1) rfl
    have d2 := hS.2.1.cell (i := 2) rfl
    have d3 := hS.2.1.cell (i := 3) rfl
    have d4 := hS.2.1.cell (i := 4) rfl
    have d5 := hS.2.1.cell (i := 5) rfl
    have d6 := hS.2.1.cell (i := 6) rfl
    cases rgt
    · obtain rfl : res = (Cmd.zero, 3) := by rw [HC.out, HG.out]; rfl
      go_wp2
      have hF := ((((((((hS.2.2.1.put 0 (.int .i64 0)).put 1 (.int .i64 0)).put 2 (.int .i64 0)).put 3 (.string ⟨#[]⟩)).put 4 (.string ⟨#[]⟩)).put 5 (.string ⟨#[]⟩)).put 6 (.int .i64 0)).put 7 (.int .i64 3))
      have hb := ((((((((hS.2.2.2.setCell (Nat.le_refl _) (.int .i64 0) (p := ⟨w.heap.size, 0, none⟩)).setCell (Nat.le_refl _) (.int .i64 0) (p := ⟨w.heap.size, 1, none⟩)).setCell (Nat.le_refl _) (.int .i64 0) (p := ⟨w.heap.size, 2, none⟩)).setCell (Nat.le_refl _) (.string ⟨#[]⟩) (p := ⟨w.heap.size, 3, none⟩)).setCell (Nat.le_refl _) (.string ⟨#[]⟩) (p := ⟨w.heap.size, 4, none⟩)).setCell (Nat.le_refl _) (.string ⟨#[]⟩) (p := ⟨w.heap.size, 5, none⟩)).setCell (Nat.le_refl _) (.int .i64 0) (p := ⟨w.heap.size, 6, none⟩)).setCell (Nat.le_refl _) (.int .i64 3) (p := ⟨w.heap.size, 7, none⟩))
      simp only [List.set_cons_succ, List.set_cons_zero] at hF
      generalize ((((((((w9.setCell ⟨w.heap.size, 0, none⟩ (.int .i64 0)).setCell ⟨w.heap.size, 1, none⟩ (.int .i64 0)).setCell ⟨w.heap.size, 2, none⟩ (.int .i64 0)).setCell ⟨w.heap.size, 3, none⟩ (.string ⟨#[]⟩)).setCell ⟨w.heap.size, 4, none⟩ (.string ⟨#[]⟩)).setCell ⟨w.heap.size, 5, none⟩ (.string ⟨#[]⟩)).setCell ⟨w.heap.size, 6, none⟩ (.int .i64 0)).setCell ⟨w.heap.size, 7, none⟩ (.int .i64 3)) = WF at hF hb ⊢
      have k0 := hF.cell (i := 0) rfl
      have k1 := hF.cell (i := 1) rfl
      have k2 := hF.cell (i := 2) rfl
      have k3 := hF.cell (i := 3) rfl
      have k4 := hF.cell (i := 4) rfl
      have k5 := hF.cell (i := 5) rfl
      have k6 := hF.cell (i := 6) rfl
      have k7 := hF.cell (i := 7) rfl
      exact bodyPost_ret (v := coutV 0 0 0 ⟨#[]⟩ ⟨#[]⟩ ⟨#[]⟩ 0 3) (by simp [results, Tryd.results13, go_sem, k0, k1, k2, k3, k4, k5, k6, k7]) rfl ⟨rfl, hb⟩
    · obtain rfl : res = (⟨a, b, k, t, g, x, n⟩, 0) := by rw [HC.out, HG.out]; rfl
      go_wp2
      have hF := ((((((((hS.2.2.1.put 0 (.int .i64 a)).put 1 (.int .i64 b)).put 2 (.int .i64 k)).put 3 (.string t)).put 4 (.string g)).put 5 (.string x)).put 6 (.int .i64 n)).put 7 (.int .i64 0))
      have hb := ((((((((hS.2.2.2.setCell (Nat.le_refl _) (.int .i64 a) (p := ⟨w.heap.size, 0, none⟩)).setCell (Nat.le_refl _) (.int .i64 b) (p := ⟨w.heap.size, 1, none⟩)).setCell (Nat.le_refl _) (.int .i64 k) (p := ⟨w.heap.size, 2, none⟩)).setCell (Nat.le_refl _) (.string t) (p := ⟨w.heap.size, 3, none⟩)).setCell (Nat.le_refl _) (.string g) (p := ⟨w.heap.size, 4, none⟩)).setCell (Nat.le_refl _) (.string x) (p := ⟨w.heap.size, 5, none⟩)).setCell (Nat.le_refl _) (.int .i64 n) (p := ⟨w.heap.size, 6, none⟩)).setCell (Nat.le_refl _) (.int .i64 0) (p := ⟨w.heap.size, 7, none⟩))
      simp only [List.set_cons_succ, List.set_cons_zero] at hF
      generalize ((((((((w9.setCell ⟨w.heap.size, 0, none⟩ (.int .i64 a)).setCell ⟨w.heap.size, 1, none⟩ (.int .i64 b)).setCell ⟨w.heap.size, 2, none⟩ (.int .i64 k)).setCell ⟨w.heap.size, 3, none⟩ (.string t)).setCell ⟨w.heap.size, 4, none⟩ (.string g)).setCell ⟨w.heap.size, 5, none⟩ (.string x)).setCell ⟨w.heap.size, 6, none⟩ (.int .i64 n)).setCell ⟨w.heap.size, 7, none⟩ (.int .i64 0)) = WF at hF hb ⊢
      have k0 := hF.cell (i := 0) rfl
      have k1 := hF.cell (i := 1) rfl
      have k2 := hF.cell (i := 2) rfl
      have k3 := hF.cell (i := 3) rfl
      have k4 := hF.cell (i := 4) rfl
      have k5 := hF.cell (i := 5) rfl
      have k6 := hF.cell (i := 6) rfl
      have k7 := hF.cell (i := 7) rfl
      exact bodyPost_ret (v := coutV a b k t g x n 0) (by simp [results, Tryd.results13, go_sem, k0, k1, k2, k3, k4, k5, k6, k7]) rfl ⟨rfl, hb⟩
theorem implCommandRead_any (s : ByteArray) (w : World) (hg : Handle w) (hs : s.size ≤ maxLen) :
    Calls Tryd.prog 13 #[.string s] w fun e w' => e = .returned ((readCmd s).1.out (readCmd s).2) ∧ Below w.heap.size w w' := by
  by_cases h : 20000 < s.size
  · exact implRead_size s w hs h
  · exact implCommandRead_in s w hg (by omega)
end Go.Proofs.YtpgodphnjeifhaaDoor
