/- The reader of impl, in the words of what is read; impl.CommandRead. -/
import Derived.Test.YtpgodphnjeifhaaDoorCmRd
import Derived.Test.YtpgodphnjeifhaaDoorCmI
namespace Go.Proofs.YtpgodphnjeifhaaDoor
open Go.RowKit
set_option linter.unusedVariables false
set_option linter.unusedSimpArgs false
set_option maxRecDepth 1000000

/-- A reader's state: how far it is, or that something was wrong. -/
def Rdr (T : TypeId) (W : World) (r : Nat) (s : ByteArray) : Option Nat → Prop
  | some p => Blk W r T [.string s, .int .i64 (p : Int), .bool false] ∧ p ≤ s.size
  | none => ∃ q : Nat, q ≤ s.size ∧ Blk W r T [.string s, .int .i64 (q : Int), .bool true]
theorem Rdr.lt {T : TypeId} {W : World} {r : Nat} {s : ByteArray} {o : Option Nat} (h : Rdr T W r s o) : r < W.heap.size := by
  cases o with
  | none => obtain ⟨q, _, h⟩ := h; exact h.lt
  | some p => exact h.1.lt
theorem Rdr.grown {T : TypeId} {W W' : World} {r : Nat} {s : ByteArray} {o : Option Nat} {row : Option Nat} (h : Rdr T W r s o) (hg : W.grownBy W' row) (hr : some r ≠ row) : Rdr T W' r s o := by
  cases o with
  | none => obtain ⟨q, h1, h⟩ := h; exact ⟨q, h1, h.grown hg hr⟩
  | some p => exact ⟨h.1.grown hg hr, h.2⟩
theorem Rdr.below {T : TypeId} {W W' : World} {r : Nat} {s : ByteArray} {o : Option Nat} (h : Rdr T W r s o) (hb : Below W.heap.size W W') : Rdr T W' r s o :=
  h.grown (row := none) (grown_below hb) (fun e => by cases e)
theorem Rdr.far {T : TypeId} {W : World} {r : Nat} {s : ByteArray} {o : Option Nat} (h : Rdr T W r s o) {p : Addr} (hp : r ≠ p.block) (u : Value) : Rdr T (W.setCell p u) r s o := by
  cases o with
  | none => obtain ⟨q, h1, h⟩ := h; exact ⟨q, h1, h.far hp u⟩
  | some p => exact ⟨h.1.far hp u, h.2⟩
theorem implNum_any (r : Nat) (s : ByteArray) (o : Option Nat) (w : World) (hg : Handle w) (hR : Rdr 48 w r s o) (hs : s.size ≤ 20000) :
    Calls Tryd.prog 33 #[.pointer (some ⟨r, 0, none⟩)] w fun e w' => e = .returned (.int .i64 (rN s o).1) ∧ Rdr 48 w' r s (rN s o).2 ∧ w.grownBy w' (some r) := by
  cases o with
  | none =>
    obtain ⟨q, h1, h2⟩ := hR
    exact (implNum_bad r s q w h2).mono fun e w' ⟨e1, e2⟩ => ⟨e1, by subst e2; exact ⟨⟨q, h1, h2⟩, grown_below (Below.refl _ _)⟩⟩
  | some p =>
    have hp := hR.2
    cases hr : rd s p 10 0 0 with
    | error c =>
      have hc := rd_err_ne _ _ _ hr
      have GN := Lib.hid (fun W hg => implGetNum_any s p W hs (by omega) hg)
      rw [hr] at GN
      refine (implNum_of r s p 0 0 c w hg hR.1 GN).mono fun e w' ⟨e1, e2, e3⟩ => ?_
      have hc' : (c != 0) = true := by simpa using hc
      rw [hc'] at e2
      simp only [rN, hr]
      exact ⟨e1, ⟨0, by omega, e2⟩, e3⟩
    | ok x =>
      obtain ⟨u, m⟩ := x
      have hm := rd_within _ _ _ hr
      have GN := Lib.hid (fun W hg => implGetNum_any s p W hs (by omega) hg)
      rw [hr] at GN
      refine (implNum_of r s p (unzig u) ((p : Int) + m) 0 w hg hR.1 GN).mono fun e w' ⟨e1, e2, e3⟩ => ?_
      simp only [rN, hr]
      exact ⟨e1, ⟨e2, hm⟩, e3⟩
theorem implText_any (r : Nat) (s : ByteArray) (o : Option Nat) (w : World) (hg : Handle w) (hR : Rdr 48 w r s o) (hs : s.size ≤ 20000) :
    Calls Tryd.prog 34 #[.pointer (some ⟨r, 0, none⟩)] w fun e w' => e = .returned (.string (rT s o).1) ∧ Rdr 48 w' r s (rT s o).2 ∧ w.grownBy w' (some r) := by
  cases o with
  | none =>
    obtain ⟨q, h1, h2⟩ := hR
    exact (implText_bad r s q w h2).mono fun e w' ⟨e1, e2⟩ => ⟨e1, by subst e2; exact ⟨⟨q, h1, h2⟩, grown_below (Below.refl _ _)⟩⟩
  | some p =>
    have hp := hR.2
    cases hr : gt s p with
    | error c =>
      have hc := gt_err hr
      have GN := Lib.hid (fun W hg => implGetText_gt s p W hg hs (by omega))
      rw [hr] at GN
      refine (implText_of r s p ⟨#[]⟩ 0 c w hg hR.1 GN).mono fun e w' ⟨e1, e2, e3⟩ => ?_
      have hc' : (c != 0) = true := by simpa using hc
      rw [hc'] at e2
      simp only [rT, hr]
      exact ⟨e1, ⟨0, by omega, e2⟩, e3⟩
    | ok x =>
      obtain ⟨t, q⟩ := x
      have hm := gt_ok hr
      have GN := Lib.hid (fun W hg => implGetText_gt s p W hg hs (by omega))
      rw [hr] at GN
      refine (implText_of r s p t q 0 w hg hR.1 GN).mono fun e w' ⟨e1, e2, e3⟩ => ?_
      simp only [rT, hr]
      exact ⟨e1, ⟨e2, hm.2.2⟩, e3⟩
set_option maxHeartbeats 2000000 in
theorem complete_any (r : Nat) (s : ByteArray) (o : Option Nat) (w : World) (hR : Rdr 48 w r s o) (hs : s.size ≤ 20000) :
    Calls Tryd.prog 35 #[.pointer (some ⟨r, 0, none⟩)] w fun e w' => e = .returned (.bool (o == some s.size)) ∧ Below w.heap.size w w' := by
  cases o with
  | none =>
    obtain ⟨q, h1, hB⟩ := hR
    have r0 := hB.cell (i := 0) rfl
    have r1 := hB.cell (i := 1) rfl
    have r2 := hB.cell (i := 2) rfl
    go_enter Tryd.func35, Tryd.ntmps35
    go_wp2_with (fail)
    go_quiet (fail)
    go_wp2
    go_ret
    exact ⟨rfl, below_drewN (Below.refl _ _) _⟩
  | some p =>
    obtain ⟨hB, h1⟩ := hR
    have r0 := hB.cell (i := 0) rfl
    have r1 := hB.cell (i := 1) rfl
    have r2 := hB.cell (i := 2) rfl
    go_enter Tryd.func35, Tryd.ntmps35
    go_wp2_with (fail)
    go_quiet (fail)
    go_wp2
    go_ret
    exact ⟨retB (by by_cases h : p = s.size <;> simp [h]; omega), below_drewN (Below.refl _ _) _⟩
end Go.Proofs.YtpgodphnjeifhaaDoor
