/- The readers of fields: impl. spec.CommandRight answers cmdB. impl.CommandRight answers cmdB. The reader of impl, in the words of what is read; impl.CommandRead. -/
import Derived.Test.YtjnbhppnchmeoaaDoorRdW
import Derived.Test.YtjnbhppnchmeoaaDoorCmMathW
import Derived.BigRegion
import Derived.Deep.RegionHeld3
import Derived.Deep.DeepCutAuto
namespace Go.Proofs.YtjnbhppnchmeoaaDoor
open Go.RowKit
set_option linter.unusedVariables false
set_option linter.unusedSimpArgs false
set_option maxRecDepth 1000000

/-- What holds where the answer of a call lies in a box of its own. -/
def RCut (w : World) (T : TypeId) (v : Value) (a c : Int) (y : Value) (wx : World) : Prop :=
  ∃ b : Nat, y = .pointer (some ⟨b, 0, none⟩) ∧ w.heap.size ≤ b ∧ Blk wx b T [v, .int .i64 a, .int .i64 c] ∧ Below w.heap.size w wx
theorem rc_late {w W v1 : World} {T : TypeId} {v : Value} {a c : Int} (hb : Below W.heap.size W v1) (hs : Below w.heap.size w W) :
    RCut w T v a c (.pointer (some ⟨v1.heap.size, 0, none⟩)) (v1.alloc (.cells #[v, .int .i64 a, .int .i64 c] T)) := by
  have h1 := hs.trans (hb.mono hs.size)
  exact ⟨v1.heap.size, rfl, h1.size, Blk.fresh v1 T [v, .int .i64 a, .int .i64 c], h1.alloc h1.size _⟩
theorem rc_early {w W v1 : World} {T : TypeId} {v z0 z1 z2 : Value} {a c : Int} {b : Nat} (hb : Below W.heap.size W v1) (hs : Below w.heap.size w W) (hB : Blk W b T [z0, z1, z2]) (hle : w.heap.size ≤ b) :
    RCut w T v a c (.pointer (some ⟨b, 0, none⟩)) (((v1.setCell ⟨b, 0, none⟩ v).setCell ⟨b, 1, none⟩ (.int .i64 a)).setCell ⟨b, 2, none⟩ (.int .i64 c)) := by
  have h1 := hs.trans (hb.mono hs.size)
  exact ⟨b, rfl, hle, (((hB.below hb hB.lt).put 0 _).put 1 _).put 2 _, ((h1.setCell hle _).setCell hle _).setCell hle _⟩
theorem grown_one {w wc : World} {r : Nat} (h : w.grownBy wc (some r)) (i : Nat) (u : Value) : w.grownBy (wc.setCell ⟨r, i, none⟩ u) (some r) :=
  ⟨h.os, h.tape, h.output, by simpa [World.setCell] using h.size, fun k hk hne => (Below.heap_setCell wc ⟨r, i, none⟩ u k (fun e => hne (by rw [e]))).trans (h.block k hk hne)⟩
theorem grown_drew {w wc : World} {row : Option Nat} (h : w.grownBy wc row) : w.grownBy wc.drew row := ⟨h.os, h.tape, h.output, h.size, h.block⟩
theorem grown_below {w wc : World} {row : Option Nat} (h : Below w.heap.size w wc) : w.grownBy wc row := ⟨h.os, h.tape, h.output, h.size, fun k hk _ => h.block k hk⟩

set_option maxHeartbeats 4000000 in
theorem implNum_of (r : Nat) (s : ByteArray) (q : Int) (v : Int) (a c : Int) (w : World) (hg : Handle w) (hR : Blk w r 55 [.string s, .int .i64 q, .bool false])
    (GN : Hid (∀ W, Handle W → Calls Tryd.prog 42 #[.string s, .int .i64 q] W fun e w' => e = .returned (numOut v a c) ∧ Below W.heap.size W w')) :
    Calls Tryd.prog 23 #[.pointer (some ⟨r, 0, none⟩)] w fun e w' => e = .returned (.int .i64 v) ∧ Blk w' r 55 [.string s, .int .i64 a, .bool (c != 0)] ∧ w.grownBy w' (some r) := by
  have r2 := hR.cell (i := 2) rfl
  go_enter Tryd.func23, Tryd.ntmps23
  go_upto_region 3 with (fail)
  go_cut [3] (fun y wx => RCut w 75 (.int .i64 v) a c y wx)
  case first =>
    have hsd : Below w.heap.size w w.drew := below_drew (Below.refl _ _)
    have al1 := (Below.refl w.heap.size w).alloc (Nat.le_refl _) (.cells #[.int .i64 0, .int .i64 0, .int .i64 0] 75)
    have al0 : Below w.drew.heap.size w.drew (w.alloc (.cells #[.int .i64 0, .int .i64 0, .int .i64 0] 75)).drew := ⟨al1.os, al1.tape, al1.output, al1.size, al1.block⟩
    have hsa : Below w.heap.size w (w.alloc (.cells #[.int .i64 0, .int .i64 0, .int .i64 0] 75)).drew := below_drew al1
    clear al1
    have x0 : w.drew.cell? ⟨r, 0, none⟩ = some (.string s) ∧ w.drew.cell? ⟨r, 1, none⟩ = some (.int .i64 q) := ⟨hR.cell (i := 0) rfl, hR.cell (i := 1) rfl⟩
    have x0a : (w.alloc (.cells #[.int .i64 0, .int .i64 0, .int .i64 0] 75)).drew.cell? ⟨r, 0, none⟩ = some (.string s) ∧ (w.alloc (.cells #[.int .i64 0, .int .i64 0, .int .i64 0] 75)).drew.cell? ⟨r, 1, none⟩ = some (.int .i64 q) := ⟨kept_cell al0 x0.1, kept_cell al0 x0.2⟩
    have hBa := (Blk.fresh w 75 [.int .i64 0, .int .i64 0, .int .i64 0]).drew
    have hrl := hR.lt
    go_region_held3 (fun W => W.cell? ⟨r, 0, none⟩ = some (.string s) ∧ W.cell? ⟨r, 1, none⟩ = some (.int .i64 q))
      (first
        | exact x0
        | exact x0a
        | exact x1
        | exact ⟨kept_cell ((Below.refl v1.heap.size v1).alloc (Nat.le_refl _) (.cells #[.int .i64 0, .int .i64 0, .int .i64 0] 75)) x1.1, kept_cell ((Below.refl v1.heap.size v1).alloc (Nat.le_refl _) (.cells #[.int .i64 0, .int .i64 0, .int .i64 0] 75)) x1.2⟩
        | exact ⟨kept_cell ((Below.refl v1.heap.size v1).alloc (Nat.le_refl _) _) x1.1, kept_cell ((Below.refl v1.heap.size v1).alloc (Nat.le_refl _) _) x1.2⟩
        | exact ⟨cell_put_far (cell_put_far (cell_put_far x1.1 (Nat.ne_of_lt hrl) _) (Nat.ne_of_lt hrl) _) (Nat.ne_of_lt hrl) _, cell_put_far (cell_put_far (cell_put_far x1.2 (Nat.ne_of_lt hrl) _) (Nat.ne_of_lt hrl) _) (Nat.ne_of_lt hrl) _⟩
        | exact ⟨cell_put_far (cell_put_far (cell_put_far x1.1 (Nat.ne_of_lt (Nat.lt_of_lt_of_le hrl hz1)) _) (Nat.ne_of_lt (Nat.lt_of_lt_of_le hrl hz1)) _) (Nat.ne_of_lt (Nat.lt_of_lt_of_le hrl hz1)) _, cell_put_far (cell_put_far (cell_put_far x1.2 (Nat.ne_of_lt (Nat.lt_of_lt_of_le hrl hz1)) _) (Nat.ne_of_lt (Nat.lt_of_lt_of_le hrl hz1)) _) (Nat.ne_of_lt (Nat.lt_of_lt_of_le hrl hz1)) _⟩)
      (first
        | (go_at_call 42; first
            | ((with_reducible refine (GN.out w.drew (Handle.below hg hsd)).mono ?_); rintro e v1 ⟨rfl, hb1⟩; have hs1 := hsd; have x1 : v1.cell? ⟨r, 0, none⟩ = some (.string s) ∧ v1.cell? ⟨r, 1, none⟩ = some (.int .i64 q) := ⟨kept_cell hb1 x0.1, kept_cell hb1 x0.2⟩; have hz1 : w.heap.size ≤ v1.heap.size := hb1.size)
            | ((with_reducible refine (GN.out (w.alloc (.cells #[.int .i64 0, .int .i64 0, .int .i64 0] 75)).drew (Handle.below hg hsa)).mono ?_); rintro e v1 ⟨rfl, hb1⟩; have hs1 := hsa; have x1 : v1.cell? ⟨r, 0, none⟩ = some (.string s) ∧ v1.cell? ⟨r, 1, none⟩ = some (.int .i64 q) := ⟨kept_cell hb1 x0a.1, kept_cell hb1 x0a.2⟩; have hB1 := (hBa).below hb1 hBa.lt; have u0 := hB1.cell (i := 0) rfl; have u1 := hB1.cell (i := 1) rfl; have u2 := hB1.cell (i := 2) rfl; have z0 := hB1.froz 0; have z1 := hB1.froz 1; have z2 := hB1.froz 2; have hz1 : w.heap.size ≤ v1.heap.size := Nat.le_trans (by simp) hb1.size)))
    all_goals
      go_wp2_with (fail)
      go_meet
      case rel => first | exact rc_late hb1 hs1 | exact rc_early hb1 hs1 hBa (Nat.le_refl _)
  case rest =>
    obtain ⟨bx, rfl, hbb, hBx, hwx⟩ := hcut
    have hRx := hR.below hwx hR.lt
    have hrl := hR.lt
    have hbx := hBx.lt
    have y0 := hBx.cell (i := 0) rfl
    have y1 := hBx.cell (i := 1) rfl
    have y2 := hBx.cell (i := 2) rfl
    have r0 := hRx.cell (i := 0) rfl
    have r1 := hRx.cell (i := 1) rfl
    have r2 := hRx.cell (i := 2) rfl
    have f0 := hRx.froz 0
    have f1 := hRx.froz 1
    have f2 := hRx.froz 2
    clear r2
    have r2 := hRx.cell (i := 2) rfl
    go_wp2_with (fail)
    go_region
    have hq := cell_put_far (cell_put_far y0 (show bx ≠ r by omega) (p := ⟨r, 1, none⟩) (.int .i64 a)) (show bx ≠ r by omega) (p := ⟨r, 2, none⟩) (.bool (c != 0))
    have hF := (hRx.put 1 (.int .i64 a)).put 2 (.bool (c != 0))
    have hG := grown_drew (grown_one (grown_one (grown_below (row := some r) hwx) 1 (.int .i64 a)) 2 (.bool (c != 0)))
    generalize (wc.setCell ⟨r, 1, none⟩ (.int .i64 a)).setCell ⟨r, 2, none⟩ (.bool (c != 0)) = wf at hq hF hG ⊢
    replace hq : wf.drew.cell? ⟨bx, 0, none⟩ = _ := hq
    clear y0 y1 y2 r0 r1 r2 f0 f1 f2
    go_wp2
    go_ret
    exact ⟨rfl, hF.drew, hG⟩
theorem implNum_bad (r : Nat) (s : ByteArray) (q : Int) (w : World) (hR : Blk w r 55 [.string s, .int .i64 q, .bool true]) :
    Calls Tryd.prog 23 #[.pointer (some ⟨r, 0, none⟩)] w fun e w' => e = .returned (.int .i64 0) ∧ w' = w := by
  have r2 := hR.cell (i := 2) rfl
  go_enter Tryd.func23, Tryd.ntmps23
  go_wp2
  go_ret
  exact ⟨rfl, rfl⟩

set_option maxHeartbeats 4000000 in
theorem implText_of (r : Nat) (s : ByteArray) (q : Int) (v : ByteArray) (a c : Int) (w : World) (hg : Handle w) (hR : Blk w r 55 [.string s, .int .i64 q, .bool false])
    (GN : Hid (∀ W, Handle W → Calls Tryd.prog 43 #[.string s, .int .i64 q] W fun e w' => e = .returned (textOut v a c) ∧ Below W.heap.size W w')) :
    Calls Tryd.prog 24 #[.pointer (some ⟨r, 0, none⟩)] w fun e w' => e = .returned (.string v) ∧ Blk w' r 55 [.string s, .int .i64 a, .bool (c != 0)] ∧ w.grownBy w' (some r) := by
  have r2 := hR.cell (i := 2) rfl
  go_enter Tryd.func24, Tryd.ntmps24
  go_upto_region 3 with (fail)
  go_cut [3] (fun y wx => RCut w 78 (.string v) a c y wx)
  case first =>
    have hsd : Below w.heap.size w w.drew := below_drew (Below.refl _ _)
    have al1 := (Below.refl w.heap.size w).alloc (Nat.le_refl _) (.cells #[.string ⟨#[]⟩, .int .i64 0, .int .i64 0] 78)
    have al0 : Below w.drew.heap.size w.drew (w.alloc (.cells #[.string ⟨#[]⟩, .int .i64 0, .int .i64 0] 78)).drew := ⟨al1.os, al1.tape, al1.output, al1.size, al1.block⟩
    have hsa : Below w.heap.size w (w.alloc (.cells #[.string ⟨#[]⟩, .int .i64 0, .int .i64 0] 78)).drew := below_drew al1
    clear al1
    have x0 : w.drew.cell? ⟨r, 0, none⟩ = some (.string s) ∧ w.drew.cell? ⟨r, 1, none⟩ = some (.int .i64 q) := ⟨hR.cell (i := 0) rfl, hR.cell (i := 1) rfl⟩
    have x0a : (w.alloc (.cells #[.string ⟨#[]⟩, .int .i64 0, .int .i64 0] 78)).drew.cell? ⟨r, 0, none⟩ = some (.string s) ∧ (w.alloc (.cells #[.string ⟨#[]⟩, .int .i64 0, .int .i64 0] 78)).drew.cell? ⟨r, 1, none⟩ = some (.int .i64 q) := ⟨kept_cell al0 x0.1, kept_cell al0 x0.2⟩
    have hBa := (Blk.fresh w 78 [.string ⟨#[]⟩, .int .i64 0, .int .i64 0]).drew
    have hrl := hR.lt
    go_region_held3 (fun W => W.cell? ⟨r, 0, none⟩ = some (.string s) ∧ W.cell? ⟨r, 1, none⟩ = some (.int .i64 q))
      (first
        | exact x0
        | exact x0a
        | exact x1
        | exact ⟨kept_cell ((Below.refl v1.heap.size v1).alloc (Nat.le_refl _) (.cells #[.string ⟨#[]⟩, .int .i64 0, .int .i64 0] 78)) x1.1, kept_cell ((Below.refl v1.heap.size v1).alloc (Nat.le_refl _) (.cells #[.string ⟨#[]⟩, .int .i64 0, .int .i64 0] 78)) x1.2⟩
        | exact ⟨kept_cell ((Below.refl v1.heap.size v1).alloc (Nat.le_refl _) _) x1.1, kept_cell ((Below.refl v1.heap.size v1).alloc (Nat.le_refl _) _) x1.2⟩
        | exact ⟨cell_put_far (cell_put_far (cell_put_far x1.1 (Nat.ne_of_lt hrl) _) (Nat.ne_of_lt hrl) _) (Nat.ne_of_lt hrl) _, cell_put_far (cell_put_far (cell_put_far x1.2 (Nat.ne_of_lt hrl) _) (Nat.ne_of_lt hrl) _) (Nat.ne_of_lt hrl) _⟩
        | exact ⟨cell_put_far (cell_put_far (cell_put_far x1.1 (Nat.ne_of_lt (Nat.lt_of_lt_of_le hrl hz1)) _) (Nat.ne_of_lt (Nat.lt_of_lt_of_le hrl hz1)) _) (Nat.ne_of_lt (Nat.lt_of_lt_of_le hrl hz1)) _, cell_put_far (cell_put_far (cell_put_far x1.2 (Nat.ne_of_lt (Nat.lt_of_lt_of_le hrl hz1)) _) (Nat.ne_of_lt (Nat.lt_of_lt_of_le hrl hz1)) _) (Nat.ne_of_lt (Nat.lt_of_lt_of_le hrl hz1)) _⟩)
      (first
        | (go_at_call 43; first
            | ((with_reducible refine (GN.out w.drew (Handle.below hg hsd)).mono ?_); rintro e v1 ⟨rfl, hb1⟩; have hs1 := hsd; have x1 : v1.cell? ⟨r, 0, none⟩ = some (.string s) ∧ v1.cell? ⟨r, 1, none⟩ = some (.int .i64 q) := ⟨kept_cell hb1 x0.1, kept_cell hb1 x0.2⟩; have hz1 : w.heap.size ≤ v1.heap.size := hb1.size)
            | ((with_reducible refine (GN.out (w.alloc (.cells #[.string ⟨#[]⟩, .int .i64 0, .int .i64 0] 78)).drew (Handle.below hg hsa)).mono ?_); rintro e v1 ⟨rfl, hb1⟩; have hs1 := hsa; have x1 : v1.cell? ⟨r, 0, none⟩ = some (.string s) ∧ v1.cell? ⟨r, 1, none⟩ = some (.int .i64 q) := ⟨kept_cell hb1 x0a.1, kept_cell hb1 x0a.2⟩; have hB1 := (hBa).below hb1 hBa.lt; have u0 := hB1.cell (i := 0) rfl; have u1 := hB1.cell (i := 1) rfl; have u2 := hB1.cell (i := 2) rfl; have z0 := hB1.froz 0; have z1 := hB1.froz 1; have z2 := hB1.froz 2; have hz1 : w.heap.size ≤ v1.heap.size := Nat.le_trans (by simp) hb1.size)))
    all_goals
      go_wp2_with (fail)
      go_meet
      case rel => first | exact rc_late hb1 hs1 | exact rc_early hb1 hs1 hBa (Nat.le_refl _)
  case rest =>
    obtain ⟨bx, rfl, hbb, hBx, hwx⟩ := hcut
    have hRx := hR.below hwx hR.lt
    have hrl := hR.lt
    have hbx := hBx.lt
    have y0 := hBx.cell (i := 0) rfl
    have y1 := hBx.cell (i := 1) rfl
    have y2 := hBx.cell (i := 2) rfl
    have r0 := hRx.cell (i := 0) rfl
    have r1 := hRx.cell (i := 1) rfl
    have r2 := hRx.cell (i := 2) rfl
    have f0 := hRx.froz 0
    have f1 := hRx.froz 1
    have f2 := hRx.froz 2
    clear r2
    have r2 := hRx.cell (i := 2) rfl
    go_wp2_with (fail)
    go_region
    have hq := cell_put_far (cell_put_far y0 (show bx ≠ r by omega) (p := ⟨r, 1, none⟩) (.int .i64 a)) (show bx ≠ r by omega) (p := ⟨r, 2, none⟩) (.bool (c != 0))
    have hF := (hRx.put 1 (.int .i64 a)).put 2 (.bool (c != 0))
    have hG := grown_drew (grown_one (grown_one (grown_below (row := some r) hwx) 1 (.int .i64 a)) 2 (.bool (c != 0)))
    generalize (wc.setCell ⟨r, 1, none⟩ (.int .i64 a)).setCell ⟨r, 2, none⟩ (.bool (c != 0)) = wf at hq hF hG ⊢
    replace hq : wf.drew.cell? ⟨bx, 0, none⟩ = _ := hq
    clear y0 y1 y2 r0 r1 r2 f0 f1 f2
    go_wp2
    go_ret
    exact ⟨rfl, hF.drew, hG⟩
theorem implText_bad (r : Nat) (s : ByteArray) (q : Int) (w : World) (hR : Blk w r 55 [.string s, .int .i64 q, .bool true]) :
    Calls Tryd.prog 24 #[.pointer (some ⟨r, 0, none⟩)] w fun e w' => e = .returned (.string ⟨#[]⟩) ∧ w' = w := by
  have r2 := hR.cell (i := 2) rfl
  go_enter Tryd.func24, Tryd.ntmps24
  go_wp2
  go_ret
  exact ⟨rfl, rfl⟩
end Go.Proofs.YtjnbhppnchmeoaaDoor

namespace Go.Proofs.YtjnbhppnchmeoaaDoor
open Go.RowKit
set_option linter.unusedVariables false
set_option maxRecDepth 1000000
set_option linter.unusedSimpArgs false
end Go.Proofs.YtjnbhppnchmeoaaDoor

namespace Go.Proofs.YtjnbhppnchmeoaaDoor
open Go.RowKit
set_option linter.unusedVariables false
set_option maxRecDepth 1000000
set_option linter.unusedSimpArgs false
theorem drew_below {b : Nat} {w w' : World} (h : Below b w w') : Below b w w'.drew := ⟨h.os, h.tape, h.output, h.size, h.block⟩
theorem nilList : (⟨#[]⟩ : ByteArray).toList = [] := by rw [ByteArray.toList_eq]
theorem emptyB_list (s : ByteArray) : (s.toList == (⟨#[]⟩ : ByteArray).toList) = emptyB s := by
  rw [nilList]
  cases h : emptyB s
  · exact empty_list h
  · rw [empty_eq h, nilList]; rfl
theorem list_same (s : ByteArray) : (s.toList == s.toList) = true := by simp
theorem zeroB (n : Int) : (n == 0) = decide (n = 0) := by by_cases h : n = 0 <;> simp [h]

end Go.Proofs.YtjnbhppnchmeoaaDoor

namespace Go.Proofs.YtjnbhppnchmeoaaDoor
open Go.RowKit
set_option linter.unusedVariables false
set_option linter.unusedSimpArgs false
set_option maxRecDepth 1000000

/-- A reader's state: how far it is, or that something was wrong. -/
def Rdr (T : TypeId) (W : World) (r : Nat) (s : ByteArray) : Option Nat → Prop
  | some p => Blk W r T [.string s, .int .i64 (p : Int), .bool false] ∧ p ≤ s.size
  | none => ∃ q : Nat, q ≤ s.size ∧ Blk W r T [.string s, .int .i64 (q : Int), .bool true]
theorem Rdr.lt {T : TypeId} {W : World} {r : Nat} {s : ByteArray} {o : Option Nat} (h : Rdr T W r s o) : r < W.heap.size := by
  cases o with
  | none => obtain ⟨q, _, h⟩ := h; exact h.lt
  | some p => exact h.1.lt
theorem Rdr.grown {T : TypeId} {W W' : World} {r : Nat} {s : ByteArray} {o : Option Nat} {row : Option Nat} (h : Rdr T W r s o) (hg : W.grownBy W' row) (hr : some r ≠ row) : Rdr T W' r s o := by
  cases o with
  | none => obtain ⟨q, h1, h⟩ := h; exact ⟨q, h1, h.grown hg hr⟩
  | some p => exact ⟨h.1.grown hg hr, h.2⟩
theorem Rdr.below {T : TypeId} {W W' : World} {r : Nat} {s : ByteArray} {o : Option Nat} (h : Rdr T W r s o) (hb : Below W.heap.size W W') : Rdr T W' r s o :=
  h.grown (row := none) (grown_below hb) (fun e => by cases e)
theorem Rdr.far {T : TypeId} {W : World} {r : Nat} {s : ByteArray} {o : Option Nat} (h : Rdr T W r s o) {p : Addr} (hp : r ≠ p.block) (u : Value) : Rdr T (W.setCell p u) r s o := by
  cases o with
  | none => obtain ⟨q, h1, h⟩ := h; exact ⟨q, h1, h.far hp u⟩
  | some p => exact ⟨h.1.far hp u, h.2⟩
theorem implNum_any (r : Nat) (s : ByteArray) (o : Option Nat) (w : World) (hg : Handle w) (hR : Rdr 55 w r s o) (hs : s.size ≤ 20000) :
    Calls Tryd.prog 23 #[.pointer (some ⟨r, 0, none⟩)] w fun e w' => e = .returned (.int .i64 (rN s o).1) ∧ Rdr 55 w' r s (rN s o).2 ∧ w.grownBy w' (some r) := by
  cases o with
  | none =>
    obtain ⟨q, h1, h2⟩ := hR
    exact (implNum_bad r s q w h2).mono fun e w' ⟨e1, e2⟩ => ⟨e1, by subst e2; exact ⟨⟨q, h1, h2⟩, grown_below (Below.refl _ _)⟩⟩
  | some p =>
    have hp := hR.2
    cases hr : rd s p 10 0 0 with
    | error c =>
      have hc := rd_err_ne _ _ _ hr
      have GN := Lib.hid (fun W hg => implGetNum_any s p W hs (by omega) hg)
      rw [hr] at GN
      refine (implNum_of r s p 0 0 c w hg hR.1 GN).mono fun e w' ⟨e1, e2, e3⟩ => ?_
      have hc' : (c != 0) = true := by simpa using hc
      rw [hc'] at e2
      simp only [rN, hr]
      exact ⟨e1, ⟨0, by omega, e2⟩, e3⟩
    | ok x =>
      obtain ⟨u, m⟩ := x
      have hm := rd_within _ _ _ hr
      have GN := Lib.hid (fun W hg => implGetNum_any s p W hs (by omega) hg)
      rw [hr] at GN
      refine (implNum_of r s p (unzig u) ((p : Int) + m) 0 w hg hR.1 GN).mono fun e w' ⟨e1, e2, e3⟩ => ?_
      simp only [rN, hr]
      exact ⟨e1, ⟨e2, hm⟩, e3⟩
theorem implText_any (r : Nat) (s : ByteArray) (o : Option Nat) (w : World) (hg : Handle w) (hR : Rdr 55 w r s o) (hs : s.size ≤ 20000) :
    Calls Tryd.prog 24 #[.pointer (some ⟨r, 0, none⟩)] w fun e w' => e = .returned (.string (rT s o).1) ∧ Rdr 55 w' r s (rT s o).2 ∧ w.grownBy w' (some r) := by
  cases o with
  | none =>
    obtain ⟨q, h1, h2⟩ := hR
    exact (implText_bad r s q w h2).mono fun e w' ⟨e1, e2⟩ => ⟨e1, by subst e2; exact ⟨⟨q, h1, h2⟩, grown_below (Below.refl _ _)⟩⟩
  | some p =>
    have hp := hR.2
    cases hr : gt s p with
    | error c =>
      have hc := gt_err hr
      have GN := Lib.hid (fun W hg => implGetText_gt s p W hg hs (by omega))
      rw [hr] at GN
      refine (implText_of r s p ⟨#[]⟩ 0 c w hg hR.1 GN).mono fun e w' ⟨e1, e2, e3⟩ => ?_
      have hc' : (c != 0) = true := by simpa using hc
      rw [hc'] at e2
      simp only [rT, hr]
      exact ⟨e1, ⟨0, by omega, e2⟩, e3⟩
    | ok x =>
      obtain ⟨t, q⟩ := x
      have hm := gt_ok hr
      have GN := Lib.hid (fun W hg => implGetText_gt s p W hg hs (by omega))
      rw [hr] at GN
      refine (implText_of r s p t q 0 w hg hR.1 GN).mono fun e w' ⟨e1, e2, e3⟩ => ?_
      simp only [rT, hr]
      exact ⟨e1, ⟨e2, hm.2.2⟩, e3⟩
set_option maxHeartbeats 2000000 in
theorem complete_any (r : Nat) (s : ByteArray) (o : Option Nat) (w : World) (hR : Rdr 55 w r s o) (hs : s.size ≤ 20000) :
    Calls Tryd.prog 25 #[.pointer (some ⟨r, 0, none⟩)] w fun e w' => e = .returned (.bool (o == some s.size)) ∧ Below w.heap.size w w' := by
  cases o with
  | none =>
    obtain ⟨q, h1, hB⟩ := hR
    have r0 := hB.cell (i := 0) rfl
    have r1 := hB.cell (i := 1) rfl
    have r2 := hB.cell (i := 2) rfl
    go_enter Tryd.func25, Tryd.ntmps25
    go_wp2_with (fail)
    go_quiet (fail)
    go_wp2
    go_ret
    exact ⟨rfl, below_drewN (Below.refl _ _) _⟩
  | some p =>
    obtain ⟨hB, h1⟩ := hR
    have r0 := hB.cell (i := 0) rfl
    have r1 := hB.cell (i := 1) rfl
    have r2 := hB.cell (i := 2) rfl
    go_enter Tryd.func25, Tryd.ntmps25
    go_wp2_with (fail)
    go_quiet (fail)
    go_wp2
    go_ret
    exact ⟨retB (by by_cases h : p = s.size <;> simp [h]; omega), below_drewN (Below.refl _ _) _⟩
end Go.Proofs.YtjnbhppnchmeoaaDoor
