/- The readers of fields: impl. -/
import Derived.Test.YtpgodphnjeifhaaDoorKept
import Derived.Test.YtpgodphnjeifhaaDoorCmMath
import Derived.BigRegion
import Derived.Deep.RegionHeld3
import Derived.Deep.DeepCutAuto
namespace Go.Proofs.YtpgodphnjeifhaaDoor
open Go.RowKit
set_option linter.unusedVariables false
set_option linter.unusedSimpArgs false
set_option maxRecDepth 1000000

/-- What holds where the answer of a call lies in a box of its own. -/
def RCut (w : World) (T : TypeId) (v : Value) (a c : Int) (y : Value) (wx : World) : Prop :=
  ∃ b : Nat, y = .pointer (some ⟨b, 0, none⟩) ∧ w.heap.size ≤ b ∧ Blk wx b T [v, .int .i64 a, .int .i64 c] ∧ Below w.heap.size w wx
theorem rc_late {w W v1 : World} {T : TypeId} {v : Value} {a c : Int} (hb : Below W.heap.size W v1) (hs : Below w.heap.size w W) :
    RCut w T v a c (.pointer (some ⟨v1.heap.size, 0, none⟩)) (v1.alloc (.cells #[v, .int .i64 a, .int .i64 c] T)) := by
  have h1 := hs.trans (hb.mono hs.size)
  exact ⟨v1.heap.size, rfl, h1.size, Blk.fresh v1 T [v, .int .i64 a, .int .i64 c], h1.alloc h1.size _⟩
theorem rc_early {w W v1 : World} {T : TypeId} {v z0 z1 z2 : Value} {a c : Int} {b : Nat} (hb : Below W.heap.size W v1) (hs : Below w.heap.size w W) (hB : Blk W b T [z0, z1, z2]) (hle : w.heap.size ≤ b) :
    RCut w T v a c (.pointer (some ⟨b, 0, none⟩)) (((v1.setCell ⟨b, 0, none⟩ v).setCell ⟨b, 1, none⟩ (.int .i64 a)).setCell ⟨b, 2, none⟩ (.int .i64 c)) := by
  have h1 := hs.trans (hb.mono hs.size)
  exact ⟨b, rfl, hle, (((hB.below hb hB.lt).put 0 _).put 1 _).put 2 _, ((h1.setCell hle _).setCell hle _).setCell hle _⟩
theorem grown_one {w wc : World} {r : Nat} (h : w.grownBy wc (some r)) (i : Nat) (u : Value) : w.grownBy (wc.setCell ⟨r, i, none⟩ u) (some r) :=
  ⟨h.os, h.tape, h.output, by simpa [World.setCell] using h.size, fun k hk hne => (Below.heap_setCell wc ⟨r, i, none⟩ u k (fun e => hne (by rw [e]))).trans (h.block k hk hne)⟩
theorem grown_drew {w wc : World} {row : Option Nat} (h : w.grownBy wc row) : w.grownBy wc.drew row := ⟨h.os, h.tape, h.output, h.size, h.block⟩
theorem grown_below {w wc : World} {row : Option Nat} (h : Below w.heap.size w wc) : w.grownBy wc row := ⟨h.os, h.tape, h.output, h.size, fun k hk _ => h.block k hk⟩

set_option maxHeartbeats 4000000 in
theorem implNum_of (r : Nat) (s : ByteArray) (q : Int) (v : Int) (a c : Int) (w : World) (hg : Handle w) (hR : Blk w r 48 [.string s, .int .i64 q, .bool false])
    (GN : Hid (∀ W, Handle W → Calls Tryd.prog 47 #[.string s, .int .i64 q] W fun e w' => e = .returned (numOut v a c) ∧ Below W.heap.size W w')) :
    Calls Tryd.prog 33 #[.pointer (some ⟨r, 0, none⟩)] w fun e w' => e = .returned (.int .i64 v) ∧ Blk w' r 48 [.string s, .int .i64 a, .bool (c != 0)] ∧ w.grownBy w' (some r) := by
  have r2 := hR.cell (i := 2) rfl
  go_enter Tryd.func33, Tryd.ntmps33
  go_upto_region 3 with (fail)
  go_cut [3] (fun y wx => RCut w 65 (.int .i64 v) a c y wx)
  case first =>
    have hsd : Below w.heap.size w w.drew := below_drew (Below.refl _ _)
    have al1 := (Below.refl w.heap.size w).alloc (Nat.le_refl _) (.cells #[.int .i64 0, .int .i64 0, .int .i64 0] 65)
    have al0 : Below w.drew.heap.size w.drew (w.alloc (.cells #[.int .i64 0, .int .i64 0, .int .i64 0] 65)).drew := ⟨al1.os, al1.tape, al1.output, al1.size, al1.block⟩
    have hsa : Below w.heap.size w (w.alloc (.cells #[.int .i64 0, .int .i64 0, .int .i64 0] 65)).drew := below_drew al1
    clear al1
    have x0 : w.drew.cell? ⟨r, 0, none⟩ = some (.string s) ∧ w.drew.cell? ⟨r, 1, none⟩ = some (.int .i64 q) := ⟨hR.cell (i := 0) rfl, hR.cell (i := 1) rfl⟩
    have x0a : (w.alloc (.cells #[.int .i64 0, .int .i64 0, .int .i64 0] 65)).drew.cell? ⟨r, 0, none⟩ = some (.string s) ∧ (w.alloc (.cells #[.int .i64 0, .int .i64 0, .int .i64 0] 65)).drew.cell? ⟨r, 1, none⟩ = some (.int .i64 q) := ⟨kept_cell al0 x0.1, kept_cell al0 x0.2⟩
    have hBa := (Blk.fresh w 65 [.int .i64 0, .int .i64 0, .int .i64 0]).drew
    have hrl := hR.lt
    go_region_held3 (fun W => W.cell? ⟨r, 0, none⟩ = some (.string s) ∧ W.cell? ⟨r, 1, none⟩ = some (.int .i64 q))
      (first
        | exact x0
        | exact x0a
        | exact x1
        | exact ⟨kept_cell ((Below.refl v1.heap.size v1).alloc (Nat.le_refl _) (.cells #[.int .i64 0, .int .i64 0, .int .i64 0] 65)) x1.1, kept_cell ((Below.refl v1.heap.size v1).alloc (Nat.le_refl _) (.cells #[.int .i64 0, .int .i64 0, .int .i64 0] 65)) x1.2⟩
        | exact ⟨kept_cell ((Below.refl v1.heap.size v1).alloc (Nat.le_refl _) _) x1.1, kept_cell ((Below.refl v1.heap.size v1).alloc (Nat.le_refl _) _) x1.2⟩
        | exact ⟨cell_put_far (cell_put_far (cell_put_far x1.1 (Nat.ne_of_lt hrl) _) (Nat.ne_of_lt hrl) _) (Nat.ne_of_lt hrl) _, cell_put_far (cell_put_far (cell_put_far x1.2 (Nat.ne_of_lt hrl) _) (Nat.ne_of_lt hrl) _) (Nat.ne_of_lt hrl) _⟩
        | exact ⟨cell_put_far (cell_put_far (cell_put_far x1.1 (Nat.ne_of_lt (Nat.lt_of_lt_of_le hrl hz1)) _) (Nat.ne_of_lt (Nat.lt_of_lt_of_le hrl hz1)) _) (Nat.ne_of_lt (Nat.lt_of_lt_of_le hrl hz1)) _, cell_put_far (cell_put_far (cell_put_far x1.2 (Nat.ne_of_lt (Nat.lt_of_lt_of_le hrl hz1)) _) (Nat.ne_of_lt (Nat.lt_of_lt_of_le hrl hz1)) _) (Nat.ne_of_lt (Nat.lt_of_lt_of_le hrl hz1)) _⟩)
      (first
        | (go_at_call 47; first
            | ((with_reducible refine (GN.out w.drew (Handle.below hg hsd)).mono ?_); rintro e v1 ⟨rfl, hb1⟩; have hs1 := hsd; have x1 : v1.cell? ⟨r, 0, none⟩ = some (.string s) ∧ v1.cell? ⟨r, 1, none⟩ = some (.int .i64 q) := ⟨kept_cell hb1 x0.1, kept_cell hb1 x0.2⟩; have hz1 : w.heap.size ≤ v1.heap.size := hb1.size)
            | ((with_reducible refine (GN.out (w.alloc (.cells #[.int .i64 0, .int .i64 0, .int .i64 0] 65)).drew (Handle.below hg hsa)).mono ?_); rintro e v1 ⟨rfl, hb1⟩; have hs1 := hsa; have x1 : v1.cell? ⟨r, 0, none⟩ = some (.string s) ∧ v1.cell? ⟨r, 1, none⟩ = some (.int .i64 q) := ⟨kept_cell hb1 x0a.1, kept_cell hb1 x0a.2⟩; have hB1 := (hBa).below hb1 hBa.lt; have u0 := hB1.cell (i := 0) rfl; have u1 := hB1.cell (i := 1) rfl; have u2 := hB1.cell (i := 2) rfl; have z0 := hB1.froz 0; have z1 := hB1.froz 1; have z2 := hB1.froz 2; have hz1 : w.heap.size ≤ v1.heap.size := Nat.le_trans (by simp) hb1.size)))
    all_goals
      go_wp2_with (fail)
      go_meet
      case rel => first | exact rc_late hb1 hs1 | exact rc_early hb1 hs1 hBa (Nat.le_refl _)
  case rest =>
    obtain ⟨bx, rfl, hbb, hBx, hwx⟩ := hcut
    have hRx := hR.below hwx hR.lt
    have hrl := hR.lt
    have hbx := hBx.lt
    have y0 := hBx.cell (i := 0) rfl
    have y1 := hBx.cell (i := 1) rfl
    have y2 := hBx.cell (i := 2) rfl
    have r0 := hRx.cell (i := 0) rfl
    have r1 := hRx.cell (i := 1) rfl
    have r2 := hRx.cell (i := 2) rfl
    have f0 := hRx.froz 0
    have f1 := hRx.froz 1
    have f2 := hRx.froz 2
    clear r2
    have r2 := hRx.cell (i := 2) rfl
    go_wp2_with (fail)
    go_region
    have hq := cell_put_far (cell_put_far y0 (show bx ≠ r by omega) (p := ⟨r, 1, none⟩) (.int .i64 a)) (show bx ≠ r by omega) (p := ⟨r, 2, none⟩) (.bool (c != 0))
    have hF := (hRx.put 1 (.int .i64 a)).put 2 (.bool (c != 0))
    have hG := grown_drew (grown_one (grown_one (grown_below (row := some r) hwx) 1 (.int .i64 a)) 2 (.bool (c != 0)))
    generalize (wc.setCell ⟨r, 1, none⟩ (.int .i64 a)).setCell ⟨r, 2, none⟩ (.bool (c != 0)) = wf at hq hF hG ⊢
    replace hq : wf.drew.cell? ⟨bx, 0, none⟩ = _ := hq
    clear y0 y1 y2 r0 r1 r2 f0 f1 f2
    go_wp2
    go_ret
    exact ⟨rfl, hF.drew, hG⟩
theorem implNum_bad (r : Nat) (s : ByteArray) (q : Int) (w : World) (hR : Blk w r 48 [.string s, .int .i64 q, .bool true]) :
    Calls Tryd.prog 33 #[.pointer (some ⟨r, 0, none⟩)] w fun e w' => e = .returned (.int .i64 0) ∧ w' = w := by
  have r2 := hR.cell (i := 2) rfl
  go_enter Tryd.func33, Tryd.ntmps33
  go_wp2
  go_ret
  exact ⟨rfl, rfl⟩

set_option maxHeartbeats 4000000 in
theorem implText_of (r : Nat) (s : ByteArray) (q : Int) (v : ByteArray) (a c : Int) (w : World) (hg : Handle w) (hR : Blk w r 48 [.string s, .int .i64 q, .bool false])
    (GN : Hid (∀ W, Handle W → Calls Tryd.prog 48 #[.string s, .int .i64 q] W fun e w' => e = .returned (textOut v a c) ∧ Below W.heap.size W w')) :
    Calls Tryd.prog 34 #[.pointer (some ⟨r, 0, none⟩)] w fun e w' => e = .returned (.string v) ∧ Blk w' r 48 [.string s, .int .i64 a, .bool (c != 0)] ∧ w.grownBy w' (some r) := by
  have r2 := hR.cell (i := 2) rfl
  go_enter Tryd.func34, Tryd.ntmps34
  go_upto_region 3 with (fail)
  go_cut [3] (fun y wx => RCut w 68 (.string v) a c y wx)
  case first =>
    have hsd : Below w.heap.size w w.drew := below_drew (Below.refl _ _)
    have al1 := (Below.refl w.heap.size w).alloc (Nat.le_refl _) (.cells #[.string ⟨#[]⟩, .int .i64 0, .int .i64 0] 68)
    have al0 : Below w.drew.heap.size w.drew (w.alloc (.cells #[.string ⟨#[]⟩, .int .i64 0, .int .i64 0] 68)).drew := ⟨al1.os, al1.tape, al1.output, al1.size, al1.block⟩
    have hsa : Below w.heap.size w (w.alloc (.cells #[.string ⟨#[]⟩, .int .i64 0, .int .i64 0] 68)).drew := below_drew al1
    clear al1
    have x0 : w.drew.cell? ⟨r, 0, none⟩ = some (.string s) ∧ w.drew.cell? ⟨r, 1, none⟩ = some (.int .i64 q) := ⟨hR.cell (i := 0) rfl, hR.cell (i := 1) rfl⟩
    have x0a : (w.alloc (.cells #[.string ⟨#[]⟩, .int .i64 0, .int .i64 0] 68)).drew.cell? ⟨r, 0, none⟩ = some (.string s) ∧ (w.alloc (.cells #[.string ⟨#[]⟩, .int .i64 0, .int .i64 0] 68)).drew.cell? ⟨r, 1, none⟩ = some (.int .i64 q) := ⟨kept_cell al0 x0.1, kept_cell al0 x0.2⟩
    have hBa := (Blk.fresh w 68 [.string ⟨#[]⟩, .int .i64 0, .int .i64 0]).drew
    have hrl := hR.lt
    go_region_held3 (fun W => W.cell? ⟨r, 0, none⟩ = some (.string s) ∧ W.cell? ⟨r, 1, none⟩ = some (.int .i64 q))
      (first
        | exact x0
        | exact x0a
        | exact x1
        | exact ⟨kept_cell ((Below.refl v1.heap.size v1).alloc (Nat.le_refl _) (.cells #[.string ⟨#[]⟩, .int .i64 0, .int .i64 0] 68)) x1.1, kept_cell ((Below.refl v1.heap.size v1).alloc (Nat.le_refl _) (.cells #[.string ⟨#[]⟩, .int .i64 0, .int .i64 0] 68)) x1.2⟩
        | exact ⟨kept_cell ((Below.refl v1.heap.size v1).alloc (Nat.le_refl _) _) x1.1, kept_cell ((Below.refl v1.heap.size v1).alloc (Nat.le_refl _) _) x1.2⟩
        | exact ⟨cell_put_far (cell_put_far (cell_put_far x1.1 (Nat.ne_of_lt hrl) _) (Nat.ne_of_lt hrl) _) (Nat.ne_of_lt hrl) _, cell_put_far (cell_put_far (cell_put_far x1.2 (Nat.ne_of_lt hrl) _) (Nat.ne_of_lt hrl) _) (Nat.ne_of_lt hrl) _⟩
        | exact ⟨cell_put_far (cell_put_far (cell_put_far x1.1 (Nat.ne_of_lt (Nat.lt_of_lt_of_le hrl hz1)) _) (Nat.ne_of_lt (Nat.lt_of_lt_of_le hrl hz1)) _) (Nat.ne_of_lt (Nat.lt_of_lt_of_le hrl hz1)) _, cell_put_far (cell_put_far (cell_put_far x1.2 (Nat.ne_of_lt (Nat.lt_of_lt_of_le hrl hz1)) _) (Nat.ne_of_lt (Nat.lt_of_lt_of_le hrl hz1)) _) (Nat.ne_of_lt (Nat.lt_of_lt_of_le hrl hz1)) _⟩)
      (first
        | (go_at_call 48; first
            | ((with_reducible refine (GN.out w.drew (Handle.below hg hsd)).mono ?_); rintro e v1 ⟨rfl, hb1⟩; have hs1 := hsd; have x1 : v1.cell? ⟨r, 0, none⟩ = some (.string s) ∧ v1.cell? ⟨r, 1, none⟩ = some (.int .i64 q) := ⟨kept_cell hb1 x0.1, kept_cell hb1 x0.2⟩; have hz1 : w.heap.size ≤ v1.heap.size := hb1.size)
            | ((with_reducible refine (GN.out (w.alloc (.cells #[.string ⟨#[]⟩, .int .i64 0, .int .i64 0] 68)).drew (Handle.below hg hsa)).mono ?_); rintro e v1 ⟨rfl, hb1⟩; have hs1 := hsa; have x1 : v1.cell? ⟨r, 0, none⟩ = some (.string s) ∧ v1.cell? ⟨r, 1, none⟩ = some (.int .i64 q) := ⟨kept_cell hb1 x0a.1, kept_cell hb1 x0a.2⟩; have hB1 := (hBa).below hb1 hBa.lt; have u0 := hB1.cell (i := 0) rfl; have u1 := hB1.cell (i := 1) rfl; have u2 := hB1.cell (i := 2) rfl; have z0 := hB1.froz 0; have z1 := hB1.froz 1; have z2 := hB1.froz 2; have hz1 : w.heap.size ≤ v1.heap.size := Nat.le_trans (by simp) hb1.size)))
    all_goals
      go_wp2_with (fail)
      go_meet
      case rel => first | exact rc_late hb1 hs1 | exact rc_early hb1 hs1 hBa (Nat.le_refl _)
  case rest =>
    obtain ⟨bx, rfl, hbb, hBx, hwx⟩ := hcut
    have hRx := hR.below hwx hR.lt
    have hrl := hR.lt
    have hbx := hBx.lt
    have y0 := hBx.cell (i := 0) rfl
    have y1 := hBx.cell (i := 1) rfl
    have y2 := hBx.cell (i := 2) rfl
    have r0 := hRx.cell (i := 0) rfl
    have r1 := hRx.cell (i := 1) rfl
    have r2 := hRx.cell (i := 2) rfl
    have f0 := hRx.froz 0
    have f1 := hRx.froz 1
    have f2 := hRx.froz 2
    clear r2
    have r2 := hRx.cell (i := 2) rfl
    go_wp2_with (fail)
    go_region
    have hq := cell_put_far (cell_put_far y0 (show bx ≠ r by omega) (p := ⟨r, 1, none⟩) (.int .i64 a)) (show bx ≠ r by omega) (p := ⟨r, 2, none⟩) (.bool (c != 0))
    have hF := (hRx.put 1 (.int .i64 a)).put 2 (.bool (c != 0))
    have hG := grown_drew (grown_one (grown_one (grown_below (row := some r) hwx) 1 (.int .i64 a)) 2 (.bool (c != 0)))
    generalize (wc.setCell ⟨r, 1, none⟩ (.int .i64 a)).setCell ⟨r, 2, none⟩ (.bool (c != 0)) = wf at hq hF hG ⊢
    replace hq : wf.drew.cell? ⟨bx, 0, none⟩ = _ := hq
    clear y0 y1 y2 r0 r1 r2 f0 f1 f2
    go_wp2
    go_ret
    exact ⟨rfl, hF.drew, hG⟩
theorem implText_bad (r : Nat) (s : ByteArray) (q : Int) (w : World) (hR : Blk w r 48 [.string s, .int .i64 q, .bool true]) :
    Calls Tryd.prog 34 #[.pointer (some ⟨r, 0, none⟩)] w fun e w' => e = .returned (.string ⟨#[]⟩) ∧ w' = w := by
  have r2 := hR.cell (i := 2) rfl
  go_enter Tryd.func34, Tryd.ntmps34
  go_wp2
  go_ret
  exact ⟨rfl, rfl⟩
end Go.Proofs.YtpgodphnjeifhaaDoor
