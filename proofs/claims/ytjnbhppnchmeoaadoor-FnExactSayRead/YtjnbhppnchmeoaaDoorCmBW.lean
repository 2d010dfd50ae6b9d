/- impl.CommandRead. The readers of fields: spec. An argument that is a command; toCommand, szCommand. CommandBytes: spec and impl answer alike. -/
import Derived.Test.YtjnbhppnchmeoaaDoorCmRdIW
import Derived.Test.YtjnbhppnchmeoaaDoorRdW
import Derived.BigRegion
import Derived.Deep.RegionHeld3
import Derived.Deep.DeepCutAuto
import Derived.WideShapes
import Derived.ChangeSame
import Derived.Test.YtjnbhppnchmeoaaDoorCmMathW
namespace Go.Proofs.YtjnbhppnchmeoaaDoor
open Go.RowKit
set_option linter.unusedVariables false
set_option linter.unusedSimpArgs false
set_option maxRecDepth 1000000

/-- A command and a code. -/
abbrev coutV (a b k : Int) (t g x : ByteArray) (n cd : Int) : Value := .agg #[.int .i64 a, .int .i64 b, .int .i64 k, .string t, .string g, .string x, .int .i64 n, .int .i64 cd]
def Cmd.out (c : Cmd) (cd : Int) : Value := coutV c.client c.number c.kind c.topic c.group c.text c.n cd
/-- CommandRead. -/
noncomputable def goodR (s : ByteArray) : Bool := ((readC s).2 == some s.size) && cmdB (readC s).1
noncomputable def readCmd (s : ByteArray) : Cmd × Int := if 20000 < s.size then (Cmd.zero, 2) else if goodR s = true then ((readC s).1, 0) else (Cmd.zero, 3)
theorem below_grown {w W W' : World} {r : Nat} (h : Below w.heap.size w W) (hg : W.grownBy W' (some r)) (hr : w.heap.size ≤ r) : Below w.heap.size w W' :=
  ⟨hg.os.trans h.os, hg.tape.trans h.tape, hg.output.trans h.output, Nat.le_trans h.size hg.size, fun k hk => (hg.block k (Nat.lt_of_lt_of_le hk h.size) (fun e => by have := Option.some.inj e; omega)).trans (h.block k hk)⟩
theorem read_small {s : ByteArray} (hs : s.size ≤ 20000) : (readC s).1.small := by
  have key : ∀ o, (rT s o).1.size ≤ s.size := by
    intro o
    cases o with
    | none => exact Nat.zero_le _
    | some p =>
      cases hr : gt s p with
      | error c => simp only [rT, hr]; exact Nat.zero_le _
      | ok x => obtain ⟨t, q⟩ := x; simp only [rT, hr]; exact (gt_ok hr).1
  have hm : s.size ≤ maxLen := by unfold maxLen; omega
  exact ⟨Nat.le_trans (key _) hm, Nat.le_trans (key _) hm, Nat.le_trans (key _) hm⟩

end Go.Proofs.YtjnbhppnchmeoaaDoor

namespace Go.Proofs.YtjnbhppnchmeoaaDoor
open Go.RowKit
set_option linter.unusedVariables false
set_option linter.unusedSimpArgs false
set_option maxRecDepth 1000000

set_option maxHeartbeats 4000000 in
theorem specNum_bad (r : Nat) (s : ByteArray) (q : Int) (v : Int) (a c : Int) (w : World) (hR : Blk w r 42 [.string s, .int .i64 q, .bool true])
    (GN : Hid (∀ W, Calls Tryd.prog 37 #[.string s, .int .i64 q] W fun e w' => e = .returned (numOut v a c) ∧ Below W.heap.size W w')) :
    Calls Tryd.prog 17 #[.pointer (some ⟨r, 0, none⟩)] w fun e w' => e = .returned (.int .i64 0) ∧ Blk w' r 42 [.string s, .int .i64 q, .bool true] ∧ w.grownBy w' (some r) := by
  go_enter Tryd.func17, Tryd.ntmps17
  go_upto_region 1 with (fail)
  go_cut [3] (fun y wx => RCut w 75 (.int .i64 v) a c y wx)
  case first =>
    have hsd : Below w.heap.size w w.drew := below_drew (Below.refl _ _)
    have al1 := (Below.refl w.heap.size w).alloc (Nat.le_refl _) (.cells #[.int .i64 0, .int .i64 0, .int .i64 0] 75)
    have al0 : Below w.drew.heap.size w.drew (w.alloc (.cells #[.int .i64 0, .int .i64 0, .int .i64 0] 75)).drew := ⟨al1.os, al1.tape, al1.output, al1.size, al1.block⟩
    have hsa : Below w.heap.size w (w.alloc (.cells #[.int .i64 0, .int .i64 0, .int .i64 0] 75)).drew := below_drew al1
    clear al1
    have x0 : w.drew.cell? ⟨r, 0, none⟩ = some (.string s) ∧ w.drew.cell? ⟨r, 1, none⟩ = some (.int .i64 q) := ⟨hR.cell (i := 0) rfl, hR.cell (i := 1) rfl⟩
    have x0a : (w.alloc (.cells #[.int .i64 0, .int .i64 0, .int .i64 0] 75)).drew.cell? ⟨r, 0, none⟩ = some (.string s) ∧ (w.alloc (.cells #[.int .i64 0, .int .i64 0, .int .i64 0] 75)).drew.cell? ⟨r, 1, none⟩ = some (.int .i64 q) := ⟨kept_cell al0 x0.1, kept_cell al0 x0.2⟩
    have hBa := (Blk.fresh w 75 [.int .i64 0, .int .i64 0, .int .i64 0]).drew
    have hrl := hR.lt
    go_region_held3 (fun W => W.cell? ⟨r, 0, none⟩ = some (.string s) ∧ W.cell? ⟨r, 1, none⟩ = some (.int .i64 q))
      (first
        | exact x0
        | exact x0a
        | exact x1
        | exact ⟨kept_cell ((Below.refl v1.heap.size v1).alloc (Nat.le_refl _) (.cells #[.int .i64 0, .int .i64 0, .int .i64 0] 75)) x1.1, kept_cell ((Below.refl v1.heap.size v1).alloc (Nat.le_refl _) (.cells #[.int .i64 0, .int .i64 0, .int .i64 0] 75)) x1.2⟩
        | exact ⟨kept_cell ((Below.refl v1.heap.size v1).alloc (Nat.le_refl _) _) x1.1, kept_cell ((Below.refl v1.heap.size v1).alloc (Nat.le_refl _) _) x1.2⟩
        | exact ⟨cell_put_far (cell_put_far (cell_put_far x1.1 (Nat.ne_of_lt hrl) _) (Nat.ne_of_lt hrl) _) (Nat.ne_of_lt hrl) _, cell_put_far (cell_put_far (cell_put_far x1.2 (Nat.ne_of_lt hrl) _) (Nat.ne_of_lt hrl) _) (Nat.ne_of_lt hrl) _⟩
        | exact ⟨cell_put_far (cell_put_far (cell_put_far x1.1 (Nat.ne_of_lt (Nat.lt_of_lt_of_le hrl hz1)) _) (Nat.ne_of_lt (Nat.lt_of_lt_of_le hrl hz1)) _) (Nat.ne_of_lt (Nat.lt_of_lt_of_le hrl hz1)) _, cell_put_far (cell_put_far (cell_put_far x1.2 (Nat.ne_of_lt (Nat.lt_of_lt_of_le hrl hz1)) _) (Nat.ne_of_lt (Nat.lt_of_lt_of_le hrl hz1)) _) (Nat.ne_of_lt (Nat.lt_of_lt_of_le hrl hz1)) _⟩)
      (first
        | (go_at_call 37; first
            | ((with_reducible refine (GN.out w.drew).mono ?_); rintro e v1 ⟨rfl, hb1⟩; have hs1 := hsd; have x1 : v1.cell? ⟨r, 0, none⟩ = some (.string s) ∧ v1.cell? ⟨r, 1, none⟩ = some (.int .i64 q) := ⟨kept_cell hb1 x0.1, kept_cell hb1 x0.2⟩; have hz1 : w.heap.size ≤ v1.heap.size := hb1.size)
            | ((with_reducible refine (GN.out (w.alloc (.cells #[.int .i64 0, .int .i64 0, .int .i64 0] 75)).drew).mono ?_); rintro e v1 ⟨rfl, hb1⟩; have hs1 := hsa; have x1 : v1.cell? ⟨r, 0, none⟩ = some (.string s) ∧ v1.cell? ⟨r, 1, none⟩ = some (.int .i64 q) := ⟨kept_cell hb1 x0a.1, kept_cell hb1 x0a.2⟩; have hB1 := (hBa).below hb1 hBa.lt; have u0 := hB1.cell (i := 0) rfl; have u1 := hB1.cell (i := 1) rfl; have u2 := hB1.cell (i := 2) rfl; have z0 := hB1.froz 0; have z1 := hB1.froz 1; have z2 := hB1.froz 2; have hz1 : w.heap.size ≤ v1.heap.size := Nat.le_trans (by simp) hb1.size)))
    all_goals
      go_wp2_with (fail)
      go_meet
      case rel => first | exact rc_late hb1 hs1 | exact rc_early hb1 hs1 hBa (Nat.le_refl _)
  case rest =>
    obtain ⟨bx, rfl, hbb, hBx, hwx⟩ := hcut
    have hRx := hR.below hwx hR.lt
    have hrl := hR.lt
    have hbx := hBx.lt
    have y0 := hBx.cell (i := 0) rfl
    have y1 := hBx.cell (i := 1) rfl
    have y2 := hBx.cell (i := 2) rfl
    have r0 := hRx.cell (i := 0) rfl
    have r1 := hRx.cell (i := 1) rfl
    have r2 := hRx.cell (i := 2) rfl
    have f0 := hRx.froz 0
    have f1 := hRx.froz 1
    have f2 := hRx.froz 2
    go_wp2
    go_ret
    exact ⟨rfl, hRx.put 2 (.bool true), grown_one (grown_below (row := some r) hwx) 2 (.bool true)⟩

set_option maxHeartbeats 4000000 in
theorem specNum_err (r : Nat) (s : ByteArray) (q : Int) (v : Int) (a c : Int) (w : World) (hR : Blk w r 42 [.string s, .int .i64 q, .bool false]) (hc : (c != 0) = true)
    (GN : Hid (∀ W, Calls Tryd.prog 37 #[.string s, .int .i64 q] W fun e w' => e = .returned (numOut v a c) ∧ Below W.heap.size W w')) :
    Calls Tryd.prog 17 #[.pointer (some ⟨r, 0, none⟩)] w fun e w' => e = .returned (.int .i64 0) ∧ Blk w' r 42 [.string s, .int .i64 q, .bool true] ∧ w.grownBy w' (some r) := by
  go_enter Tryd.func17, Tryd.ntmps17
  go_upto_region 1 with (fail)
  go_cut [3] (fun y wx => RCut w 75 (.int .i64 v) a c y wx)
  case first =>
    have hsd : Below w.heap.size w w.drew := below_drew (Below.refl _ _)
    have al1 := (Below.refl w.heap.size w).alloc (Nat.le_refl _) (.cells #[.int .i64 0, .int .i64 0, .int .i64 0] 75)
    have al0 : Below w.drew.heap.size w.drew (w.alloc (.cells #[.int .i64 0, .int .i64 0, .int .i64 0] 75)).drew := ⟨al1.os, al1.tape, al1.output, al1.size, al1.block⟩
    have hsa : Below w.heap.size w (w.alloc (.cells #[.int .i64 0, .int .i64 0, .int .i64 0] 75)).drew := below_drew al1
    clear al1
    have x0 : w.drew.cell? ⟨r, 0, none⟩ = some (.string s) ∧ w.drew.cell? ⟨r, 1, none⟩ = some (.int .i64 q) := ⟨hR.cell (i := 0) rfl, hR.cell (i := 1) rfl⟩
    have x0a : (w.alloc (.cells #[.int .i64 0, .int .i64 0, .int .i64 0] 75)).drew.cell? ⟨r, 0, none⟩ = some (.string s) ∧ (w.alloc (.cells #[.int .i64 0, .int .i64 0, .int .i64 0] 75)).drew.cell? ⟨r, 1, none⟩ = some (.int .i64 q) := ⟨kept_cell al0 x0.1, kept_cell al0 x0.2⟩
    have hBa := (Blk.fresh w 75 [.int .i64 0, .int .i64 0, .int .i64 0]).drew
    have hrl := hR.lt
    go_region_held3 (fun W => W.cell? ⟨r, 0, none⟩ = some (.string s) ∧ W.cell? ⟨r, 1, none⟩ = some (.int .i64 q))
      (first
        | exact x0
        | exact x0a
        | exact x1
        | exact ⟨kept_cell ((Below.refl v1.heap.size v1).alloc (Nat.le_refl _) (.cells #[.int .i64 0, .int .i64 0, .int .i64 0] 75)) x1.1, kept_cell ((Below.refl v1.heap.size v1).alloc (Nat.le_refl _) (.cells #[.int .i64 0, .int .i64 0, .int .i64 0] 75)) x1.2⟩
        | exact ⟨kept_cell ((Below.refl v1.heap.size v1).alloc (Nat.le_refl _) _) x1.1, kept_cell ((Below.refl v1.heap.size v1).alloc (Nat.le_refl _) _) x1.2⟩
        | exact ⟨cell_put_far (cell_put_far (cell_put_far x1.1 (Nat.ne_of_lt hrl) _) (Nat.ne_of_lt hrl) _) (Nat.ne_of_lt hrl) _, cell_put_far (cell_put_far (cell_put_far x1.2 (Nat.ne_of_lt hrl) _) (Nat.ne_of_lt hrl) _) (Nat.ne_of_lt hrl) _⟩
        | exact ⟨cell_put_far (cell_put_far (cell_put_far x1.1 (Nat.ne_of_lt (Nat.lt_of_lt_of_le hrl hz1)) _) (Nat.ne_of_lt (Nat.lt_of_lt_of_le hrl hz1)) _) (Nat.ne_of_lt (Nat.lt_of_lt_of_le hrl hz1)) _, cell_put_far (cell_put_far (cell_put_far x1.2 (Nat.ne_of_lt (Nat.lt_of_lt_of_le hrl hz1)) _) (Nat.ne_of_lt (Nat.lt_of_lt_of_le hrl hz1)) _) (Nat.ne_of_lt (Nat.lt_of_lt_of_le hrl hz1)) _⟩)
      (first
        | (go_at_call 37; first
            | ((with_reducible refine (GN.out w.drew).mono ?_); rintro e v1 ⟨rfl, hb1⟩; have hs1 := hsd; have x1 : v1.cell? ⟨r, 0, none⟩ = some (.string s) ∧ v1.cell? ⟨r, 1, none⟩ = some (.int .i64 q) := ⟨kept_cell hb1 x0.1, kept_cell hb1 x0.2⟩; have hz1 : w.heap.size ≤ v1.heap.size := hb1.size)
            | ((with_reducible refine (GN.out (w.alloc (.cells #[.int .i64 0, .int .i64 0, .int .i64 0] 75)).drew).mono ?_); rintro e v1 ⟨rfl, hb1⟩; have hs1 := hsa; have x1 : v1.cell? ⟨r, 0, none⟩ = some (.string s) ∧ v1.cell? ⟨r, 1, none⟩ = some (.int .i64 q) := ⟨kept_cell hb1 x0a.1, kept_cell hb1 x0a.2⟩; have hB1 := (hBa).below hb1 hBa.lt; have u0 := hB1.cell (i := 0) rfl; have u1 := hB1.cell (i := 1) rfl; have u2 := hB1.cell (i := 2) rfl; have z0 := hB1.froz 0; have z1 := hB1.froz 1; have z2 := hB1.froz 2; have hz1 : w.heap.size ≤ v1.heap.size := Nat.le_trans (by simp) hb1.size)))
    all_goals
      go_wp2_with (fail)
      go_meet
      case rel => first | exact rc_late hb1 hs1 | exact rc_early hb1 hs1 hBa (Nat.le_refl _)
  case rest =>
    obtain ⟨bx, rfl, hbb, hBx, hwx⟩ := hcut
    have hRx := hR.below hwx hR.lt
    have hrl := hR.lt
    have hbx := hBx.lt
    have y0 := hBx.cell (i := 0) rfl
    have y1 := hBx.cell (i := 1) rfl
    have y2 := hBx.cell (i := 2) rfl
    have r0 := hRx.cell (i := 0) rfl
    have r1 := hRx.cell (i := 1) rfl
    have r2 := hRx.cell (i := 2) rfl
    have f0 := hRx.froz 0
    have f1 := hRx.froz 1
    have f2 := hRx.froz 2
    go_wp2
    go_ret
    exact ⟨rfl, hRx.put 2 (.bool true), grown_one (grown_below (row := some r) hwx) 2 (.bool true)⟩

set_option maxHeartbeats 4000000 in
theorem specNum_ok (r : Nat) (s : ByteArray) (q : Int) (v : Int) (a c : Int) (w : World) (hR : Blk w r 42 [.string s, .int .i64 q, .bool false]) (hc : (c != 0) = false)
    (GN : Hid (∀ W, Calls Tryd.prog 37 #[.string s, .int .i64 q] W fun e w' => e = .returned (numOut v a c) ∧ Below W.heap.size W w')) :
    Calls Tryd.prog 17 #[.pointer (some ⟨r, 0, none⟩)] w fun e w' => e = .returned (.int .i64 v) ∧ Blk w' r 42 [.string s, .int .i64 a, .bool false] ∧ w.grownBy w' (some r) := by
  go_enter Tryd.func17, Tryd.ntmps17
  go_upto_region 1 with (fail)
  go_cut [3] (fun y wx => RCut w 75 (.int .i64 v) a c y wx)
  case first =>
    have hsd : Below w.heap.size w w.drew := below_drew (Below.refl _ _)
    have al1 := (Below.refl w.heap.size w).alloc (Nat.le_refl _) (.cells #[.int .i64 0, .int .i64 0, .int .i64 0] 75)
    have al0 : Below w.drew.heap.size w.drew (w.alloc (.cells #[.int .i64 0, .int .i64 0, .int .i64 0] 75)).drew := ⟨al1.os, al1.tape, al1.output, al1.size, al1.block⟩
    have hsa : Below w.heap.size w (w.alloc (.cells #[.int .i64 0, .int .i64 0, .int .i64 0] 75)).drew := below_drew al1
    clear al1
    have x0 : w.drew.cell? ⟨r, 0, none⟩ = some (.string s) ∧ w.drew.cell? ⟨r, 1, none⟩ = some (.int .i64 q) := ⟨hR.cell (i := 0) rfl, hR.cell (i := 1) rfl⟩
    have x0a : (w.alloc (.cells #[.int .i64 0, .int .i64 0, .int .i64 0] 75)).drew.cell? ⟨r, 0, none⟩ = some (.string s) ∧ (w.alloc (.cells #[.int .i64 0, .int .i64 0, .int .i64 0] 75)).drew.cell? ⟨r, 1, none⟩ = some (.int .i64 q) := ⟨kept_cell al0 x0.1, kept_cell al0 x0.2⟩
    have hBa := (Blk.fresh w 75 [.int .i64 0, .int .i64 0, .int .i64 0]).drew
    have hrl := hR.lt
    go_region_held3 (fun W => W.cell? ⟨r, 0, none⟩ = some (.string s) ∧ W.cell? ⟨r, 1, none⟩ = some (.int .i64 q))
      (first
        | exact x0
        | exact x0a
        | exact x1
        | exact ⟨kept_cell ((Below.refl v1.heap.size v1).alloc (Nat.le_refl _) (.cells #[.int .i64 0, .int .i64 0, .int .i64 0] 75)) x1.1, kept_cell ((Below.refl v1.heap.size v1).alloc (Nat.le_refl _) (.cells #[.int .i64 0, .int .i64 0, .int .i64 0] 75)) x1.2⟩
        | exact ⟨kept_cell ((Below.refl v1.heap.size v1).alloc (Nat.le_refl _) _) x1.1, kept_cell ((Below.refl v1.heap.size v1).alloc (Nat.le_refl _) _) x1.2⟩
        | exact ⟨cell_put_far (cell_put_far (cell_put_far x1.1 (Nat.ne_of_lt hrl) _) (Nat.ne_of_lt hrl) _) (Nat.ne_of_lt hrl) _, cell_put_far (cell_put_far (cell_put_far x1.2 (Nat.ne_of_lt hrl) _) (Nat.ne_of_lt hrl) _) (Nat.ne_of_lt hrl) _⟩
        | exact ⟨cell_put_far (cell_put_far (cell_put_far x1.1 (Nat.ne_of_lt (Nat.lt_of_lt_of_le hrl hz1)) _) (Nat.ne_of_lt (Nat.lt_of_lt_of_le hrl hz1)) _) (Nat.ne_of_lt (Nat.lt_of_lt_of_le hrl hz1)) _, cell_put_far (cell_put_far (cell_put_far x1.2 (Nat.ne_of_lt (Nat.lt_of_lt_of_le hrl hz1)) _) (Nat.ne_of_lt (Nat.lt_of_lt_of_le hrl hz1)) _) (Nat.ne_of_lt (Nat.lt_of_lt_of_le hrl hz1)) _⟩)
      (first
        | (go_at_call 37; first
            | ((with_reducible refine (GN.out w.drew).mono ?_); rintro e v1 ⟨rfl, hb1⟩; have hs1 := hsd; have x1 : v1.cell? ⟨r, 0, none⟩ = some (.string s) ∧ v1.cell? ⟨r, 1, none⟩ = some (.int .i64 q) := ⟨kept_cell hb1 x0.1, kept_cell hb1 x0.2⟩; have hz1 : w.heap.size ≤ v1.heap.size := hb1.size)
            | ((with_reducible refine (GN.out (w.alloc (.cells #[.int .i64 0, .int .i64 0, .int .i64 0] 75)).drew).mono ?_); rintro e v1 ⟨rfl, hb1⟩; have hs1 := hsa; have x1 : v1.cell? ⟨r, 0, none⟩ = some (.string s) ∧ v1.cell? ⟨r, 1, none⟩ = some (.int .i64 q) := ⟨kept_cell hb1 x0a.1, kept_cell hb1 x0a.2⟩; have hB1 := (hBa).below hb1 hBa.lt; have u0 := hB1.cell (i := 0) rfl; have u1 := hB1.cell (i := 1) rfl; have u2 := hB1.cell (i := 2) rfl; have z0 := hB1.froz 0; have z1 := hB1.froz 1; have z2 := hB1.froz 2; have hz1 : w.heap.size ≤ v1.heap.size := Nat.le_trans (by simp) hb1.size)))
    all_goals
      go_wp2_with (fail)
      go_meet
      case rel => first | exact rc_late hb1 hs1 | exact rc_early hb1 hs1 hBa (Nat.le_refl _)
  case rest =>
    obtain ⟨bx, rfl, hbb, hBx, hwx⟩ := hcut
    have hRx := hR.below hwx hR.lt
    have hrl := hR.lt
    have hbx := hBx.lt
    have y0 := hBx.cell (i := 0) rfl
    have y1 := hBx.cell (i := 1) rfl
    have y2 := hBx.cell (i := 2) rfl
    have r0 := hRx.cell (i := 0) rfl
    have r1 := hRx.cell (i := 1) rfl
    have r2 := hRx.cell (i := 2) rfl
    have f0 := hRx.froz 0
    have f1 := hRx.froz 1
    have f2 := hRx.froz 2
    have hq := cell_put_far y0 (show bx ≠ r by omega) (p := ⟨r, 1, none⟩) (.int .i64 a)
    go_wp2
    go_ret
    exact ⟨rfl, hRx.put 1 (.int .i64 a), grown_one (grown_below (row := some r) hwx) 1 (.int .i64 a)⟩

set_option maxHeartbeats 4000000 in
theorem specText_bad (r : Nat) (s : ByteArray) (q : Int) (v : ByteArray) (a c : Int) (w : World) (hR : Blk w r 42 [.string s, .int .i64 q, .bool true])
    (GN : Hid (∀ W, Calls Tryd.prog 38 #[.string s, .int .i64 q] W fun e w' => e = .returned (textOut v a c) ∧ Below W.heap.size W w')) :
    Calls Tryd.prog 18 #[.pointer (some ⟨r, 0, none⟩)] w fun e w' => e = .returned (.string ⟨#[]⟩) ∧ Blk w' r 42 [.string s, .int .i64 q, .bool true] ∧ w.grownBy w' (some r) := by
  go_enter Tryd.func18, Tryd.ntmps18
  go_upto_region 1 with (fail)
  go_cut [3] (fun y wx => RCut w 78 (.string v) a c y wx)
  case first =>
    have hsd : Below w.heap.size w w.drew := below_drew (Below.refl _ _)
    have al1 := (Below.refl w.heap.size w).alloc (Nat.le_refl _) (.cells #[.string ⟨#[]⟩, .int .i64 0, .int .i64 0] 78)
    have al0 : Below w.drew.heap.size w.drew (w.alloc (.cells #[.string ⟨#[]⟩, .int .i64 0, .int .i64 0] 78)).drew := ⟨al1.os, al1.tape, al1.output, al1.size, al1.block⟩
    have hsa : Below w.heap.size w (w.alloc (.cells #[.string ⟨#[]⟩, .int .i64 0, .int .i64 0] 78)).drew := below_drew al1
    clear al1
    have x0 : w.drew.cell? ⟨r, 0, none⟩ = some (.string s) ∧ w.drew.cell? ⟨r, 1, none⟩ = some (.int .i64 q) := ⟨hR.cell (i := 0) rfl, hR.cell (i := 1) rfl⟩
    have x0a : (w.alloc (.cells #[.string ⟨#[]⟩, .int .i64 0, .int .i64 0] 78)).drew.cell? ⟨r, 0, none⟩ = some (.string s) ∧ (w.alloc (.cells #[.string ⟨#[]⟩, .int .i64 0, .int .i64 0] 78)).drew.cell? ⟨r, 1, none⟩ = some (.int .i64 q) := ⟨kept_cell al0 x0.1, kept_cell al0 x0.2⟩
    have hBa := (Blk.fresh w 78 [.string ⟨#[]⟩, .int .i64 0, .int .i64 0]).drew
    have hrl := hR.lt
    go_region_held3 (fun W => W.cell? ⟨r, 0, none⟩ = some (.string s) ∧ W.cell? ⟨r, 1, none⟩ = some (.int .i64 q))
      (first
        | exact x0
        | exact x0a
        | exact x1
        | exact ⟨kept_cell ((Below.refl v1.heap.size v1).alloc (Nat.le_refl _) (.cells #[.string ⟨#[]⟩, .int .i64 0, .int .i64 0] 78)) x1.1, kept_cell ((Below.refl v1.heap.size v1).alloc (Nat.le_refl _) (.cells #[.string ⟨#[]⟩, .int .i64 0, .int .i64 0] 78)) x1.2⟩
        | exact ⟨kept_cell ((Below.refl v1.heap.size v1).alloc (Nat.le_refl _) _) x1.1, kept_cell ((Below.refl v1.heap.size v1).alloc (Nat.le_refl _) _) x1.2⟩
        | exact ⟨cell_put_far (cell_put_far (cell_put_far x1.1 (Nat.ne_of_lt hrl) _) (Nat.ne_of_lt hrl) _) (Nat.ne_of_lt hrl) _, cell_put_far (cell_put_far (cell_put_far x1.2 (Nat.ne_of_lt hrl) _) (Nat.ne_of_lt hrl) _) (Nat.ne_of_lt hrl) _⟩
        | exact ⟨cell_put_far (cell_put_far (cell_put_far x1.1 (Nat.ne_of_lt (Nat.lt_of_lt_of_le hrl hz1)) _) (Nat.ne_of_lt (Nat.lt_of_lt_of_le hrl hz1)) _) (Nat.ne_of_lt (Nat.lt_of_lt_of_le hrl hz1)) _, cell_put_far (cell_put_far (cell_put_far x1.2 (Nat.ne_of_lt (Nat.lt_of_lt_of_le hrl hz1)) _) (Nat.ne_of_lt (Nat.lt_of_lt_of_le hrl hz1)) _) (Nat.ne_of_lt (Nat.lt_of_lt_of_le hrl hz1)) _⟩)
      (first
        | (go_at_call 38; first
            | ((with_reducible refine (GN.out w.drew).mono ?_); rintro e v1 ⟨rfl, hb1⟩; have hs1 := hsd; have x1 : v1.cell? ⟨r, 0, none⟩ = some (.string s) ∧ v1.cell? ⟨r, 1, none⟩ = some (.int .i64 q) := ⟨kept_cell hb1 x0.1, kept_cell hb1 x0.2⟩; have hz1 : w.heap.size ≤ v1.heap.size := hb1.size)
            | ((with_reducible refine (GN.out (w.alloc (.cells #[.string ⟨#[]⟩, .int .i64 0, .int .i64 0] 78)).drew).mono ?_); rintro e v1 ⟨rfl, hb1⟩; have hs1 := hsa; have x1 : v1.cell? ⟨r, 0, none⟩ = some (.string s) ∧ v1.cell? ⟨r, 1, none⟩ = some (.int .i64 q) := ⟨kept_cell hb1 x0a.1, kept_cell hb1 x0a.2⟩; have hB1 := (hBa).below hb1 hBa.lt; have u0 := hB1.cell (i := 0) rfl; have u1 := hB1.cell (i := 1) rfl; have u2 := hB1.cell (i := 2) rfl; have z0 := hB1.froz 0; have z1 := hB1.froz 1; have z2 := hB1.froz 2; have hz1 : w.heap.size ≤ v1.heap.size := Nat.le_trans (by simp) hb1.size)))
    all_goals
      go_wp2_with (fail)
      go_meet
      case rel => first | exact rc_late hb1 hs1 | exact rc_early hb1 hs1 hBa (Nat.le_refl _)
  case rest =>
    obtain ⟨bx, rfl, hbb, hBx, hwx⟩ := hcut
    have hRx := hR.below hwx hR.lt
    have hrl := hR.lt
    have hbx := hBx.lt
    have y0 := hBx.cell (i := 0) rfl
    have y1 := hBx.cell (i := 1) rfl
    have y2 := hBx.cell (i := 2) rfl
    have r0 := hRx.cell (i := 0) rfl
    have r1 := hRx.cell (i := 1) rfl
    have r2 := hRx.cell (i := 2) rfl
    have f0 := hRx.froz 0
    have f1 := hRx.froz 1
    have f2 := hRx.froz 2
    go_wp2
    go_ret
    exact ⟨rfl, hRx.put 2 (.bool true), grown_one (grown_below (row := some r) hwx) 2 (.bool true)⟩

set_option maxHeartbeats 4000000 in
theorem specText_err (r : Nat) (s : ByteArray) (q : Int) (v : ByteArray) (a c : Int) (w : World) (hR : Blk w r 42 [.string s, .int .i64 q, .bool false]) (hc : (c != 0) = true)
    (GN : Hid (∀ W, Calls Tryd.prog 38 #[.string s, .int .i64 q] W fun e w' => e = .returned (textOut v a c) ∧ Below W.heap.size W w')) :
    Calls Tryd.prog 18 #[.pointer (some ⟨r, 0, none⟩)] w fun e w' => e = .returned (.string ⟨#[]⟩) ∧ Blk w' r 42 [.string s, .int .i64 q, .bool true] ∧ w.grownBy w' (some r) := by
  go_enter Tryd.func18, Tryd.ntmps18
  go_upto_region 1 with (fail)
  go_cut [3] (fun y wx => RCut w 78 (.string v) a c y wx)
  case first =>
    have hsd : Below w.heap.size w w.drew := below_drew (Below.refl _ _)
    have al1 := (Below.refl w.heap.size w).alloc (Nat.le_refl _) (.cells #[.string ⟨#[]⟩, .int .i64 0, .int .i64 0] 78)
    have al0 : Below w.drew.heap.size w.drew (w.alloc (.cells #[.string ⟨#[]⟩, .int .i64 0, .int .i64 0] 78)).drew := ⟨al1.os, al1.tape, al1.output, al1.size, al1.block⟩
    have hsa : Below w.heap.size w (w.alloc (.cells #[.string ⟨#[]⟩, .int .i64 0, .int .i64 0] 78)).drew := below_drew al1
    clear al1
    have x0 : w.drew.cell? ⟨r, 0, none⟩ = some (.string s) ∧ w.drew.cell? ⟨r, 1, none⟩ = some (.int .i64 q) := ⟨hR.cell (i := 0) rfl, hR.cell (i := 1) rfl⟩
    have x0a : (w.alloc (.cells #[.string ⟨#[]⟩, .int .i64 0, .int .i64 0] 78)).drew.cell? ⟨r, 0, none⟩ = some (.string s) ∧ (w.alloc (.cells #[.string ⟨#[]⟩, .int .i64 0, .int .i64 0] 78)).drew.cell? ⟨r, 1, none⟩ = some (.int .i64 q) := ⟨kept_cell al0 x0.1, kept_cell al0 x0.2⟩
    have hBa := (Blk.fresh w 78 [.string ⟨#[]⟩, .int .i64 0, .int .i64 0]).drew
    have hrl := hR.lt
    go_region_held3 (fun W => W.cell? ⟨r, 0, none⟩ = some (.string s) ∧ W.cell? ⟨r, 1, none⟩ = some (.int .i64 q))
      (first
        | exact x0
        | exact x0a
        | exact x1
        | exact ⟨kept_cell ((Below.refl v1.heap.size v1).alloc (Nat.le_refl _) (.cells #[.string ⟨#[]⟩, .int .i64 0, .int .i64 0] 78)) x1.1, kept_cell ((Below.refl v1.heap.size v1).alloc (Nat.le_refl _) (.cells #[.string ⟨#[]⟩, .int .i64 0, .int .i64 0] 78)) x1.2⟩
        | exact ⟨kept_cell ((Below.refl v1.heap.size v1).alloc (Nat.le_refl _) _) x1.1, kept_cell ((Below.refl v1.heap.size v1).alloc (Nat.le_refl _) _) x1.2⟩
        | exact ⟨cell_put_far (cell_put_far (cell_put_far x1.1 (Nat.ne_of_lt hrl) _) (Nat.ne_of_lt hrl) _) (Nat.ne_of_lt hrl) _, cell_put_far (cell_put_far (cell_put_far x1.2 (Nat.ne_of_lt hrl) _) (Nat.ne_of_lt hrl) _) (Nat.ne_of_lt hrl) _⟩
        | exact ⟨cell_put_far (cell_put_far (cell_put_far x1.1 (Nat.ne_of_lt (Nat.lt_of_lt_of_le hrl hz1)) _) (Nat.ne_of_lt (Nat.lt_of_lt_of_le hrl hz1)) _) (Nat.ne_of_lt (Nat.lt_of_lt_of_le hrl hz1)) _, cell_put_far (cell_put_far (cell_put_far x1.2 (Nat.ne_of_lt (Nat.lt_of_lt_of_le hrl hz1)) _) (Nat.ne_of_lt (Nat.lt_of_lt_of_le hrl hz1)) _) (Nat.ne_of_lt (Nat.lt_of_lt_of_le hrl hz1)) _⟩)
      (first
        | (go_at_call 38; first
            | ((with_reducible refine (GN.out w.drew).mono ?_); rintro e v1 ⟨rfl, hb1⟩; have hs1 := hsd; have x1 : v1.cell? ⟨r, 0, none⟩ = some (.string s) ∧ v1.cell? ⟨r, 1, none⟩ = some (.int .i64 q) := ⟨kept_cell hb1 x0.1, kept_cell hb1 x0.2⟩; have hz1 : w.heap.size ≤ v1.heap.size := hb1.size)
            | ((with_reducible refine (GN.out (w.alloc (.cells #[.string ⟨#[]⟩, .int .i64 0, .int .i64 0] 78)).drew).mono ?_); rintro e v1 ⟨rfl, hb1⟩; have hs1 := hsa; have x1 : v1.cell? ⟨r, 0, none⟩ = some (.string s) ∧ v1.cell? ⟨r, 1, none⟩ = some (.int .i64 q) := ⟨kept_cell hb1 x0a.1, kept_cell hb1 x0a.2⟩; have hB1 := (hBa).below hb1 hBa.lt; have u0 := hB1.cell (i := 0) rfl; have u1 := hB1.cell (i := 1) rfl; have u2 := hB1.cell (i := 2) rfl; have z0 := hB1.froz 0; have z1 := hB1.froz 1; have z2 := hB1.froz 2; have hz1 : w.heap.size ≤ v1.heap.size := Nat.le_trans (by simp) hb1.size)))
    all_goals
      go_wp2_with (fail)
      go_meet
      case rel => first | exact rc_late hb1 hs1 | exact rc_early hb1 hs1 hBa (Nat.le_refl _)
  case rest =>
    obtain ⟨bx, rfl, hbb, hBx, hwx⟩ := hcut
    have hRx := hR.below hwx hR.lt
    have hrl := hR.lt
    have hbx := hBx.lt
    have y0 := hBx.cell (i := 0) rfl
    have y1 := hBx.cell (i := 1) rfl
    have y2 := hBx.cell (i := 2) rfl
    have r0 := hRx.cell (i := 0) rfl
    have r1 := hRx.cell (i := 1) rfl
    have r2 := hRx.cell (i := 2) rfl
    have f0 := hRx.froz 0
    have f1 := hRx.froz 1
    have f2 := hRx.froz 2
    go_wp2
    go_ret
    exact ⟨rfl, hRx.put 2 (.bool true), grown_one (grown_below (row := some r) hwx) 2 (.bool true)⟩

set_option maxHeartbeats 4000000 in
theorem specText_ok (r : Nat) (s : ByteArray) (q : Int) (v : ByteArray) (a c : Int) (w : World) (hR : Blk w r 42 [.string s, .int .i64 q, .bool false]) (hc : (c != 0) = false)
    (GN : Hid (∀ W, Calls Tryd.prog 38 #[.string s, .int .i64 q] W fun e w' => e = .returned (textOut v a c) ∧ Below W.heap.size W w')) :
    Calls Tryd.prog 18 #[.pointer (some ⟨r, 0, none⟩)] w fun e w' => e = .returned (.string v) ∧ Blk w' r 42 [.string s, .int .i64 a, .bool false] ∧ w.grownBy w' (some r) := by
  go_enter Tryd.func18, Tryd.ntmps18
  go_upto_region 1 with (fail)
  go_cut [3] (fun y wx => RCut w 78 (.string v) a c y wx)
  case first =>
    have hsd : Below w.heap.size w w.drew := below_drew (Below.refl _ _)
    have al1 := (Below.refl w.heap.size w).alloc (Nat.le_refl _) (.cells #[.string ⟨#[]⟩, .int .i64 0, .int .i64 0] 78)
    have al0 : Below w.drew.heap.size w.drew (w.alloc (.cells #[.string ⟨#[]⟩, .int .i64 0, .int .i64 0] 78)).drew := ⟨al1.os, al1.tape, al1.output, al1.size, al1.block⟩
    have hsa : Below w.heap.size w (w.alloc (.cells #[.string ⟨#[]⟩, .int .i64 0, .int .i64 0] 78)).drew := below_drew al1
    clear al1
    have x0 : w.drew.cell? ⟨r, 0, none⟩ = some (.string s) ∧ w.drew.cell? ⟨r, 1, none⟩ = some (.int .i64 q) := ⟨hR.cell (i := 0) rfl, hR.cell (i := 1) rfl⟩
    have x0a : (w.alloc (.cells #[.string ⟨#[]⟩, .int .i64 0, .int .i64 0] 78)).drew.cell? ⟨r, 0, none⟩ = some (.string s) ∧ (w.alloc (.cells #[.string ⟨#[]⟩, .int .i64 0, .int .i64 0] 78)).drew.cell? ⟨r, 1, none⟩ = some (.int .i64 q) := ⟨kept_cell al0 x0.1, kept_cell al0 x0.2⟩
    have hBa := (Blk.fresh w 78 [.string ⟨#[]⟩, .int .i64 0, .int .i64 0]).drew
    have hrl := hR.lt
    go_region_held3 (fun W => W.cell? ⟨r, 0, none⟩ = some (.string s) ∧ W.cell? ⟨r, 1, none⟩ = some (.int .i64 q))
      (first
        | exact x0
        | exact x0a
        | exact x1
        | exact ⟨kept_cell ((Below.refl v1.heap.size v1).alloc (Nat.le_refl _) (.cells #[.string ⟨#[]⟩, .int .i64 0, .int .i64 0] 78)) x1.1, kept_cell ((Below.refl v1.heap.size v1).alloc (Nat.le_refl _) (.cells #[.string ⟨#[]⟩, .int .i64 0, .int .i64 0] 78)) x1.2⟩
        | exact ⟨kept_cell ((Below.refl v1.heap.size v1).alloc (Nat.le_refl _) _) x1.1, kept_cell ((Below.refl v1.heap.size v1).alloc (Nat.le_refl _) _) x1.2⟩
        | exact ⟨cell_put_far (cell_put_far (cell_put_far x1.1 (Nat.ne_of_lt hrl) _) (Nat.ne_of_lt hrl) _) (Nat.ne_of_lt hrl) _, cell_put_far (cell_put_far (cell_put_far x1.2 (Nat.ne_of_lt hrl) _) (Nat.ne_of_lt hrl) _) (Nat.ne_of_lt hrl) _⟩
        | exact ⟨cell_put_far (cell_put_far (cell_put_far x1.1 (Nat.ne_of_lt (Nat.lt_of_lt_of_le hrl hz1)) _) (Nat.ne_of_lt (Nat.lt_of_lt_of_le hrl hz1)) _) (Nat.ne_of_lt (Nat.lt_of_lt_of_le hrl hz1)) _, cell_put_far (cell_put_far (cell_put_far x1.2 (Nat.ne_of_lt (Nat.lt_of_lt_of_le hrl hz1)) _) (Nat.ne_of_lt (Nat.lt_of_lt_of_le hrl hz1)) _) (Nat.ne_of_lt (Nat.lt_of_lt_of_le hrl hz1)) _⟩)
      (first
        | (go_at_call 38; first
            | ((with_reducible refine (GN.out w.drew).mono ?_); rintro e v1 ⟨rfl, hb1⟩; have hs1 := hsd; have x1 : v1.cell? ⟨r, 0, none⟩ = some (.string s) ∧ v1.cell? ⟨r, 1, none⟩ = some (.int .i64 q) := ⟨kept_cell hb1 x0.1, kept_cell hb1 x0.2⟩; have hz1 : w.heap.size ≤ v1.heap.size := hb1.size)
            | ((with_reducible refine (GN.out (w.alloc (.cells #[.string ⟨#[]⟩, .int .i64 0, .int .i64 0] 78)).drew).mono ?_); rintro e v1 ⟨rfl, hb1⟩; have hs1 := hsa; have x1 : v1.cell? ⟨r, 0, none⟩ = some (.string s) ∧ v1.cell? ⟨r, 1, none⟩ = some (.int .i64 q) := ⟨kept_cell hb1 x0a.1, kept_cell hb1 x0a.2⟩; have hB1 := (hBa).below hb1 hBa.lt; have u0 := hB1.cell (i := 0) rfl; have u1 := hB1.cell (i := 1) rfl; have u2 := hB1.cell (i := 2) rfl; have z0 := hB1.froz 0; have z1 := hB1.froz 1; have z2 := hB1.froz 2; have hz1 : w.heap.size ≤ v1.heap.size := Nat.le_trans (by simp) hb1.size)))
    all_goals
      go_wp2_with (fail)
      go_meet
      case rel => first | exact rc_late hb1 hs1 | exact rc_early hb1 hs1 hBa (Nat.le_refl _)
  case rest =>
    obtain ⟨bx, rfl, hbb, hBx, hwx⟩ := hcut
    have hRx := hR.below hwx hR.lt
    have hrl := hR.lt
    have hbx := hBx.lt
    have y0 := hBx.cell (i := 0) rfl
    have y1 := hBx.cell (i := 1) rfl
    have y2 := hBx.cell (i := 2) rfl
    have r0 := hRx.cell (i := 0) rfl
    have r1 := hRx.cell (i := 1) rfl
    have r2 := hRx.cell (i := 2) rfl
    have f0 := hRx.froz 0
    have f1 := hRx.froz 1
    have f2 := hRx.froz 2
    have hq := cell_put_far y0 (show bx ≠ r by omega) (p := ⟨r, 1, none⟩) (.int .i64 a)
    go_wp2
    go_ret
    exact ⟨rfl, hRx.put 1 (.int .i64 a), grown_one (grown_below (row := some r) hwx) 1 (.int .i64 a)⟩
end Go.Proofs.YtjnbhppnchmeoaaDoor

namespace Go.Proofs.YtjnbhppnchmeoaaDoor
open Go.RowKit Go.ChangeShapes Go.WideShapes
set_option linter.unusedVariables false
set_option maxRecDepth 1000000
/-- The facts of a command that came in. -/
def Cmd.fits (c : Cmd) : Prop := (-9223372036854775808 ≤ c.client ∧ c.client ≤ 9223372036854775807) ∧ (-9223372036854775808 ≤ c.number ∧ c.number ≤ 9223372036854775807) ∧ (-9223372036854775808 ≤ c.kind ∧ c.kind ≤ 9223372036854775807) ∧ (-9223372036854775808 ≤ c.n ∧ c.n ≤ 9223372036854775807) ∧ c.small
end Go.Proofs.YtjnbhppnchmeoaaDoor

namespace Go.Proofs.YtjnbhppnchmeoaaDoor
open Go.RowKit
set_option linter.unusedVariables false
set_option maxRecDepth 1000000
end Go.Proofs.YtjnbhppnchmeoaaDoor
