/- Marks on file systems: written and found again. Rows that calls have made, told by where they lie: what is written into one leaves the others as they are. What the exact laws do with a log. -/
import Derived.Test.YtebkblmejkkhfaaGreatDoorStrW
import Derived.Test.YtebkblmejkkhfaaGreatDoorFilEqW
import Derived.Test.YtebkblmejkkhfaaGreatDoorSgArgW
namespace Go.Proofs.YtebkblmejkkhfaaGreatDoor
open Go.RowKit
set_option linter.unusedVariables false

theorem markFileS_any (A : Option Addr) (L : List Fil) (c base k : Nat) (w : World) (hF : OwnF w base (.slice A L.length c) L) (h0 : 1 ≤ k) (h1 : k + 3 * L.length ≤ 4000000) :
    Calls Tryz.prog 125 #[.slice A L.length c, .int .i64 k] w fun e w' => e = .returned (.int .i64 ((k + 3 * L.length : Nat) : Int)) ∧
      OwnF w' base (.slice A L.length c) (markL L.length k) ∧ w.grownBy w' (A.map (·.block)) := by
  rcases hF.1.2 with ⟨hv, hz⟩ | ⟨g, cap, cur, hv, _⟩
  · have hz' : L = [] := List.eq_nil_of_length_eq_zero hz
    subst hz'
    cases hv
    go_enter Tryz.func125, Tryz.ntmps125
    go_wp2
    go_loop [1, 5] (fun q i => q = .int .i64 k ∧ i = .int .i64 0) (fun _ _ => 0)
    case atStart => exact ⟨rfl, rfl⟩
    case round =>
      obtain ⟨rfl, rfl⟩ := hrel
      go_wp2
      go_ret
      exact ⟨rfl, ⟨World.ownsRow_nil _ _ _ _, by simp [markL]⟩, World.grownBy.refl _ _⟩
  · cases hv
    refine (markFileS_some g L.length c base k L w hF.1 h0 h1).mono fun e w' ⟨he, h2, h3⟩ => ⟨he, ?_, h3⟩
    exact ⟨by rw [markL_len]; exact h2, markL_fits h1⟩
theorem markFs_any (A : Option Addr) (L : List Fil) (c base k : Nat) (w : World) (hF : OwnF w base (.slice A L.length c) L) (h0 : 1 ≤ k) (h1 : k + 3 * L.length ≤ 4000000) :
    Calls Tryz.prog 63 #[.agg #[.slice A L.length c], .int .i64 k] w fun e w' => e = .returned (.int .i64 ((k + 3 * L.length : Nat) : Int)) ∧
      OwnF w' base (.slice A L.length c) (markL L.length k) ∧ w.grownBy w' (A.map (·.block)) := by
  have hb0 : Below w.heap.size w (w.alloc (.cells #[.slice A L.length c] 25)) := (Below.refl _ _).alloc (Nat.le_refl _) _
  have hF1 := hF.below hb0 (Nat.le_refl _)
  go_enter Tryz.func63, Tryz.ntmps63
  go_wp2_with (go_at_call 125; refine (markFileS_any A L c base k _ hF1 h0 h1).mono ?_; rintro e w1 ⟨rfl, hF2, hg⟩)
  go_ret
  exact ⟨rfl, hF2, (World.grownBy_alloc w _ _).andThen hg (fun j e => .inr e)⟩
set_option maxHeartbeats 2000000 in
theorem heldFileS_any (A : Option Addr) (n c k : Nat) (w : World) (hF : Fls w w.heap.size A (markL n k)) (h0 : 1 ≤ k) (h1 : k + 3 * n ≤ 4000000) :
    Calls Tryz.prog 142 #[.slice A n c, .int .i64 k] w fun e w' => e = .returned (.int .i64 ((k + 3 * n : Nat) : Int)) ∧ Below w.heap.size w w' := by
  go_enter Tryz.func142, Tryz.ntmps142
  go_wp2
  go_loopw [1, 5] (fun q i wr => ∃ j : Nat, j ≤ n ∧ i = .int .i64 j ∧ q = .int .i64 ((k + 3 * j : Nat) : Int) ∧ Below w.heap.size w wr) (fun _ i _ => n - (intOf i).toNat)
  case atStart => exact ⟨0, by omega, rfl, rfl, Below.refl _ _⟩
  case round =>
    obtain ⟨j, hj, rfl, rfl, hb⟩ := hrel
    by_cases hlt : j < n
    · have hlt' : (j : Int) < (n : Int) := by omega
      obtain ⟨a, rfl, hab, a0, a1, a2, hff⟩ := (hF.below hb (Nat.le_refl _)).at j (by rw [markL_len]; exact hlt)
      rw [markL_get hlt] at a0 a1 a2
      simp only at a0 a1 a2
      obtain ⟨I, f, hI, g0, gk, gc, ge⟩ := class_grown wr
      have x0 := fun s => kept_cell (gk s) a0
      have M0 := fun W => markText_any (k + 3 * j) W (by omega) (by omega)
      clear a0
      go_wp2
      refine wp_region_kept f (by kernel_rfl) (by kernel_rfl) g0 ?_
      repeat (first
        | go_big_quiet_skip
        | (go_big_quiet_want; go_big_quiet_op; first | go_big_quiet_on | (apply Exists.intro; refine ⟨fun s => ?_, ?_⟩; (go_at_call 117; refine (M0 _).mono ?_; rintro e w4 ⟨rfl, hb4⟩; exact ⟨rfl, gc _ _ hb4⟩); go_big_quiet_on)))
      refine wpQuiet_nil ?_
      intro w5 h5
      have hb5 := ge _ h5
      have a1' := kept_cell hb5 a1
      have a2' := kept_cell hb5 a2
      obtain ⟨I2, f2, hI2, g02, gk2, gc2, ge2⟩ := class_grown w5
      have x1 := fun s => kept_cell (gk2 s) a1'
      have M1 := fun W => markText_any (k + 3 * j + 1) W (by omega) (by omega)
      clear a1 a2 a1' g0 gk gc ge x0
      go_wp2
      refine wp_region_kept f2 (by kernel_rfl) (by kernel_rfl) g02 ?_
      repeat (first
        | go_big_quiet_skip
        | (go_big_quiet_want; go_big_quiet_op; first | go_big_quiet_on | (apply Exists.intro; refine ⟨fun s => ?_, ?_⟩; (go_at_call 117; refine (M1 _).mono ?_; rintro e w4 ⟨rfl, hb4⟩; exact ⟨rfl, gc2 _ _ hb4⟩); go_big_quiet_on)))
      refine wpQuiet_nil ?_
      intro w6 h6
      have hb6 := ge2 _ h6
      have a2'' := kept_cell hb6 a2'
      have hv : ((k + 3 * j + 2 : Nat) : Int) = (k : Int) + 3 * (j : Int) + 1 + 1 := by omega
      rw [hv] at a2''
      clear a2' g02 gk2 gc2 ge2 x1
      go_wp2
      exact ⟨⟨j + 1, by omega, by go_num, by go_num, hb.trans ((hb5.trans (hb6.mono hb5.size)).mono hb.size)⟩, by simp [intOf]; omega⟩
    · obtain rfl : j = n := by omega
      go_wp2
      go_ret
      exact ⟨rfl, hb⟩
theorem heldFs_any (A : Option Addr) (n c k : Nat) (w : World) (hF : Fls w w.heap.size A (markL n k)) (h0 : 1 ≤ k) (h1 : k + 3 * n ≤ 4000000) :
    Calls Tryz.prog 114 #[.agg #[.slice A n c], .int .i64 k] w fun e w' => e = .returned (.int .i64 ((k + 3 * n : Nat) : Int)) ∧ Below w.heap.size w w' := by
  have hb0 : Below w.heap.size w (w.alloc (.cells #[.slice A n c] 25)) := (Below.refl _ _).alloc (Nat.le_refl _) _
  have hF1 := (hF.below hb0 (Nat.le_refl _)).mono hb0.size
  go_enter Tryz.func114, Tryz.ntmps114
  go_wp2_with (go_at_call 142; refine (heldFileS_any A n c k _ hF1 h0 h1).mono ?_; rintro e w1 ⟨rfl, hb1⟩)
  go_ret
  exact ⟨rfl, hb0.trans (hb1.mono hb0.size)⟩
end Go.Proofs.YtebkblmejkkhfaaGreatDoor

namespace Go.Proofs.YtebkblmejkkhfaaGreatDoor
open Go.RowKit
set_option linter.unusedVariables false

/-- A row of the call's own, between block lo and block hi. -/
def Rw (w : World) (lo hi : Nat) (e : TypeId) (size : Nat) (v : Value) (n : Nat) (xs : List Value) : Prop := w.ownsRow lo e size v n xs ∧ ∀ k, v.ownBlock = some k → k < hi
section
variable {w w' : World} {lo hi : Nat} {e : TypeId} {size : Nat} {v : Value} {n : Nat} {xs : List Value}
theorem Rw.of (h : w.ownsRow lo e size v n xs) : Rw w lo w.heap.size e size v n xs := ⟨h, fun k hk => (h.lt k hk).2⟩
theorem Rw.below (h : Rw w lo hi e size v n xs) (hb : Below w.heap.size w w') : Rw w' lo hi e size v n xs := ⟨row_below h.1 hb (Nat.le_refl _), h.2⟩
theorem Rw.at (h : Rw w lo hi e size v n xs) : ∀ k, v.ownBlock = some k → lo ≤ k ∧ k < hi := fun k hk => ⟨(h.1.lt k hk).1, h.2 k hk⟩
theorem Rw.far (h : Rw w lo hi e size v n xs) {row : Option Nat} (hg : w.grownBy w' row) {lo' hi' : Nat} (hr : ∀ k, row = some k → lo' ≤ k ∧ k < hi') (ho : hi ≤ lo' ∨ hi' ≤ lo) : Rw w' lo hi e size v n xs :=
  ⟨h.1.kept hg (by
    cases hv : v.ownBlock with
    | none => exact .inl rfl
    | some k =>
      refine .inr fun hk => ?_
      have h1 := h.at k hv
      have h2 := hr k hk.symm
      omega), h.2⟩
theorem Blk.off {g : Nat} {t : TypeId} {cs : List Value} (h : Blk w g t cs) {row : Option Nat} (hg : w.grownBy w' row) {lo' hi' : Nat} (hr : ∀ k, row = some k → lo' ≤ k ∧ k < hi') (ho : g < lo' ∨ hi' ≤ g) : Blk w' g t cs :=
  h.grown hg fun e => by have := hr g e.symm; omega
theorem below_off {B : Nat} {a : World} (h : Below B a w) {row : Option Nat} (hg : w.grownBy w' row) {lo' hi' : Nat} (hr : ∀ k, row = some k → lo' ≤ k ∧ k < hi') (ho : B ≤ lo') (hB : B ≤ a.heap.size) : Below B a w' :=
  h.grown hg (Nat.le_trans hB h.size) fun k e => by have := hr k e; omega
end
theorem own_blk (A : Option Addr) (n c : Nat) : (Value.slice A n c).ownBlock = A.map (·.block) := by cases A <;> rfl
theorem OwnF.rw {w : World} {lo : Nat} {v : Value} {L : List Fil} (h : OwnF w lo v L) : Rw w lo w.heap.size 53 3 v L.length (flat L) := Rw.of h.1
theorem Rw.fls {w : World} {lo hi n c : Nat} {A : Option Addr} {L : List Fil} (h : Rw w lo hi 53 3 (.slice A n c) L.length (flat L)) (hf : ∀ f ∈ L, f.fits) : Fls w w.heap.size A L := OwnF.fls (base := lo) (c := c) (n := n) ⟨h.1, hf⟩
/-- A file system marked. -/
theorem markFs_rw (A : Option Addr) (L : List Fil) (c lo hi k : Nat) (w : World) (h : Rw w lo hi 53 3 (.slice A L.length c) L.length (flat L)) (hf : ∀ f ∈ L, f.fits) (h0 : 1 ≤ k) (h1 : k + 3 * L.length ≤ 4000000) :
    Calls Tryz.prog 63 #[.agg #[.slice A L.length c], .int .i64 k] w fun e w' => e = .returned (.int .i64 ((k + 3 * L.length : Nat) : Int)) ∧
      Rw w' lo hi 53 3 (.slice A L.length c) (markL L.length k).length (flat (markL L.length k)) ∧ w.grownBy w' (A.map (·.block)) ∧ ∀ f ∈ markL L.length k, f.fits :=
  (markFs_any A L c lo k w ⟨h.1, hf⟩ h0 h1).mono fun e w' ⟨he, h2, h3⟩ => ⟨he, ⟨h2.1, h.2⟩, h3, h2.2⟩
theorem Rw.atA {w : World} {lo hi n m c size : Nat} {e : TypeId} {A : Option Addr} {xs : List Value} (h : Rw w lo hi e size (.slice A m c) n xs) : ∀ k, A.map (·.block) = some k → lo ≤ k ∧ k < hi := by
  rw [← own_blk A m c]; exact h.at
theorem Rw.capL {w : World} {lo hi n c : Nat} {e : TypeId} {size m : Nat} {a : Addr} {xs : List Value} (h : Rw w lo hi e size (.slice (some a) n c) m xs) : m ≤ c ∧ c ≤ maxLen := by
  rcases h.1.2 with ⟨hv, _⟩ | ⟨g, cap, cur, hv, hb, hg, hl, hm, _⟩
  · cases hv
  · cases hv; exact ⟨hl, hm⟩
end Go.Proofs.YtebkblmejkkhfaaGreatDoor

namespace Go.Proofs.YtebkblmejkkhfaaGreatDoor
open Go.RowKit
set_option linter.unusedVariables false
set_option maxRecDepth 1000000

set_option maxHeartbeats 2000000 in
theorem eqSeglog_same (A B : Option Addr) (L : List Fil) (c d : Nat) (f m : Int) (w : World) (hA : Fls w w.heap.size A L) (hB : Fls w w.heap.size B L) :
    Calls Tryz.prog 44 #[segV (.slice A L.length c) f m, segV (.slice B L.length d) f m] w fun e w' => e = .returned (.bool true) ∧ Below w.heap.size w w' := by
  have h0 := (Blk.fresh w 61 [.slice A L.length c, .int .i64 f, .int .i64 m]).alloc (.cells #[.slice B L.length d, .int .i64 f, .int .i64 m] 61)
  have h1 := Blk.fresh (w.alloc (.cells #[.slice A L.length c, .int .i64 f, .int .i64 m] 61)) 61 [.slice B L.length d, .int .i64 f, .int .i64 m]
  have hb0 : Below w.heap.size w ((w.alloc (.cells #[.slice A L.length c, .int .i64 f, .int .i64 m] 61)).alloc (.cells #[.slice B L.length d, .int .i64 f, .int .i64 m] 61)) := ((Below.refl _ w).alloc (Nat.le_refl _) _).alloc (by simp) _
  simp only [List.toArray, World.size_alloc] at h0 h1
  have HE := Lib.hid (eqFs_same A B L c d _ ((hA.below hb0 (Nat.le_refl _)).mono hb0.size) ((hB.below hb0 (Nat.le_refl _)).mono hb0.size))
  go_enter Tryz.func44, Tryz.ntmps44
  go_wp2_with (go_at_call 62; refine HE.out.mono ?_; rintro e w1 ⟨rfl, hb1⟩; have g0 := h0.below hb1 h0.lt; have g1 := h1.below hb1 h1.lt; have k1 := g0.cell (i := 1) rfl; have k2 := g0.cell (i := 2) rfl; have k3 := g1.cell (i := 1) rfl; have k4 := g1.cell (i := 2) rfl)
  go_ret
  exact ⟨rfl, hb0.trans (hb1.mono hb0.size)⟩
set_option maxHeartbeats 2000000 in
theorem szSeglog_any (A : Option Addr) (L : List Fil) (c : Nat) (f m : Int) (w : World) (hL : Fls w w.heap.size A L) :
    Calls Tryz.prog 39 #[segV (.slice A L.length c) f m, .int .i64 1048576] w fun e w' => ∃ r : Int, e = .returned (.int .i64 r) ∧ -1 ≤ r ∧ r ≤ 1048576 ∧ (0 ≤ r → Small L) ∧ Below w.heap.size w w' := by
  have hb0 : Below w.heap.size w (w.alloc (.cells #[.slice A L.length c, .int .i64 f, .int .i64 m] 58)) := (Below.refl _ _).alloc (Nat.le_refl _) _
  have hL1 := (hL.below hb0 (Nat.le_refl _)).mono hb0.size
  go_enter Tryz.func39, Tryz.ntmps39
  go_wp2_with (go_at_call 58; refine (szFs_any A L c _ hL1).mono ?_; rintro e w1 ⟨r, rfl, r0, r1, hS, hb1⟩)
  · go_ret
    exact ⟨-1, rfl, by omega, by omega, fun h => by omega, hb0.trans (hb1.mono hb0.size)⟩
  · go_ret
    exact ⟨r, rfl, by omega, r1, hS, hb0.trans (hb1.mono hb0.size)⟩
set_option maxHeartbeats 2000000 in
theorem toSeglog_any (A : Option Addr) (L : List Fil) (c : Nat) (f m : Int) (w : World) (hL : Fls w w.heap.size A L) (hS : Small L) :
    Calls Tryz.prog 41 #[segV (.slice A L.length c) f m] w fun e w' => ∃ g c', e = .returned (segV (.slice (some ⟨g, 0, none⟩) L.length c') f m) ∧ OwnF w' w.heap.size (.slice (some ⟨g, 0, none⟩) L.length c') L ∧ Below w.heap.size w w' := by
  have hb0 : Below w.heap.size w (((w.alloc (.cells #[.slice A L.length c, .int .i64 f, .int .i64 m] 58)).alloc (.cells #[.slice none 0 0, .int .i64 0, .int .i64 0] 61)).alloc (.cells #[.slice none 0 0, .int .i64 0, .int .i64 0] 61)) := (((Below.refl _ _).alloc (Nat.le_refl _) _).alloc (by simp) _).alloc (by simp; omega) _
  have k0 := ((Blk.fresh w 58 [.slice A L.length c, .int .i64 f, .int .i64 m]).alloc (.cells #[.slice none 0 0, .int .i64 0, .int .i64 0] 61)).alloc (.cells #[.slice none 0 0, .int .i64 0, .int .i64 0] 61)
  have k1 := ((Blk.fresh (w.alloc (.cells #[.slice A L.length c, .int .i64 f, .int .i64 m] 58)) 61 [.slice none 0 0, .int .i64 0, .int .i64 0]).alloc (.cells #[.slice none 0 0, .int .i64 0, .int .i64 0] 61))
  have k2 := Blk.fresh ((w.alloc (.cells #[.slice A L.length c, .int .i64 f, .int .i64 m] 58)).alloc (.cells #[.slice none 0 0, .int .i64 0, .int .i64 0] 61)) 61 [.slice none 0 0, .int .i64 0, .int .i64 0]
  simp only [World.size_alloc] at k0 k1 k2
  have hL1 := (hL.below hb0 (Nat.le_refl _)).mono hb0.size
  go_enter Tryz.func41, Tryz.ntmps41
  go_wp2_with (fail)
  refine (toFs_any A L c _ hL1 hS).mono ?_
  rintro e w1 ⟨g, c', rfl, hv, hb1⟩
  have q0 := k0.below hb1 k0.lt
  have q1 := k1.below hb1 k1.lt
  have q2 := k2.below hb1 k2.lt
  have hw1 := hb0.trans (hb1.mono hb0.size)
  clear hb0 k0 k1 k2 hb1
  have a1 := q0.cell (i := 1) rfl
  have a2 := q0.cell (i := 2) rfl
  have c0 := q2.cell (i := 0) rfl
  have c1 := q2.cell (i := 1) rfl
  have c2 := q2.cell (i := 2) rfl
  have d0 := q1.cell (i := 0) rfl
  have d1 := q1.cell (i := 1) rfl
  have d2 := q1.cell (i := 2) rfl
  have f0 := q2.froz 0
  have f1 := q2.froz 1
  have f2 := q2.froz 2
  have e0 := q1.froz 0
  have e1 := q1.froz 1
  have e2 := q1.froz 2
  go_wp2
  have r1 := (((((q1.far (p := ⟨w.heap.size + 1 + 1, 0, none⟩) (by simp) (.slice (some ⟨g, 0, none⟩) L.length c')).far (p := ⟨w.heap.size + 1 + 1, 1, none⟩) (by simp) (.int .i64 f)).far (p := ⟨w.heap.size + 1 + 1, 2, none⟩) (by simp) (.int .i64 m)).put 0 (.slice (some ⟨g, 0, none⟩) L.length c')).put 1 (.int .i64 f)).put 2 (.int .i64 m)
  have r2 := (((((hv.far (p := ⟨w.heap.size + 1 + 1, 0, none⟩) (by simp) (.slice (some ⟨g, 0, none⟩) L.length c')).far (p := ⟨w.heap.size + 1 + 1, 1, none⟩) (by simp) (.int .i64 f)).far (p := ⟨w.heap.size + 1 + 1, 2, none⟩) (by simp) (.int .i64 m)).far (p := ⟨w.heap.size + 1, 0, none⟩) (by simp) (.slice (some ⟨g, 0, none⟩) L.length c')).far (p := ⟨w.heap.size + 1, 1, none⟩) (by simp) (.int .i64 f)).far (p := ⟨w.heap.size + 1, 2, none⟩) (by simp) (.int .i64 m)
  have r3 := (((((hw1.setCell (p := ⟨w.heap.size + 1 + 1, 0, none⟩) (by simp; omega) (.slice (some ⟨g, 0, none⟩) L.length c')).setCell (p := ⟨w.heap.size + 1 + 1, 1, none⟩) (by simp; omega) (.int .i64 f)).setCell (p := ⟨w.heap.size + 1 + 1, 2, none⟩) (by simp; omega) (.int .i64 m)).setCell (p := ⟨w.heap.size + 1, 0, none⟩) (by simp) (.slice (some ⟨g, 0, none⟩) L.length c')).setCell (p := ⟨w.heap.size + 1, 1, none⟩) (by simp) (.int .i64 f)).setCell (p := ⟨w.heap.size + 1, 2, none⟩) (by simp) (.int .i64 m)
  generalize (((((w1.setCell ⟨w.heap.size + 1 + 1, 0, none⟩ (.slice (some ⟨g, 0, none⟩) L.length c')).setCell ⟨w.heap.size + 1 + 1, 1, none⟩ (.int .i64 f)).setCell ⟨w.heap.size + 1 + 1, 2, none⟩ (.int .i64 m)).setCell ⟨w.heap.size + 1, 0, none⟩ (.slice (some ⟨g, 0, none⟩) L.length c')).setCell ⟨w.heap.size + 1, 1, none⟩ (.int .i64 f)).setCell ⟨w.heap.size + 1, 2, none⟩ (.int .i64 m) = w9 at r1 r2 r3 ⊢
  have x0 := r1.cell (i := 0) rfl
  have x1 := r1.cell (i := 1) rfl
  have x2 := r1.cell (i := 2) rfl
  exact bodyPost_ret (v := segV (.slice (some ⟨g, 0, none⟩) L.length c') f m) (by simp [results, Tryz.results41, go_sem, x0, x1, x2]) rfl ⟨g, c', rfl, r2.base (by simp; omega), r3⟩
end Go.Proofs.YtebkblmejkkhfaaGreatDoor
