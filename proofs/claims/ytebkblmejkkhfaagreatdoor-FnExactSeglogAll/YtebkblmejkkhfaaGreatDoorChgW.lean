/- The marks that the exact laws lay into a log. Slices of strings as arguments of the exact laws. What a call leaves that writes only into blocks from lo up to hi. -/
import Derived.Test.YtebkblmejkkhfaaGreatDoorSgW
import Derived.Test.YtebkblmejkkhfaaGreatDoorStrW
import Derived.SliceStrings
namespace Go.Proofs.YtebkblmejkkhfaaGreatDoor
open Go.RowKit
set_option linter.unusedVariables false
set_option maxRecDepth 1000000
set_option maxHeartbeats 2000000 in
theorem markSeglog_rw (A : Option Addr) (L : List Fil) (c lo hi k : Nat) (f m : Int) (w : World) (h : Rw w lo hi 53 3 (.slice A L.length c) L.length (flat L)) (hf : ∀ f ∈ L, f.fits) (h0 : 1 ≤ k) (h1 : k + 3 * L.length ≤ 4000000) :
    Calls Tryz.prog 45 #[segV (.slice A L.length c) f m, .int .i64 k] w fun e w' => e = .returned (.int .i64 ((k + 3 * L.length : Nat) : Int)) ∧
      Rw w' lo hi 53 3 (.slice A L.length c) (markL L.length k).length (flat (markL L.length k)) ∧ w.grownBy w' (A.map (·.block)) ∧ (∀ f ∈ markL L.length k, f.fits) := by
  have hb0 : Below w.heap.size w (w.alloc (.cells #[.slice A L.length c, .int .i64 f, .int .i64 m] 61)) := (Below.refl _ w).alloc (Nat.le_refl _) _
  have HM := Lib.hid (markFs_rw A L c lo hi k _ (h.below hb0) hf h0 h1)
  go_enter Tryz.func45, Tryz.ntmps45
  go_wp2_with (go_at_call 63; refine HM.out.mono ?_; rintro e w1 ⟨rfl, hR, hg, hff⟩)
  go_ret
  exact ⟨rfl, hR, ⟨hg.os, hg.tape, hg.output, by have := hg.size; simp at this; omega, fun j hj hne => (hg.block j (by simp; omega) hne).trans (hb0.block j hj)⟩, hff⟩
set_option maxHeartbeats 2000000 in
theorem heldSeglog_any (A : Option Addr) (n c k : Nat) (f m : Int) (w : World) (hF : Fls w w.heap.size A (markL n k)) (h0 : 1 ≤ k) (h1 : k + 3 * n ≤ 4000000) :
    Calls Tryz.prog 50 #[segV (.slice A n c) f m, .int .i64 k] w fun e w' => e = .returned (.int .i64 ((k + 3 * n : Nat) : Int)) ∧ Below w.heap.size w w' := by
  have hb0 : Below w.heap.size w (w.alloc (.cells #[.slice A n c, .int .i64 f, .int .i64 m] 61)) := (Below.refl _ w).alloc (Nat.le_refl _) _
  have HM := Lib.hid (heldFs_any A n c k _ ((hF.below hb0 (Nat.le_refl _)).mono hb0.size) h0 h1)
  go_enter Tryz.func50, Tryz.ntmps50
  go_wp2_with (go_at_call 114; refine HM.out.mono ?_; rintro e w1 ⟨rfl, hb1⟩)
  go_ret
  exact ⟨rfl, hb0.trans (hb1.mono hb0.size)⟩
end Go.Proofs.YtebkblmejkkhfaaGreatDoor

namespace Go.Proofs.YtebkblmejkkhfaaGreatDoor
open Go.RowKit Go.ChangeShapes Go.WideShapes
set_option linter.unusedVariables false

theorem cellsStr1 : Tryz.prog.cellsOf 9 = 1 := by kernel_rfl
set_option maxRecDepth 1000000 in
theorem strs_arg {H : Type} {enc : TypeId × Value → H} {W : World} {r : Reach} {b0 : Nat} {v : Value} {d : DataW H} {p : List MemPlace} (hval : Value.okWide Tryz.prog W r b0 50 v) (h : DataW.Trod enc Tryz.prog W 0 (fun _ => true) true 50 v d p) :
    ∃ A L c, v = .slice A L.length c ∧ Strs W W.heap.size A L ∧ ∀ s ∈ L, s.size ≤ maxLen := by
  obtain ⟨A, n, c, rfl⟩ := okWide_slice Tryz.underlying50 hval
  obtain ⟨m, hm⟩ := h
  have hm' : DataW.trod enc Tryz.prog W 0 (fun _ => true) true m 50 [.slice A n c] = some (d, p) := hm
  rcases open_strings Tryz.underlying50 Tryz.underlying9 cellsStr1 hm' with ⟨h1, _⟩ | ⟨a, len, cap, zs, h1, _, hl, hc, hz, _, hcell, hwf⟩
  · injection h1 with h1 _
    cases h1
    exact ⟨none, [], 0, rfl, ⟨by simp [maxLen], fun i h => absurd h (by simp)⟩, fun s h => absurd h (by simp)⟩
  · injection h1 with h1 _
    cases h1
    have hzl : zs.length = c := by simpa using hz
    have htl : (zs.take n).length = n := by simp; omega
    refine ⟨some a, zs.take n, c, by rw [htl], ⟨by rw [htl]; omega, fun i hi => ?_⟩, fun s hs => hwf s (List.mem_of_mem_take hs)⟩
    have hi' : i < zs.length := by rw [htl] at hi; omega
    have hc1 := hcell i hi'
    have hg : zs.getD i ByteArray.empty = (zs.take n)[i] := by rw [List.getElem_take]; simp [List.getD, hi']
    rw [hg] at hc1
    exact ⟨a, rfl, by have := World.block_lt_of_cell? W _ hc1; rw [add_blk] at this; exact this, hc1⟩
theorem Rw.strs {w : World} {lo hi n c : Nat} {A : Option Addr} {L : List ByteArray} (h : Rw w lo hi 9 1 (.slice A n c) L.length (L.map Value.string)) : Strs w w.heap.size A L := (OwnS.strs (base := lo) (c := c) (n := n) h.1).2

theorem markS_rw (A : Option Addr) (L : List ByteArray) (c lo hi k : Nat) (w : World) (h : Rw w lo hi 9 1 (.slice A L.length c) L.length (L.map Value.string)) (h0 : 1 ≤ k) (h1 : k + L.length ≤ 4000000) :
    Calls Tryz.prog 54 #[.slice A L.length c, .int .i64 k] w fun e w' => e = .returned (.int .i64 ((k + L.length : Nat) : Int)) ∧
      Rw w' lo hi 9 1 (.slice A L.length c) (markN L.length k).length ((markN L.length k).map Value.string) ∧ w.grownBy w' (A.map (·.block)) :=
  (markStringS_any A L c lo k w h.1 h0 h1).mono fun e w' ⟨he, h2, h3⟩ => ⟨he, ⟨h2, h.2⟩, h3⟩

end Go.Proofs.YtebkblmejkkhfaaGreatDoor

namespace Go.Proofs.YtebkblmejkkhfaaGreatDoor
open Go.RowKit
set_option linter.unusedVariables false

structure Chg (w w' : World) (lo hi : Nat) : Prop where
  os : w'.os = w.os
  tape : w'.tape = w.tape
  output : w'.output = w.output
  size : w.heap.size ≤ w'.heap.size
  block : ∀ k, k < w.heap.size → (k < lo ∨ hi ≤ k) → w'.heap[k]? = w.heap[k]?
section
variable {w w' w2 : World} {lo hi lo' hi' : Nat}
theorem Chg.of {row : Option Nat} (h : w.grownBy w' row) (hr : ∀ k, row = some k → lo ≤ k ∧ k < hi) : Chg w w' lo hi :=
  ⟨h.os, h.tape, h.output, h.size, fun k hk ho => h.block k hk fun e => by have := hr k e.symm; omega⟩
theorem Chg.trans (h : Chg w w' lo hi) (h2 : Chg w' w2 lo hi) : Chg w w2 lo hi :=
  ⟨h2.os.trans h.os, h2.tape.trans h.tape, h2.output.trans h.output, Nat.le_trans h.size h2.size, fun k hk ho => (h2.block k (by have := h.size; omega) ho).trans (h.block k hk ho)⟩
theorem Chg.after (hb : Below w.heap.size w w') (h : Chg w' w2 lo hi) : Chg w w2 lo hi :=
  ⟨h.os.trans hb.os, h.tape.trans hb.tape, h.output.trans hb.output, Nat.le_trans hb.size h.size, fun k hk ho => (h.block k (by have := hb.size; omega) ho).trans (hb.block k hk)⟩
theorem Chg.thenB (h : Chg w w' lo hi) (hb : Below w'.heap.size w' w2) : Chg w w2 lo hi :=
  ⟨hb.os.trans h.os, hb.tape.trans h.tape, hb.output.trans h.output, Nat.le_trans h.size hb.size, fun k hk ho => (hb.block k (by have := h.size; omega)).trans (h.block k hk ho)⟩
theorem Blk.offC {g : Nat} {t : TypeId} {cs : List Value} (h : Blk w g t cs) (hc : Chg w w' lo hi) (ho : g < lo ∨ hi ≤ g) : Blk w' g t cs := (hc.block g h.lt ho).trans h
theorem Rw.farC {e : TypeId} {size n : Nat} {v : Value} {xs : List Value} (h : Rw w lo' hi' e size v n xs) (hc : Chg w w' lo hi) (ho : hi' ≤ lo ∨ hi ≤ lo') : Rw w' lo' hi' e size v n xs := by
  refine ⟨?_, h.2⟩
  cases hv : v.ownBlock with
  | none =>
    have hg : w.grownBy w v.ownBlock := ⟨rfl, rfl, rfl, Nat.le_refl _, fun _ _ _ => rfl⟩
    rcases h.1.2 with ⟨he, h0⟩ | ⟨g, cap, cur, he, _⟩
    · exact ⟨h.1.1, .inl ⟨he, h0⟩⟩
    · rw [he] at hv; cases hv
  | some k =>
    have h1 := h.at k hv
    rcases h.1.2 with ⟨he, h0⟩ | ⟨g, cap, cur, he, hb, hh, hr⟩
    · rw [he] at hv; cases hv
    · rw [he] at hv
      cases hv
      exact ⟨h.1.1, .inr ⟨g, cap, cur, he, hb, (hc.block g (h.1.lt g (by rw [he]; rfl)).2 (by simp at h1; omega)).trans hh, hr⟩⟩
theorem below_offC {B : Nat} {a : World} (h : Below B a w) (hc : Chg w w' lo hi) (ho : B ≤ lo) (hB : B ≤ a.heap.size) : Below B a w' :=
  ⟨hc.os.trans h.os, hc.tape.trans h.tape, hc.output.trans h.output, Nat.le_trans h.size hc.size, fun k hk => (hc.block k (by have := h.size; omega) (by omega)).trans (h.block k hk)⟩
end
end Go.Proofs.YtebkblmejkkhfaaGreatDoor
