/- SeglogRight: spec and impl answer alike. The comparison that the exact laws make of two file systems: true where both hold the same files. -/
import Derived.Test.YtebkblmejkkhfaaDoorLogRW
import Derived.Test.YtebkblmejkkhfaaDoorLogTW
import Derived.Test.YtebkblmejkkhfaaDoorFilOwnW
import Derived.Test.YtebkblmejkkhfaaDoorKeptW
namespace Go.Proofs.YtebkblmejkkhfaaDoor
open Go.RowKit
set_option linter.unusedVariables false

theorem specSeglogRight_any (A : Option Addr) (L : List Fil) (c : Nat) (f m : Int) (w : World) (hL : Fls w w.heap.size A L) (hf : (Lit.int .i64 f).wf = true) (hm : (Lit.int .i64 m).wf = true) :
    Calls Tryd.prog 10 #[segV (.slice A L.length c) f m] w fun e w' => e = .returned (.bool (logB L f m)) ∧ Below w.heap.size w w' := by
  have hb0 : Below w.heap.size w (w.alloc (.cells #[.slice A L.length c, .int .i64 f, .int .i64 m] 35)) := (Below.refl _ _).alloc (Nat.le_refl _) _
  have HR := Lib.hid (specLogR_any A L c f m _ ((hL.below hb0 (Nat.le_refl _)).mono hb0.size) hf hm)
  clear hf hm
  go_enter Tryd.func10, Tryd.ntmps10
  go_wp2_with (go_at_call 25; refine HR.out.mono ?_; rintro e w1 ⟨v, rfl, _, hb1⟩)
  go_ret
  exact ⟨rfl, hb0.trans (hb1.mono hb0.size)⟩
theorem implSeglogRight_any (A : Option Addr) (L : List Fil) (c : Nat) (f m : Int) (w : World) (hL : Fls w w.heap.size A L) (hf : (Lit.int .i64 f).wf = true) (hm : (Lit.int .i64 m).wf = true) (hP : Pow w) (hH : Handle w) (hS : Seg w) :
    Calls Tryd.prog 12 #[segV (.slice A L.length c) f m] w fun e w' => e = .returned (.bool (logB L f m)) ∧ Below w.heap.size w w' := by
  have hb0 : Below w.heap.size w (w.alloc (.cells #[.slice A L.length c, .int .i64 f, .int .i64 m] 35)) := (Below.refl _ _).alloc (Nat.le_refl _) _
  have HR := Lib.hid (logTexts_any A L c f m _ ((hL.below hb0 (Nat.le_refl _)).mono hb0.size) hf hm (hP.below hb0) (Handle.below hH hb0) (hS.below hb0))
  clear hf hm
  go_enter Tryd.func12, Tryd.ntmps12
  go_wp2_with (go_at_call 27; refine HR.out.mono ?_; rintro e w1 ⟨v, rfl, _, _, hb1⟩)
  go_ret
  exact ⟨rfl, hb0.trans (hb1.mono hb0.size)⟩
theorem bothSeglogRight (L : List Fil) (f m : Int) (hf : ∀ f ∈ L, f.fits) (hS : Small L) (hfw : (Lit.int .i64 f).wf = true) (hmw : (Lit.int .i64 m).wf = true) :
    ∃ bo : Bool, (∀ (A : Option Addr) (c : Nat) (W : World), Fls W W.heap.size A L → L.length ≤ c → c ≤ maxLen → Calls Tryd.prog 10 #[.agg #[.slice A L.length c, .int .i64 f, .int .i64 m]] W fun e w' => e = .returned (.bool bo) ∧ Below W.heap.size W w') ∧
      (∀ (A : Option Addr) (c : Nat) (W : World), Fls W W.heap.size A L → L.length ≤ c → c ≤ maxLen → Pow W → Handle W → Seg W → Calls Tryd.prog 12 #[.agg #[.slice A L.length c, .int .i64 f, .int .i64 m]] W fun e w' => e = .returned (.bool bo) ∧ Below W.heap.size W w') :=
  ⟨logB L f m, fun A c W h _ _ => specSeglogRight_any A L c f m W h hfw hmw, fun A c W h _ _ hP hH hS => implSeglogRight_any A L c f m W h hfw hmw hP hH hS⟩
end Go.Proofs.YtebkblmejkkhfaaDoor

namespace Go.Proofs.YtebkblmejkkhfaaDoor
open Go.RowKit
set_option linter.unusedVariables false

theorem eqFile_same (f : Fil) (w : World) : Calls Tryd.prog 54 #[f.val, f.val] w fun e w' => e = .returned (.bool true) ∧ Below w.heap.size w w' := by
  obtain ⟨s0, s1, k⟩ := f
  unfold Fil.val
  simp only
  go_enter Tryd.func54, Tryd.ntmps54
  go_wp2
  go_ret
  exact ⟨rfl, ((Below.refl _ _).alloc (Nat.le_refl _) _).alloc (by simp) _⟩

set_option maxHeartbeats 1000000 in
theorem eqFileS_same (A B : Option Addr) (L : List Fil) (c d : Nat) (w : World) (hA : Fls w w.heap.size A L) (hB : Fls w w.heap.size B L) :
    Calls Tryd.prog 41 #[.slice A L.length c, .slice B L.length d] w fun e w' => e = .returned (.bool true) ∧ Below w.heap.size w w' := by
  have hn := hA.1
  unfold maxLen at hn
  go_enter Tryd.func41, Tryd.ntmps41
  go_wp2
  go_loopw [5] (fun i wr => ∃ k : Nat, k ≤ L.length ∧ i = .int .i64 k ∧ Below w.heap.size w wr) (fun i _ => L.length - (intOf i).toNat)
  case atStart => exact ⟨0, by omega, rfl, Below.refl _ _⟩
  case round =>
    obtain ⟨k, hk, rfl, hb⟩ := hrel
    by_cases hlt : k < L.length
    · obtain ⟨a, rfl, hab, a0, a1, a2, hff⟩ := (hA.below hb (Nat.le_refl _)).at k hlt
      obtain ⟨b, rfl, hbb, b0, b1, b2, _⟩ := (hB.below hb (Nat.le_refl _)).at k hlt
      obtain ⟨I, f, hI, g0, gk, gc, ge⟩ := class_grown wr
      have x0 := fun s => kept_cell (gk s) a0
      have x1 := fun s => kept_cell (gk s) a1
      have x2 := fun s => kept_cell (gk s) a2
      have y0 := fun s => kept_cell (gk s) b0
      have y1 := fun s => kept_cell (gk s) b1
      have y2 := fun s => kept_cell (gk s) b2
      have EQ := eqFile_same L[k]
      unfold Fil.val at EQ
      have hlt' : (k : Int) < (L.length : Int) := by omega
      clear a0 a1 a2 b0 b1 b2
      go_wp2
      refine wp_region_kept f (by kernel_rfl) (by kernel_rfl) g0 ?_
      repeat (first
        | go_big_quiet_skip
        | (go_big_quiet_want; go_big_quiet_op; first | go_big_quiet_on | (apply Exists.intro; refine ⟨fun s => ?_, ?_⟩; (go_at_call 54; refine (EQ _).mono ?_; rintro e w4 ⟨rfl, hb4⟩; exact ⟨rfl, gc _ _ hb4⟩); go_big_quiet_on)))
      refine wpQuiet_nil ?_
      intro w5 h5
      have hb5 := ge _ h5
      go_wp2
      exact ⟨⟨k + 1, by omega, by go_num, hb.trans (hb5.mono hb.size)⟩, by simp [intOf]; omega⟩
    · obtain rfl : k = L.length := by omega
      go_wp2
      go_ret
      exact ⟨rfl, hb⟩

theorem eqFs_same (A B : Option Addr) (L : List Fil) (c d : Nat) (w : World) (hA : Fls w w.heap.size A L) (hB : Fls w w.heap.size B L) :
    Calls Tryd.prog 28 #[.agg #[.slice A L.length c], .agg #[.slice B L.length d]] w fun e w' => e = .returned (.bool true) ∧ Below w.heap.size w w' := by
  have hb0 : Below w.heap.size w ((w.alloc (.cells #[.slice A L.length c] 33)).alloc (.cells #[.slice B L.length d] 33)) := ((Below.refl _ _).alloc (Nat.le_refl _) _).alloc (by simp) _
  have hA1 := (hA.below hb0 (Nat.le_refl _)).mono hb0.size
  have hB1 := (hB.below hb0 (Nat.le_refl _)).mono hb0.size
  go_enter Tryd.func28, Tryd.ntmps28
  go_wp2_with (go_at_call 41; refine (eqFileS_same A B L c d _ hA1 hB1).mono ?_; rintro e w1 ⟨rfl, hb1⟩)
  go_ret
  exact ⟨rfl, hb0.trans (hb1.mono hb0.size)⟩
end Go.Proofs.YtebkblmejkkhfaaDoor
