/- The size that the exact laws reckon of proofs, changes, says. The copies that the exact laws make of proofs, changes, says, and their comparison of two. Arguments that are proofs, changes, says. ChangeRight: spec and impl answer alike. -/
import Derived.Test.YtjnbhppnchmeoaaSyPRW
import Derived.Test.YtjnbhppnchmeoaaAuQW
import Derived.BigRegion
import Derived.WalkMore
namespace Go.Proofs.Ytjnbhppnchmeoaa
open Go.RowKit
set_option linter.unusedVariables false
set_option maxRecDepth 1000000

theorem szInt64S_left (A : Option Addr) (L : List Int) (c : Nat) (left : Int) (w : World) (hn : L.length ≤ maxLen) (l0 : 0 ≤ left) (l1 : left ≤ 1048576) :
    Calls Try.prog 79 #[.slice A L.length c, .int .i64 left] w fun e w' => ∃ r : Int, e = .returned (.int .i64 r) ∧ -1 ≤ r ∧ r ≤ 1048576 ∧ (0 ≤ r → L.length ≤ 1048576) ∧ Below w.heap.size w w' := by
  unfold maxLen at hn
  by_cases hbig : left - L.length < 0
  · go_enter Try.func79, Try.ntmps79
    go_wp2
    go_ret
    exact ⟨-1, rfl, by omega, by omega, fun h => by omega, Below.refl _ _⟩
  · have hbig' : ¬ left - (L.length : Int) < 0 := hbig
    go_enter Try.func79, Try.ntmps79
    go_wp2
    go_ret
    exact ⟨_, rfl, by omega, by omega, fun h => by omega, Below.refl _ _⟩
set_option maxHeartbeats 2000000 in
theorem szProof_left (t : Prf) (A : Option Addr) (c : Nat) (left : Int) (w : World) (hf : t.fits) (hA : Ints w 0 w.heap.size A t.who) (l0 : 0 ≤ left) (l1 : left ≤ 1048576) :
    Calls Try.prog 32 #[prfV t (.slice A t.who.length c), .int .i64 left] w fun e w' => ∃ r : Int, e = .returned (.int .i64 r) ∧ -1 ≤ r ∧ r ≤ 1048576 ∧ (0 ≤ r → t.small) ∧ Below w.heap.size w w' := by
  obtain ⟨view, seq, op, L⟩ := t
  obtain ⟨f0, f1, f2⟩ := hf
  simp only at f0 f1 f2 hA ⊢
  unfold maxLen at f2
  have hb0 := below_bx w (.cells #[.int .i64 view, .int .i64 seq, .string op, .slice A L.length c] 46)
  have k0 := Blk.fresh w 46 [.int .i64 view, .int .i64 seq, .string op, .slice A L.length c]
  simp only [List.toArray] at k0
  by_cases hn : left - op.size < 0
  · go_enter Try.func32, Try.ntmps32
    go_wp2
    go_ret
    exact ⟨-1, rfl, by omega, by omega, fun h => by omega, hb0⟩
  have hn' : ¬ left - (op.size : Int) < 0 := hn
  have SS := Lib.hid (fun W (h : Below w.heap.size w W) => szInt64S_left A L c (left - op.size) W (hA.on h).1 (by omega) (by omega))
  go_enter Try.func32, Try.ntmps32
  go_wp2_with (fail)
  generalize w.alloc (.cells #[.int .i64 view, .int .i64 seq, .string op, .slice A L.length c] 46) = v0 at hb0 k0 ⊢
  refine (SS.out _ hb0).mono ?_
  rintro e w1 ⟨r, rfl, r0, r1, hS, hb1⟩
  have hw1 := hb0.trans (hb1.mono hb0.size)
  clear k0 hb0 hb1
  by_cases hr : r < 0
  · go_wp2
    go_ret
    exact ⟨-1, rfl, by omega, by omega, fun h => by omega, hw1⟩
  have hr' : ¬ r < 0 := hr
  go_wp2
  go_ret
  exact ⟨r, rfl, r0, r1, fun h => ⟨by show op.size ≤ 1048576; omega, hS h⟩, hw1⟩
set_option maxHeartbeats 2000000 in
theorem szProofS_left (A : Option Addr) (L : List Prf) (c : Nat) (left : Int) (w : World) (hL : Prs w 0 w.heap.size A L) (hf : ∀ g ∈ L, g.fits) (l0 : 0 ≤ left) (l1 : left ≤ 1048576) :
    Calls Try.prog 86 #[.slice A L.length c, .int .i64 left] w fun e w' => ∃ r : Int, e = .returned (.int .i64 r) ∧ -1 ≤ r ∧ r ≤ 1048576 ∧ (0 ≤ r → L.length ≤ 1048576 ∧ ∀ i (h : i < L.length), L[i].small) ∧ Below w.heap.size w w' := by
  have hn := hL.1
  unfold maxLen at hn
  by_cases hbig : left - L.length < 0
  · go_enter Try.func86, Try.ntmps86
    go_wp2
    go_ret
    exact ⟨-1, rfl, by omega, by omega, fun h => by omega, Below.refl _ _⟩
  · have hn2 : L.length ≤ 1048576 := by omega
    have hbig' : ¬ left - (L.length : Int) < 0 := hbig
    go_enter Try.func86, Try.ntmps86
    go_wp2
    go_loopw [1, 5] (fun l i wr => ∃ (k : Nat) (left : Int), k ≤ L.length ∧ i = .int .i64 k ∧ l = .int .i64 left ∧ 0 ≤ left ∧ left ≤ 1048576 ∧ (∀ j (h : j < L.length), j < k → L[j].small) ∧ Below w.heap.size w wr) (fun _ i _ => L.length - (intOf i).toNat)
    case atStart => exact ⟨0, _, by omega, rfl, rfl, by omega, by omega, fun j _ h => by omega, Below.refl _ _⟩
    case round =>
      obtain ⟨k, lf, hk, rfl, rfl, l0, l1, hS, hb⟩ := hrel
      by_cases hlt : k < L.length
      · obtain ⟨a, rfl, hab, C, c', c0, c1, c2, c3, hC⟩ := (hL.on hb).at k hlt
        have ST := Lib.hid (szProof_left L[k] C c' lf wr (hf _ (List.getElem_mem hlt)) hC l0 l1)
        go_wp2_with (fail)
        refine ST.out.mono ?_
        rintro e w1 ⟨r, rfl, r0, r1, hs, hb1⟩
        by_cases hr : r < 0
        · go_wp2
          go_ret
          exact ⟨-1, rfl, by omega, by omega, fun h => by omega, hb.trans (hb1.mono hb.size)⟩
        · go_wp2
          refine ⟨⟨k + 1, _, by omega, by go_num, rfl, by omega, r1, fun j hj hjk => ?_, hb.trans (hb1.mono hb.size)⟩, by simp [intOf]; omega⟩
          by_cases e : j = k
          · subst e; exact hs (by omega)
          · exact hS j hj (by omega)
      · obtain rfl : k = L.length := by omega
        go_wp2
        go_ret
        exact ⟨lf, rfl, by omega, l1, fun _ => ⟨hn2, fun i h => hS i h h⟩, hb⟩
set_option maxHeartbeats 2000000 in
theorem szChange_left (t : Cng) (A : Option Addr) (c : Nat) (left : Int) (w : World) (hf : t.fits) (hA : Prs w 0 w.heap.size A t.proofs) (l0 : 0 ≤ left) (l1 : left ≤ 1048576) :
    Calls Try.prog 37 #[cngV t (.slice A t.proofs.length c), .int .i64 left] w fun e w' => ∃ r : Int, e = .returned (.int .i64 r) ∧ -1 ≤ r ∧ r ≤ 1048576 ∧ (0 ≤ r → t.small) ∧ Below w.heap.size w w' := by
  obtain ⟨frm, view, L⟩ := t
  obtain ⟨f0, f1, f2⟩ := hf
  simp only at f0 f1 f2 hA ⊢
  have hb0 := below_bx w (.cells #[.int .i64 frm, .int .i64 view, .slice A L.length c] 55)
  have k0 := Blk.fresh w 55 [.int .i64 frm, .int .i64 view, .slice A L.length c]
  simp only [List.toArray] at k0
  have SS := Lib.hid (fun W (h : Below w.heap.size w W) => szProofS_left A L c (left) W (hA.on h) f2 (by omega) (by omega))
  go_enter Try.func37, Try.ntmps37
  have c2 := k0.cell (i := 2) rfl
  go_wp2_with (fail)
  clear c2
  generalize w.alloc (.cells #[.int .i64 frm, .int .i64 view, .slice A L.length c] 55) = v0 at hb0 k0 ⊢
  refine (SS.out _ hb0).mono ?_
  rintro e w1 ⟨r, rfl, r0, r1, hS, hb1⟩
  have hw1 := hb0.trans (hb1.mono hb0.size)
  clear k0 hb0 hb1
  by_cases hr : r < 0
  · go_wp2
    go_ret
    exact ⟨-1, rfl, by omega, by omega, fun h => by omega, hw1⟩
  have hr' : ¬ r < 0 := hr
  go_wp2
  go_ret
  exact ⟨r, rfl, r0, r1, fun h => ⟨(hS h).1, (hS h).2⟩, hw1⟩
set_option maxHeartbeats 2000000 in
theorem szChangeS_left (A : Option Addr) (L : List Cng) (c : Nat) (left : Int) (w : World) (hL : Chs w 0 w.heap.size A L) (hf : ∀ g ∈ L, g.fits) (l0 : 0 ≤ left) (l1 : left ≤ 1048576) :
    Calls Try.prog 92 #[.slice A L.length c, .int .i64 left] w fun e w' => ∃ r : Int, e = .returned (.int .i64 r) ∧ -1 ≤ r ∧ r ≤ 1048576 ∧ (0 ≤ r → L.length ≤ 1048576 ∧ ∀ i (h : i < L.length), L[i].small) ∧ Below w.heap.size w w' := by
  have hn := hL.1
  unfold maxLen at hn
  by_cases hbig : left - L.length < 0
  · go_enter Try.func92, Try.ntmps92
    go_wp2
    go_ret
    exact ⟨-1, rfl, by omega, by omega, fun h => by omega, Below.refl _ _⟩
  · have hn2 : L.length ≤ 1048576 := by omega
    have hbig' : ¬ left - (L.length : Int) < 0 := hbig
    go_enter Try.func92, Try.ntmps92
    go_wp2
    go_loopw [1, 5] (fun l i wr => ∃ (k : Nat) (left : Int), k ≤ L.length ∧ i = .int .i64 k ∧ l = .int .i64 left ∧ 0 ≤ left ∧ left ≤ 1048576 ∧ (∀ j (h : j < L.length), j < k → L[j].small) ∧ Below w.heap.size w wr) (fun _ i _ => L.length - (intOf i).toNat)
    case atStart => exact ⟨0, _, by omega, rfl, rfl, by omega, by omega, fun j _ h => by omega, Below.refl _ _⟩
    case round =>
      obtain ⟨k, lf, hk, rfl, rfl, l0, l1, hS, hb⟩ := hrel
      by_cases hlt : k < L.length
      · obtain ⟨a, rfl, hab, C, c', c0, c1, c2, hC⟩ := (hL.on hb).at k hlt
        have ST := Lib.hid (szChange_left L[k] C c' lf wr (hf _ (List.getElem_mem hlt)) hC l0 l1)
        go_wp2_with (fail)
        refine ST.out.mono ?_
        rintro e w1 ⟨r, rfl, r0, r1, hs, hb1⟩
        by_cases hr : r < 0
        · go_wp2
          go_ret
          exact ⟨-1, rfl, by omega, by omega, fun h => by omega, hb.trans (hb1.mono hb.size)⟩
        · go_wp2
          refine ⟨⟨k + 1, _, by omega, by go_num, rfl, by omega, r1, fun j hj hjk => ?_, hb.trans (hb1.mono hb.size)⟩, by simp [intOf]; omega⟩
          by_cases e : j = k
          · subst e; exact hs (by omega)
          · exact hS j hj (by omega)
      · obtain rfl : k = L.length := by omega
        go_wp2
        go_ret
        exact ⟨lf, rfl, by omega, l1, fun _ => ⟨hn2, fun i h => hS i h h⟩, hb⟩
set_option maxHeartbeats 2000000 in
theorem szSay_left (t : Sy) (A : Option Addr) (c : Nat) (left : Int) (w : World) (hf : t.fits) (hA : Chs w 0 w.heap.size A t.changes) (l0 : 0 ≤ left) (l1 : left ≤ 1048576) :
    Calls Try.prog 42 #[syV t (.slice A t.changes.length c), .int .i64 left] w fun e w' => ∃ r : Int, e = .returned (.int .i64 r) ∧ -1 ≤ r ∧ r ≤ 1048576 ∧ (0 ≤ r → t.small) ∧ Below w.heap.size w w' := by
  obtain ⟨kind, frm, view, seq, op, L⟩ := t
  obtain ⟨f0, f1, f2, f3, f4, f5⟩ := hf
  simp only at f0 f1 f2 f3 f4 f5 hA ⊢
  unfold maxLen at f4
  have hb0 := below_bx w (.cells #[.int .i64 kind, .int .i64 frm, .int .i64 view, .int .i64 seq, .string op, .slice A L.length c] 66)
  have k0 := Blk.fresh w 66 [.int .i64 kind, .int .i64 frm, .int .i64 view, .int .i64 seq, .string op, .slice A L.length c]
  simp only [List.toArray] at k0
  by_cases hn : left - op.size < 0
  · go_enter Try.func42, Try.ntmps42
    go_wp2
    go_ret
    exact ⟨-1, rfl, by omega, by omega, fun h => by omega, hb0⟩
  have hn' : ¬ left - (op.size : Int) < 0 := hn
  have SS := Lib.hid (fun W (h : Below w.heap.size w W) => szChangeS_left A L c (left - op.size) W (hA.on h) f5 (by omega) (by omega))
  go_enter Try.func42, Try.ntmps42
  go_wp2_with (fail)
  generalize w.alloc (.cells #[.int .i64 kind, .int .i64 frm, .int .i64 view, .int .i64 seq, .string op, .slice A L.length c] 66) = v0 at hb0 k0 ⊢
  refine (SS.out _ hb0).mono ?_
  rintro e w1 ⟨r, rfl, r0, r1, hS, hb1⟩
  have hw1 := hb0.trans (hb1.mono hb0.size)
  clear k0 hb0 hb1
  by_cases hr : r < 0
  · go_wp2
    go_ret
    exact ⟨-1, rfl, by omega, by omega, fun h => by omega, hw1⟩
  have hr' : ¬ r < 0 := hr
  go_wp2
  go_ret
  exact ⟨r, rfl, r0, r1, fun h => ⟨by show op.size ≤ 1048576; omega, (hS h).1, (hS h).2⟩, hw1⟩
end Go.Proofs.Ytjnbhppnchmeoaa

namespace Go.Proofs.Ytjnbhppnchmeoaa
open Go.RowKit
set_option linter.unusedVariables false
set_option maxRecDepth 1000000

theorem toInt64S_rd (A : Option Addr) (L : List Int) (c : Nat) (w : World) (hL : Ints w 0 w.heap.size A L) (hn : L.length ≤ 1048576) :
    Calls Try.prog 83 #[.slice A L.length c] w fun e w' => ∃ g c', e = .returned (.slice (some ⟨g, 0, none⟩) L.length c') ∧ Ints w' w.heap.size w'.heap.size (some ⟨g, 0, none⟩) L ∧ Below w.heap.size w w' := by
  refine (toInt64S_any A L c w hL.nms hn).mono ?_
  rintro e w' ⟨g, c', rfl, hr, hb⟩
  refine ⟨g, c', rfl, hr.ints ?_, hb⟩
  intro x hx
  obtain ⟨i, hi, rfl⟩ := List.getElem_of_mem hx
  obtain ⟨_, _, _, _, _, h1, h2⟩ := hL.2 i hi
  exact ⟨h1, h2⟩
theorem eqInt64S_rd (A B : Option Addr) (L : List Int) (c d : Nat) (w : World) {l m : Nat} (hA : Ints w l w.heap.size A L) (hB : Ints w m w.heap.size B L) :
    Calls Try.prog 85 #[.slice A L.length c, .slice B L.length d] w fun e w' => e = .returned (.bool true) ∧ Below w.heap.size w w' := eqInt64S_same A B L c d w hA.nms hB.nms
set_option maxHeartbeats 2000000 in
theorem toProof_any (t : Prf) (A : Option Addr) (c : Nat) (w : World) (hs : t.small) (hA : Ints w 0 w.heap.size A t.who) :
    Calls Try.prog 34 #[prfV t (.slice A t.who.length c)] w fun e w' => ∃ g c', e = .returned (prfV t (.slice (some ⟨g, 0, none⟩) t.who.length c')) ∧ Ints w' w.heap.size w'.heap.size (some ⟨g, 0, none⟩) t.who ∧ Below w.heap.size w w' := by
  obtain ⟨view, seq, op, L⟩ := t
  obtain ⟨s0, s1⟩ := hs
  simp only at s0 s1 hA ⊢
  have hb0 : Below w.heap.size w (((w.alloc (.cells #[.int .i64 view, .int .i64 seq, .string op, .slice A L.length c] 46)).alloc (.cells #[.int .i64 0, .int .i64 0, .string ⟨#[]⟩, .slice none 0 0] 49)).alloc (.cells #[.int .i64 view, .int .i64 seq, .string op, .slice none 0 0] 49)) := (((Below.refl _ _).alloc (Nat.le_refl _) _).alloc (by simp) _).alloc (by simp; omega) _
  have k0 := ((Blk.fresh w 46 [.int .i64 view, .int .i64 seq, .string op, .slice A L.length c]).alloc (.cells #[.int .i64 0, .int .i64 0, .string ⟨#[]⟩, .slice none 0 0] 49)).alloc (.cells #[.int .i64 view, .int .i64 seq, .string op, .slice none 0 0] 49)
  have k1 := (Blk.fresh (w.alloc (.cells #[.int .i64 view, .int .i64 seq, .string op, .slice A L.length c] 46)) 49 [.int .i64 0, .int .i64 0, .string ⟨#[]⟩, .slice none 0 0]).alloc (.cells #[.int .i64 view, .int .i64 seq, .string op, .slice none 0 0] 49)
  have k2 := Blk.fresh ((w.alloc (.cells #[.int .i64 view, .int .i64 seq, .string op, .slice A L.length c] 46)).alloc (.cells #[.int .i64 0, .int .i64 0, .string ⟨#[]⟩, .slice none 0 0] 49)) 49 [.int .i64 view, .int .i64 seq, .string op, .slice none 0 0]
  simp only [World.size_alloc] at k0 k1 k2
  replace k0 : Blk (((w.alloc (.cells #[.int .i64 view, .int .i64 seq, .string op, .slice A L.length c] 46)).alloc (.cells #[.int .i64 0, .int .i64 0, .string ⟨#[]⟩, .slice none 0 0] 49)).alloc (.cells #[.int .i64 view, .int .i64 seq, .string op, .slice none 0 0] 49)) w.heap.size 46 [.int .i64 view, .int .i64 seq, .string op, .slice A L.length c] := k0
  replace k1 : Blk (((w.alloc (.cells #[.int .i64 view, .int .i64 seq, .string op, .slice A L.length c] 46)).alloc (.cells #[.int .i64 0, .int .i64 0, .string ⟨#[]⟩, .slice none 0 0] 49)).alloc (.cells #[.int .i64 view, .int .i64 seq, .string op, .slice none 0 0] 49)) (w.heap.size + 1) 49 [.int .i64 0, .int .i64 0, .string ⟨#[]⟩, .slice none 0 0] := k1
  replace k2 : Blk (((w.alloc (.cells #[.int .i64 view, .int .i64 seq, .string op, .slice A L.length c] 46)).alloc (.cells #[.int .i64 0, .int .i64 0, .string ⟨#[]⟩, .slice none 0 0] 49)).alloc (.cells #[.int .i64 view, .int .i64 seq, .string op, .slice none 0 0] 49)) (w.heap.size + 1 + 1) 49 [.int .i64 view, .int .i64 seq, .string op, .slice none 0 0] := k2
  go_enter Try.func34, Try.ntmps34
  go_wp2_with (fail)
  generalize (((w.alloc (.cells #[.int .i64 view, .int .i64 seq, .string op, .slice A L.length c] 46)).alloc (.cells #[.int .i64 0, .int .i64 0, .string ⟨#[]⟩, .slice none 0 0] 49)).alloc (.cells #[.int .i64 view, .int .i64 seq, .string op, .slice none 0 0] 49)) = v0 at hb0 k0 k1 k2 ⊢
  refine (toInt64S_rd A L c v0 (hA.on hb0) s1).mono ?_
  rintro e w1 ⟨g, c', rfl, hr1, hb1⟩
  have z0 := k2.lt
  have z1 := hb0.size
  have hz1 := hb1.size
  have hw1 := hb0.trans (hb1.mono hb0.size)
  replace k1 := k1.below hb1 k1.lt
  replace k2 := k2.below hb1 k2.lt
  clear k0
  have c0 := k2.cell (i := 0) rfl
  have c1 := k2.cell (i := 1) rfl
  have c2 := k2.cell (i := 2) rfl
  have c3 := k2.cell (i := 3) rfl
  have fz := k2.froz 3
  have p0 := k1.cell (i := 0) rfl
  have o0 := k1.froz 0
  have p1 := k1.cell (i := 1) rfl
  have o1 := k1.froz 1
  have p2 := k1.cell (i := 2) rfl
  have o2 := k1.froz 2
  have p3 := k1.cell (i := 3) rfl
  have o3 := k1.froz 3
  go_wp2
  have r1 := (((((k1.far (p := ⟨w.heap.size + 1 + 1, 3, none⟩) (by simp) (.slice (some ⟨g, 0, none⟩) L.length c')).put 0 (.int .i64 view)).put 1 (.int .i64 seq)).put 2 (.string op)).put 3 (.slice (some ⟨g, 0, none⟩) L.length c'))
  have r3 := (((((hr1.set (q := ⟨w.heap.size + 1 + 1, 3, none⟩) (by simp; omega) (.slice (some ⟨g, 0, none⟩) L.length c')).set (q := ⟨w.heap.size + 1, 0, none⟩) (by simp; omega) (.int .i64 view)).set (q := ⟨w.heap.size + 1, 1, none⟩) (by simp; omega) (.int .i64 seq)).set (q := ⟨w.heap.size + 1, 2, none⟩) (by simp; omega) (.string op)).set (q := ⟨w.heap.size + 1, 3, none⟩) (by simp; omega) (.slice (some ⟨g, 0, none⟩) L.length c'))
  have r4 := (((((hw1.setCell (p := ⟨w.heap.size + 1 + 1, 3, none⟩) (by simp; try omega) (.slice (some ⟨g, 0, none⟩) L.length c')).setCell (p := ⟨w.heap.size + 1, 0, none⟩) (by simp; try omega) (.int .i64 view)).setCell (p := ⟨w.heap.size + 1, 1, none⟩) (by simp; try omega) (.int .i64 seq)).setCell (p := ⟨w.heap.size + 1, 2, none⟩) (by simp; try omega) (.string op)).setCell (p := ⟨w.heap.size + 1, 3, none⟩) (by simp; try omega) (.slice (some ⟨g, 0, none⟩) L.length c'))
  have r6 : (((((w1.setCell ⟨w.heap.size + 1 + 1, 3, none⟩ (.slice (some ⟨g, 0, none⟩) L.length c')).setCell ⟨w.heap.size + 1, 0, none⟩ (.int .i64 view)).setCell ⟨w.heap.size + 1, 1, none⟩ (.int .i64 seq)).setCell ⟨w.heap.size + 1, 2, none⟩ (.string op)).setCell ⟨w.heap.size + 1, 3, none⟩ (.slice (some ⟨g, 0, none⟩) L.length c')).heap.size = w1.heap.size := by simp [World.setCell]
  simp only [List.set_cons_succ, List.set_cons_zero] at r1
  generalize (((((w1.setCell ⟨w.heap.size + 1 + 1, 3, none⟩ (.slice (some ⟨g, 0, none⟩) L.length c')).setCell ⟨w.heap.size + 1, 0, none⟩ (.int .i64 view)).setCell ⟨w.heap.size + 1, 1, none⟩ (.int .i64 seq)).setCell ⟨w.heap.size + 1, 2, none⟩ (.string op)).setCell ⟨w.heap.size + 1, 3, none⟩ (.slice (some ⟨g, 0, none⟩) L.length c')) = w9 at r1 r3 r4 r6 ⊢
  have x0 := r1.cell (i := 0) rfl
  have x1 := r1.cell (i := 1) rfl
  have x2 := r1.cell (i := 2) rfl
  have x3 := r1.cell (i := 3) rfl
  exact bodyPost_ret (v := .agg #[.int .i64 view, .int .i64 seq, .string op, .slice (some ⟨g, 0, none⟩) L.length c']) (by simp [results, Try.results34, go_sem, x0, x1, x2, x3]) rfl ⟨g, c', rfl, r3.mono (by omega) (by omega), r4⟩
set_option maxHeartbeats 2000000 in
theorem toProofS_rd (A : Option Addr) (L : List Prf) (c : Nat) (w : World) (hL : Prs w 0 w.heap.size A L) (hn : L.length ≤ 1048576) (hs : ∀ i (h : i < L.length), L[i].small) :
    Calls Try.prog 88 #[.slice A L.length c] w fun e w' => ∃ g c', e = .returned (.slice (some ⟨g, 0, none⟩) L.length c') ∧ Prs w' w.heap.size w'.heap.size (some ⟨g, 0, none⟩) L ∧ Below w.heap.size w w' := by
  obtain ⟨i0, hi, hz0, hz1, hz2⟩ := info_parts infoPrf
  have hn1 : (L.length : Int) ≤ 1048576 := by omega
  go_enter Try.func88, Try.ntmps88
  go_wp2_with (at_make; refine wpList_make_full _ rfl _ _ 58 rfl w.heap.size 49 i0 (.agg #[.int .i64 0, .int .i64 0, .string ⟨#[]⟩, .slice none 0 0]) 4 Try.underlying58 hi hz0 hz1 _ _ _ _ L.length rfl rfl rfl rfl (by rw [hz2]; omega) (by unfold maxLen; omega) (Nat.le_refl _) ?_; intro w1 hrow hg1)
  have hrow' : w1.ownsRow w.heap.size 49 4 (.slice (some ⟨w.heap.size, 0, none⟩) L.length L.length) L.length (pflat (List.replicate L.length zeroPrf)) := by
    rw [← pflat_made]; exact hrow
  clear hrow
  have hb0 : Below w.heap.size w w1 := ⟨hg1.os, hg1.tape, hg1.output, hg1.size, fun k hk => hg1.block k hk (by simp)⟩
  have hs1 : w.heap.size < w1.heap.size := (hrow'.lt w.heap.size rfl).2
  go_loopw [4] (fun i wr => ∃ (k : Nat) (M : List PrfA), k ≤ L.length ∧ i = .int .i64 k ∧ M.length = k ∧ M.map (·.t) = L.take k ∧ wr.ownsRow w.heap.size 49 4 (.slice (some ⟨w.heap.size, 0, none⟩) L.length L.length) L.length (pflat (M ++ List.replicate (L.length - k) zeroPrf)) ∧ w.heap.size + 1 ≤ wr.heap.size ∧ PrfAs wr (w.heap.size + 1) wr.heap.size M ∧ Below w.heap.size w wr) (fun i _ => L.length - (intOf i).toNat)
  case atStart => exact ⟨0, [], by omega, rfl, rfl, rfl, by simpa using hrow', hs1, fun i h => absurd h (by simp), hb0⟩
  case round =>
    obtain ⟨k, M, hk, rfl, hMl, hMt, hr, lz, hly, hb⟩ := hrel
    have HM := Lib.hid hMl
    have HT := Lib.hid hMt
    clear hMl hMt
    by_cases hlt : k < L.length
    · obtain ⟨a, rfl, hab, C, c1, e0, e1, e2, e3, hC⟩ := (hL.on hb).at k hlt
      have TT := Lib.hid (toProof_any L[k] C c1 wr (hs k hlt) hC)
      go_wp2_with (fail)
      refine TT.out.mono ?_
      rintro e w2 ⟨g, c2, rfl, hr1, hb2⟩
      have hr3 := row_below hr hb2 (Nat.le_refl _)
      have hly2 := hly.on hb2
      obtain ⟨y0, y1, y2, y3, f0, f1, f2, f3⟩ := row_p hr3 (k := k) (by simp [HM.out]; omega)
      have hp := row_pput hr3 k ⟨L[k], some ⟨g, 0, none⟩, c2⟩
      rw [sput_mid M zeroPrf _ HM.out hlt] at hp
      have hw2 := hb.trans (hb2.mono hb.size)
      have hz2 := hb2.size
      have q1 := ((((hr1.set (q := ⟨w.heap.size, k * 4, none⟩) (by simp; omega) (.int .i64 L[k].view)).set (q := ⟨w.heap.size, k * 4 + 1, none⟩) (by simp; omega) (.int .i64 L[k].seq)).set (q := ⟨w.heap.size, k * 4 + 2, none⟩) (by simp; omega) (.string L[k].op)).set (q := ⟨w.heap.size, k * 4 + 3, none⟩) (by simp; omega) (.slice (some ⟨g, 0, none⟩) L[k].who.length c2))
      have q3 := ((((hly2.set (q := ⟨w.heap.size, k * 4, none⟩) (by simp) (.int .i64 L[k].view)).set (q := ⟨w.heap.size, k * 4 + 1, none⟩) (by simp) (.int .i64 L[k].seq)).set (q := ⟨w.heap.size, k * 4 + 2, none⟩) (by simp) (.string L[k].op)).set (q := ⟨w.heap.size, k * 4 + 3, none⟩) (by simp) (.slice (some ⟨g, 0, none⟩) L[k].who.length c2))
      have q4 := ((((hw2.setCell (p := ⟨w.heap.size, k * 4, none⟩) (Nat.le_refl _) (.int .i64 L[k].view)).setCell (p := ⟨w.heap.size, k * 4 + 1, none⟩) (Nat.le_refl _) (.int .i64 L[k].seq)).setCell (p := ⟨w.heap.size, k * 4 + 2, none⟩) (Nat.le_refl _) (.string L[k].op)).setCell (p := ⟨w.heap.size, k * 4 + 3, none⟩) (Nat.le_refl _) (.slice (some ⟨g, 0, none⟩) L[k].who.length c2))
      have qz : ((((w2.setCell ⟨w.heap.size, k * 4, none⟩ (.int .i64 L[k].view)).setCell ⟨w.heap.size, k * 4 + 1, none⟩ (.int .i64 L[k].seq)).setCell ⟨w.heap.size, k * 4 + 2, none⟩ (.string L[k].op)).setCell ⟨w.heap.size, k * 4 + 3, none⟩ (.slice (some ⟨g, 0, none⟩) L[k].who.length c2)).heap.size = w2.heap.size := by simp [World.setCell]
      have QZ := Lib.hid qz
      clear qz hr1 hly2 hr3
      go_wp2
      refine ⟨⟨k + 1, M ++ [⟨L[k], some ⟨g, 0, none⟩, c2⟩], by omega, by go_num, by simp [HM.out], ?_, hp, ?_, ?_, q4⟩, by simp [intOf]; omega⟩
      · rw [List.map_append, HT.out, List.map_singleton, List.take_succ_eq_append_getElem hlt]
      · rw [QZ.out]; omega
      · rw [QZ.out]
        exact q3.snoc (q1.mono lz (Nat.le_refl _))
    · obtain rfl : k = L.length := by omega
      go_wp2
      go_ret
      have hMt := HT.out
      rw [List.take_of_length_le (Nat.le_refl _)] at hMt
      rw [Nat.sub_self, List.replicate_zero, List.append_nil] at hr
      refine ⟨_, _, rfl, ?_, hb⟩
      have hq := PrfAs.rd hr HM.out hly (by omega) (Nat.le_refl _)
      rw [hMt] at hq
      exact hq
set_option maxHeartbeats 2000000 in
theorem eqProof_same (t : Prf) (A B : Option Addr) (c d : Nat) (w : World) {l m : Nat} (hA : Ints w l w.heap.size A t.who) (hB : Ints w m w.heap.size B t.who) :
    Calls Try.prog 36 #[prfV t (.slice A t.who.length c), prfV t (.slice B t.who.length d)] w fun e w' => e = .returned (.bool true) ∧ Below w.heap.size w w' := by
  obtain ⟨view, seq, op, L⟩ := t
  simp only at hA hB ⊢
  have hb0 : Below w.heap.size w ((w.alloc (.cells #[.int .i64 view, .int .i64 seq, .string op, .slice A L.length c] 49)).alloc (.cells #[.int .i64 view, .int .i64 seq, .string op, .slice B L.length d] 49)) := ((Below.refl _ w).alloc (Nat.le_refl _) _).alloc (by simp) _
  have HE := Lib.hid (fun W (h : Below w.heap.size w W) => eqInt64S_rd A B L c d W (hA.on h) (hB.on h))
  go_enter Try.func36, Try.ntmps36
  go_wp2_with (fail)
  refine (HE.out _ hb0).mono ?_
  rintro e w1 ⟨rfl, hb1⟩
  go_wp2
  go_ret
  exact ⟨rfl, hb0.trans (hb1.mono hb0.size)⟩
set_option maxHeartbeats 2000000 in
theorem eqProofS_same (A B : Option Addr) (L : List Prf) (c d : Nat) (w : World) {l m : Nat} (hA : Prs w l w.heap.size A L) (hB : Prs w m w.heap.size B L) :
    Calls Try.prog 91 #[.slice A L.length c, .slice B L.length d] w fun e w' => e = .returned (.bool true) ∧ Below w.heap.size w w' := by
  have hn := hA.1
  unfold maxLen at hn
  go_enter Try.func91, Try.ntmps91
  go_wp2
  go_loopw [5] (fun i wr => ∃ k : Nat, k ≤ L.length ∧ i = .int .i64 k ∧ Below w.heap.size w wr) (fun i _ => L.length - (intOf i).toNat)
  case atStart => exact ⟨0, by omega, rfl, Below.refl _ _⟩
  case round =>
    obtain ⟨k, hk, rfl, hb⟩ := hrel
    by_cases hlt : k < L.length
    · obtain ⟨a, rfl, hab, C, c1, a0, a1, a2, a3, hC⟩ := (hA.on hb).at k hlt
      obtain ⟨b, rfl, hbb, E, e1, b0, b1, b2, b3, hE⟩ := (hB.on hb).at k hlt
      obtain ⟨I, f, hI, g0, gk, gc, ge⟩ := class_grown wr
      have x0 := fun s => kept_cell (gk s) a0
      have y0 := fun s => kept_cell (gk s) b0
      have x1 := fun s => kept_cell (gk s) a1
      have y1 := fun s => kept_cell (gk s) b1
      have x2 := fun s => kept_cell (gk s) a2
      have y2 := fun s => kept_cell (gk s) b2
      have x3 := fun s => kept_cell (gk s) a3
      have y3 := fun s => kept_cell (gk s) b3
      have EQ := Lib.hid (fun s => eqProof_same L[k] C E c1 e1 (f s) (hC.on (gk s)) (hE.on (gk s)))
      have hlt' : (k : Int) < (L.length : Int) := by omega
      clear a0 b0 a1 b1 a2 b2 a3 b3
      go_wp2
      refine wp_region_kept f (by kernel_rfl) (by kernel_rfl) g0 ?_
      repeat (first
        | go_big_quiet_skip
        | (go_big_quiet_want; go_big_quiet_op; first | go_big_quiet_on | (apply Exists.intro; refine ⟨fun s => ?_, ?_⟩; (go_at_call 36; refine (EQ.out _).mono ?_; rintro e w4 ⟨rfl, hb4⟩; exact ⟨rfl, gc _ _ hb4⟩); go_big_quiet_on)))
      refine wpQuiet_nil ?_
      intro w5 h5
      have hb5 := ge _ h5
      go_wp2
      exact ⟨⟨k + 1, by omega, by go_num, hb.trans (hb5.mono hb.size)⟩, by simp [intOf]; omega⟩
    · obtain rfl : k = L.length := by omega
      go_wp2
      go_ret
      exact ⟨rfl, hb⟩
set_option maxHeartbeats 2000000 in
theorem toChange_any (t : Cng) (A : Option Addr) (c : Nat) (w : World) (hs : t.small) (hA : Prs w 0 w.heap.size A t.proofs) :
    Calls Try.prog 39 #[cngV t (.slice A t.proofs.length c)] w fun e w' => ∃ g c', e = .returned (cngV t (.slice (some ⟨g, 0, none⟩) t.proofs.length c')) ∧ Prs w' w.heap.size w'.heap.size (some ⟨g, 0, none⟩) t.proofs ∧ Below w.heap.size w w' := by
  obtain ⟨frm, view, L⟩ := t
  obtain ⟨s0, s1⟩ := hs
  simp only at s0 s1 hA ⊢
  have hb0 : Below w.heap.size w (((w.alloc (.cells #[.int .i64 frm, .int .i64 view, .slice A L.length c] 55)).alloc (.cells #[.int .i64 0, .int .i64 0, .slice none 0 0] 60)).alloc (.cells #[.int .i64 frm, .int .i64 view, .slice none 0 0] 60)) := (((Below.refl _ _).alloc (Nat.le_refl _) _).alloc (by simp) _).alloc (by simp; omega) _
  have k0 := ((Blk.fresh w 55 [.int .i64 frm, .int .i64 view, .slice A L.length c]).alloc (.cells #[.int .i64 0, .int .i64 0, .slice none 0 0] 60)).alloc (.cells #[.int .i64 frm, .int .i64 view, .slice none 0 0] 60)
  have k1 := (Blk.fresh (w.alloc (.cells #[.int .i64 frm, .int .i64 view, .slice A L.length c] 55)) 60 [.int .i64 0, .int .i64 0, .slice none 0 0]).alloc (.cells #[.int .i64 frm, .int .i64 view, .slice none 0 0] 60)
  have k2 := Blk.fresh ((w.alloc (.cells #[.int .i64 frm, .int .i64 view, .slice A L.length c] 55)).alloc (.cells #[.int .i64 0, .int .i64 0, .slice none 0 0] 60)) 60 [.int .i64 frm, .int .i64 view, .slice none 0 0]
  simp only [World.size_alloc] at k0 k1 k2
  replace k0 : Blk (((w.alloc (.cells #[.int .i64 frm, .int .i64 view, .slice A L.length c] 55)).alloc (.cells #[.int .i64 0, .int .i64 0, .slice none 0 0] 60)).alloc (.cells #[.int .i64 frm, .int .i64 view, .slice none 0 0] 60)) w.heap.size 55 [.int .i64 frm, .int .i64 view, .slice A L.length c] := k0
  replace k1 : Blk (((w.alloc (.cells #[.int .i64 frm, .int .i64 view, .slice A L.length c] 55)).alloc (.cells #[.int .i64 0, .int .i64 0, .slice none 0 0] 60)).alloc (.cells #[.int .i64 frm, .int .i64 view, .slice none 0 0] 60)) (w.heap.size + 1) 60 [.int .i64 0, .int .i64 0, .slice none 0 0] := k1
  replace k2 : Blk (((w.alloc (.cells #[.int .i64 frm, .int .i64 view, .slice A L.length c] 55)).alloc (.cells #[.int .i64 0, .int .i64 0, .slice none 0 0] 60)).alloc (.cells #[.int .i64 frm, .int .i64 view, .slice none 0 0] 60)) (w.heap.size + 1 + 1) 60 [.int .i64 frm, .int .i64 view, .slice none 0 0] := k2
  go_enter Try.func39, Try.ntmps39
  go_wp2_with (fail)
  generalize (((w.alloc (.cells #[.int .i64 frm, .int .i64 view, .slice A L.length c] 55)).alloc (.cells #[.int .i64 0, .int .i64 0, .slice none 0 0] 60)).alloc (.cells #[.int .i64 frm, .int .i64 view, .slice none 0 0] 60)) = v0 at hb0 k0 k1 k2 ⊢
  refine (toProofS_rd A L c v0 (hA.on hb0) s0 s1).mono ?_
  rintro e w1 ⟨g, c', rfl, hr1, hb1⟩
  have z0 := k2.lt
  have z1 := hb0.size
  have hz1 := hb1.size
  have hw1 := hb0.trans (hb1.mono hb0.size)
  replace k1 := k1.below hb1 k1.lt
  replace k2 := k2.below hb1 k2.lt
  clear k0
  have c0 := k2.cell (i := 0) rfl
  have c1 := k2.cell (i := 1) rfl
  have c2 := k2.cell (i := 2) rfl
  have fz := k2.froz 2
  have p0 := k1.cell (i := 0) rfl
  have o0 := k1.froz 0
  have p1 := k1.cell (i := 1) rfl
  have o1 := k1.froz 1
  have p2 := k1.cell (i := 2) rfl
  have o2 := k1.froz 2
  go_wp2
  have r1 := ((((k1.far (p := ⟨w.heap.size + 1 + 1, 2, none⟩) (by simp) (.slice (some ⟨g, 0, none⟩) L.length c')).put 0 (.int .i64 frm)).put 1 (.int .i64 view)).put 2 (.slice (some ⟨g, 0, none⟩) L.length c'))
  have r3 := ((((hr1.set (q := ⟨w.heap.size + 1 + 1, 2, none⟩) (by simp; omega) (.slice (some ⟨g, 0, none⟩) L.length c')).set (q := ⟨w.heap.size + 1, 0, none⟩) (by simp; omega) (.int .i64 frm)).set (q := ⟨w.heap.size + 1, 1, none⟩) (by simp; omega) (.int .i64 view)).set (q := ⟨w.heap.size + 1, 2, none⟩) (by simp; omega) (.slice (some ⟨g, 0, none⟩) L.length c'))
  have r4 := ((((hw1.setCell (p := ⟨w.heap.size + 1 + 1, 2, none⟩) (by simp; try omega) (.slice (some ⟨g, 0, none⟩) L.length c')).setCell (p := ⟨w.heap.size + 1, 0, none⟩) (by simp; try omega) (.int .i64 frm)).setCell (p := ⟨w.heap.size + 1, 1, none⟩) (by simp; try omega) (.int .i64 view)).setCell (p := ⟨w.heap.size + 1, 2, none⟩) (by simp; try omega) (.slice (some ⟨g, 0, none⟩) L.length c'))
  have r6 : ((((w1.setCell ⟨w.heap.size + 1 + 1, 2, none⟩ (.slice (some ⟨g, 0, none⟩) L.length c')).setCell ⟨w.heap.size + 1, 0, none⟩ (.int .i64 frm)).setCell ⟨w.heap.size + 1, 1, none⟩ (.int .i64 view)).setCell ⟨w.heap.size + 1, 2, none⟩ (.slice (some ⟨g, 0, none⟩) L.length c')).heap.size = w1.heap.size := by simp [World.setCell]
  simp only [List.set_cons_succ, List.set_cons_zero] at r1
  generalize ((((w1.setCell ⟨w.heap.size + 1 + 1, 2, none⟩ (.slice (some ⟨g, 0, none⟩) L.length c')).setCell ⟨w.heap.size + 1, 0, none⟩ (.int .i64 frm)).setCell ⟨w.heap.size + 1, 1, none⟩ (.int .i64 view)).setCell ⟨w.heap.size + 1, 2, none⟩ (.slice (some ⟨g, 0, none⟩) L.length c')) = w9 at r1 r3 r4 r6 ⊢
  have x0 := r1.cell (i := 0) rfl
  have x1 := r1.cell (i := 1) rfl
  have x2 := r1.cell (i := 2) rfl
  exact bodyPost_ret (v := .agg #[.int .i64 frm, .int .i64 view, .slice (some ⟨g, 0, none⟩) L.length c']) (by simp [results, Try.results39, go_sem, x0, x1, x2]) rfl ⟨g, c', rfl, r3.mono (by omega) (by omega), r4⟩
set_option maxHeartbeats 2000000 in
theorem toChangeS_rd (A : Option Addr) (L : List Cng) (c : Nat) (w : World) (hL : Chs w 0 w.heap.size A L) (hn : L.length ≤ 1048576) (hs : ∀ i (h : i < L.length), L[i].small) :
    Calls Try.prog 95 #[.slice A L.length c] w fun e w' => ∃ g c', e = .returned (.slice (some ⟨g, 0, none⟩) L.length c') ∧ Chs w' w.heap.size w'.heap.size (some ⟨g, 0, none⟩) L ∧ Below w.heap.size w w' := by
  obtain ⟨i0, hi, hz0, hz1, hz2⟩ := info_parts infoCng
  have hn1 : (L.length : Int) ≤ 1048576 := by omega
  go_enter Try.func95, Try.ntmps95
  go_wp2_with (at_make; refine wpList_make_full _ rfl _ _ 69 rfl w.heap.size 60 i0 (.agg #[.int .i64 0, .int .i64 0, .slice none 0 0]) 3 Try.underlying69 hi hz0 hz1 _ _ _ _ L.length rfl rfl rfl rfl (by rw [hz2]; omega) (by unfold maxLen; omega) (Nat.le_refl _) ?_; intro w1 hrow hg1)
  have hrow' : w1.ownsRow w.heap.size 60 3 (.slice (some ⟨w.heap.size, 0, none⟩) L.length L.length) L.length (cflat (List.replicate L.length zeroCng)) := by
    rw [← cflat_made]; exact hrow
  clear hrow
  have hb0 : Below w.heap.size w w1 := ⟨hg1.os, hg1.tape, hg1.output, hg1.size, fun k hk => hg1.block k hk (by simp)⟩
  have hs1 : w.heap.size < w1.heap.size := (hrow'.lt w.heap.size rfl).2
  go_loopw [4] (fun i wr => ∃ (k : Nat) (M : List CngA), k ≤ L.length ∧ i = .int .i64 k ∧ M.length = k ∧ M.map (·.t) = L.take k ∧ wr.ownsRow w.heap.size 60 3 (.slice (some ⟨w.heap.size, 0, none⟩) L.length L.length) L.length (cflat (M ++ List.replicate (L.length - k) zeroCng)) ∧ w.heap.size + 1 ≤ wr.heap.size ∧ CngAs wr (w.heap.size + 1) wr.heap.size M ∧ Below w.heap.size w wr) (fun i _ => L.length - (intOf i).toNat)
  case atStart => exact ⟨0, [], by omega, rfl, rfl, rfl, by simpa using hrow', hs1, fun i h => absurd h (by simp), hb0⟩
  case round =>
    obtain ⟨k, M, hk, rfl, hMl, hMt, hr, lz, hly, hb⟩ := hrel
    have HM := Lib.hid hMl
    have HT := Lib.hid hMt
    clear hMl hMt
    by_cases hlt : k < L.length
    · obtain ⟨a, rfl, hab, C, c1, e0, e1, e2, hC⟩ := (hL.on hb).at k hlt
      have TT := Lib.hid (toChange_any L[k] C c1 wr (hs k hlt) hC)
      go_wp2_with (fail)
      refine TT.out.mono ?_
      rintro e w2 ⟨g, c2, rfl, hr1, hb2⟩
      have hr3 := row_below hr hb2 (Nat.le_refl _)
      have hly2 := hly.on hb2
      obtain ⟨y0, y1, y2, f0, f1, f2⟩ := row_c hr3 (k := k) (by simp [HM.out]; omega)
      have hp := row_cput hr3 k ⟨L[k], some ⟨g, 0, none⟩, c2⟩
      rw [sput_mid M zeroCng _ HM.out hlt] at hp
      have hw2 := hb.trans (hb2.mono hb.size)
      have hz2 := hb2.size
      have q1 := (((hr1.set (q := ⟨w.heap.size, k * 3, none⟩) (by simp; omega) (.int .i64 L[k].frm)).set (q := ⟨w.heap.size, k * 3 + 1, none⟩) (by simp; omega) (.int .i64 L[k].view)).set (q := ⟨w.heap.size, k * 3 + 2, none⟩) (by simp; omega) (.slice (some ⟨g, 0, none⟩) L[k].proofs.length c2))
      have q3 := (((hly2.set (q := ⟨w.heap.size, k * 3, none⟩) (by simp) (.int .i64 L[k].frm)).set (q := ⟨w.heap.size, k * 3 + 1, none⟩) (by simp) (.int .i64 L[k].view)).set (q := ⟨w.heap.size, k * 3 + 2, none⟩) (by simp) (.slice (some ⟨g, 0, none⟩) L[k].proofs.length c2))
      have q4 := (((hw2.setCell (p := ⟨w.heap.size, k * 3, none⟩) (Nat.le_refl _) (.int .i64 L[k].frm)).setCell (p := ⟨w.heap.size, k * 3 + 1, none⟩) (Nat.le_refl _) (.int .i64 L[k].view)).setCell (p := ⟨w.heap.size, k * 3 + 2, none⟩) (Nat.le_refl _) (.slice (some ⟨g, 0, none⟩) L[k].proofs.length c2))
      have qz : (((w2.setCell ⟨w.heap.size, k * 3, none⟩ (.int .i64 L[k].frm)).setCell ⟨w.heap.size, k * 3 + 1, none⟩ (.int .i64 L[k].view)).setCell ⟨w.heap.size, k * 3 + 2, none⟩ (.slice (some ⟨g, 0, none⟩) L[k].proofs.length c2)).heap.size = w2.heap.size := by simp [World.setCell]
      have QZ := Lib.hid qz
      clear qz hr1 hly2 hr3
      go_wp2
      refine ⟨⟨k + 1, M ++ [⟨L[k], some ⟨g, 0, none⟩, c2⟩], by omega, by go_num, by simp [HM.out], ?_, hp, ?_, ?_, q4⟩, by simp [intOf]; omega⟩
      · rw [List.map_append, HT.out, List.map_singleton, List.take_succ_eq_append_getElem hlt]
      · rw [QZ.out]; omega
      · rw [QZ.out]
        exact q3.snoc (q1.mono lz (Nat.le_refl _))
    · obtain rfl : k = L.length := by omega
      go_wp2
      go_ret
      have hMt := HT.out
      rw [List.take_of_length_le (Nat.le_refl _)] at hMt
      rw [Nat.sub_self, List.replicate_zero, List.append_nil] at hr
      refine ⟨_, _, rfl, ?_, hb⟩
      have hq := CngAs.rd hr HM.out hly (by omega) (Nat.le_refl _)
      rw [hMt] at hq
      exact hq
set_option maxHeartbeats 2000000 in
theorem eqChange_same (t : Cng) (A B : Option Addr) (c d : Nat) (w : World) {l m : Nat} (hA : Prs w l w.heap.size A t.proofs) (hB : Prs w m w.heap.size B t.proofs) :
    Calls Try.prog 41 #[cngV t (.slice A t.proofs.length c), cngV t (.slice B t.proofs.length d)] w fun e w' => e = .returned (.bool true) ∧ Below w.heap.size w w' := by
  obtain ⟨frm, view, L⟩ := t
  simp only at hA hB ⊢
  have hb0 : Below w.heap.size w ((w.alloc (.cells #[.int .i64 frm, .int .i64 view, .slice A L.length c] 60)).alloc (.cells #[.int .i64 frm, .int .i64 view, .slice B L.length d] 60)) := ((Below.refl _ w).alloc (Nat.le_refl _) _).alloc (by simp) _
  have HE := Lib.hid (fun W (h : Below w.heap.size w W) => eqProofS_same A B L c d W (hA.on h) (hB.on h))
  go_enter Try.func41, Try.ntmps41
  go_wp2_with (fail)
  refine (HE.out _ hb0).mono ?_
  rintro e w1 ⟨rfl, hb1⟩
  go_wp2
  go_ret
  exact ⟨rfl, hb0.trans (hb1.mono hb0.size)⟩
set_option maxHeartbeats 2000000 in
theorem eqChangeS_same (A B : Option Addr) (L : List Cng) (c d : Nat) (w : World) {l m : Nat} (hA : Chs w l w.heap.size A L) (hB : Chs w m w.heap.size B L) :
    Calls Try.prog 100 #[.slice A L.length c, .slice B L.length d] w fun e w' => e = .returned (.bool true) ∧ Below w.heap.size w w' := by
  have hn := hA.1
  unfold maxLen at hn
  go_enter Try.func100, Try.ntmps100
  go_wp2
  go_loopw [5] (fun i wr => ∃ k : Nat, k ≤ L.length ∧ i = .int .i64 k ∧ Below w.heap.size w wr) (fun i _ => L.length - (intOf i).toNat)
  case atStart => exact ⟨0, by omega, rfl, Below.refl _ _⟩
  case round =>
    obtain ⟨k, hk, rfl, hb⟩ := hrel
    by_cases hlt : k < L.length
    · obtain ⟨a, rfl, hab, C, c1, a0, a1, a2, hC⟩ := (hA.on hb).at k hlt
      obtain ⟨b, rfl, hbb, E, e1, b0, b1, b2, hE⟩ := (hB.on hb).at k hlt
      obtain ⟨I, f, hI, g0, gk, gc, ge⟩ := class_grown wr
      have x0 := fun s => kept_cell (gk s) a0
      have y0 := fun s => kept_cell (gk s) b0
      have x1 := fun s => kept_cell (gk s) a1
      have y1 := fun s => kept_cell (gk s) b1
      have x2 := fun s => kept_cell (gk s) a2
      have y2 := fun s => kept_cell (gk s) b2
      have EQ := Lib.hid (fun s => eqChange_same L[k] C E c1 e1 (f s) (hC.on (gk s)) (hE.on (gk s)))
      have hlt' : (k : Int) < (L.length : Int) := by omega
      clear a0 b0 a1 b1 a2 b2
      go_wp2
      refine wp_region_kept f (by kernel_rfl) (by kernel_rfl) g0 ?_
      repeat (first
        | go_big_quiet_skip
        | (go_big_quiet_want; go_big_quiet_op; first | go_big_quiet_on | (apply Exists.intro; refine ⟨fun s => ?_, ?_⟩; (go_at_call 41; refine (EQ.out _).mono ?_; rintro e w4 ⟨rfl, hb4⟩; exact ⟨rfl, gc _ _ hb4⟩); go_big_quiet_on)))
      refine wpQuiet_nil ?_
      intro w5 h5
      have hb5 := ge _ h5
      go_wp2
      exact ⟨⟨k + 1, by omega, by go_num, hb.trans (hb5.mono hb.size)⟩, by simp [intOf]; omega⟩
    · obtain rfl : k = L.length := by omega
      go_wp2
      go_ret
      exact ⟨rfl, hb⟩
set_option maxHeartbeats 2000000 in
theorem toSay_any (t : Sy) (A : Option Addr) (c : Nat) (w : World) (hs : t.small) (hA : Chs w 0 w.heap.size A t.changes) :
    Calls Try.prog 44 #[syV t (.slice A t.changes.length c)] w fun e w' => ∃ g c', e = .returned (syV t (.slice (some ⟨g, 0, none⟩) t.changes.length c')) ∧ Chs w' w.heap.size w'.heap.size (some ⟨g, 0, none⟩) t.changes ∧ Below w.heap.size w w' := by
  obtain ⟨kind, frm, view, seq, op, L⟩ := t
  obtain ⟨s0, s1, s2⟩ := hs
  simp only at s0 s1 s2 hA ⊢
  have hb0 : Below w.heap.size w (((w.alloc (.cells #[.int .i64 kind, .int .i64 frm, .int .i64 view, .int .i64 seq, .string op, .slice A L.length c] 66)).alloc (.cells #[.int .i64 0, .int .i64 0, .int .i64 0, .int .i64 0, .string ⟨#[]⟩, .slice none 0 0] 71)).alloc (.cells #[.int .i64 kind, .int .i64 frm, .int .i64 view, .int .i64 seq, .string op, .slice none 0 0] 71)) := (((Below.refl _ _).alloc (Nat.le_refl _) _).alloc (by simp) _).alloc (by simp; omega) _
  have k0 := ((Blk.fresh w 66 [.int .i64 kind, .int .i64 frm, .int .i64 view, .int .i64 seq, .string op, .slice A L.length c]).alloc (.cells #[.int .i64 0, .int .i64 0, .int .i64 0, .int .i64 0, .string ⟨#[]⟩, .slice none 0 0] 71)).alloc (.cells #[.int .i64 kind, .int .i64 frm, .int .i64 view, .int .i64 seq, .string op, .slice none 0 0] 71)
  have k1 := (Blk.fresh (w.alloc (.cells #[.int .i64 kind, .int .i64 frm, .int .i64 view, .int .i64 seq, .string op, .slice A L.length c] 66)) 71 [.int .i64 0, .int .i64 0, .int .i64 0, .int .i64 0, .string ⟨#[]⟩, .slice none 0 0]).alloc (.cells #[.int .i64 kind, .int .i64 frm, .int .i64 view, .int .i64 seq, .string op, .slice none 0 0] 71)
  have k2 := Blk.fresh ((w.alloc (.cells #[.int .i64 kind, .int .i64 frm, .int .i64 view, .int .i64 seq, .string op, .slice A L.length c] 66)).alloc (.cells #[.int .i64 0, .int .i64 0, .int .i64 0, .int .i64 0, .string ⟨#[]⟩, .slice none 0 0] 71)) 71 [.int .i64 kind, .int .i64 frm, .int .i64 view, .int .i64 seq, .string op, .slice none 0 0]
  simp only [World.size_alloc] at k0 k1 k2
  replace k0 : Blk (((w.alloc (.cells #[.int .i64 kind, .int .i64 frm, .int .i64 view, .int .i64 seq, .string op, .slice A L.length c] 66)).alloc (.cells #[.int .i64 0, .int .i64 0, .int .i64 0, .int .i64 0, .string ⟨#[]⟩, .slice none 0 0] 71)).alloc (.cells #[.int .i64 kind, .int .i64 frm, .int .i64 view, .int .i64 seq, .string op, .slice none 0 0] 71)) w.heap.size 66 [.int .i64 kind, .int .i64 frm, .int .i64 view, .int .i64 seq, .string op, .slice A L.length c] := k0
  replace k1 : Blk (((w.alloc (.cells #[.int .i64 kind, .int .i64 frm, .int .i64 view, .int .i64 seq, .string op, .slice A L.length c] 66)).alloc (.cells #[.int .i64 0, .int .i64 0, .int .i64 0, .int .i64 0, .string ⟨#[]⟩, .slice none 0 0] 71)).alloc (.cells #[.int .i64 kind, .int .i64 frm, .int .i64 view, .int .i64 seq, .string op, .slice none 0 0] 71)) (w.heap.size + 1) 71 [.int .i64 0, .int .i64 0, .int .i64 0, .int .i64 0, .string ⟨#[]⟩, .slice none 0 0] := k1
  replace k2 : Blk (((w.alloc (.cells #[.int .i64 kind, .int .i64 frm, .int .i64 view, .int .i64 seq, .string op, .slice A L.length c] 66)).alloc (.cells #[.int .i64 0, .int .i64 0, .int .i64 0, .int .i64 0, .string ⟨#[]⟩, .slice none 0 0] 71)).alloc (.cells #[.int .i64 kind, .int .i64 frm, .int .i64 view, .int .i64 seq, .string op, .slice none 0 0] 71)) (w.heap.size + 1 + 1) 71 [.int .i64 kind, .int .i64 frm, .int .i64 view, .int .i64 seq, .string op, .slice none 0 0] := k2
  go_enter Try.func44, Try.ntmps44
  go_wp2_with (fail)
  generalize (((w.alloc (.cells #[.int .i64 kind, .int .i64 frm, .int .i64 view, .int .i64 seq, .string op, .slice A L.length c] 66)).alloc (.cells #[.int .i64 0, .int .i64 0, .int .i64 0, .int .i64 0, .string ⟨#[]⟩, .slice none 0 0] 71)).alloc (.cells #[.int .i64 kind, .int .i64 frm, .int .i64 view, .int .i64 seq, .string op, .slice none 0 0] 71)) = v0 at hb0 k0 k1 k2 ⊢
  refine (toChangeS_rd A L c v0 (hA.on hb0) s1 s2).mono ?_
  rintro e w1 ⟨g, c', rfl, hr1, hb1⟩
  have z0 := k2.lt
  have z1 := hb0.size
  have hz1 := hb1.size
  have hw1 := hb0.trans (hb1.mono hb0.size)
  replace k1 := k1.below hb1 k1.lt
  replace k2 := k2.below hb1 k2.lt
  clear k0
  have c0 := k2.cell (i := 0) rfl
  have c1 := k2.cell (i := 1) rfl
  have c2 := k2.cell (i := 2) rfl
  have c3 := k2.cell (i := 3) rfl
  have c4 := k2.cell (i := 4) rfl
  have c5 := k2.cell (i := 5) rfl
  have fz := k2.froz 5
  have p0 := k1.cell (i := 0) rfl
  have o0 := k1.froz 0
  have p1 := k1.cell (i := 1) rfl
  have o1 := k1.froz 1
  have p2 := k1.cell (i := 2) rfl
  have o2 := k1.froz 2
  have p3 := k1.cell (i := 3) rfl
  have o3 := k1.froz 3
  have p4 := k1.cell (i := 4) rfl
  have o4 := k1.froz 4
  have p5 := k1.cell (i := 5) rfl
  have o5 := k1.froz 5
  go_wp2
  have r1 := (((((((k1.far (p := ⟨w.heap.size + 1 + 1, 5, none⟩) (by simp) (.slice (some ⟨g, 0, none⟩) L.length c')).put 0 (.int .i64 kind)).put 1 (.int .i64 frm)).put 2 (.int .i64 view)).put 3 (.int .i64 seq)).put 4 (.string op)).put 5 (.slice (some ⟨g, 0, none⟩) L.length c'))
  have r3 := (((((((hr1.set (q := ⟨w.heap.size + 1 + 1, 5, none⟩) (by simp; omega) (.slice (some ⟨g, 0, none⟩) L.length c')).set (q := ⟨w.heap.size + 1, 0, none⟩) (by simp; omega) (.int .i64 kind)).set (q := ⟨w.heap.size + 1, 1, none⟩) (by simp; omega) (.int .i64 frm)).set (q := ⟨w.heap.size + 1, 2, none⟩) (by simp; omega) (.int .i64 view)).set (q := ⟨w.heap.size + 1, 3, none⟩) (by simp; omega) (.int .i64 seq)).set (q := ⟨w.heap.size + 1, 4, none⟩) (by simp; omega) (.string op)).set (q := ⟨w.heap.size + 1, 5, none⟩) (by simp; omega) (.slice (some ⟨g, 0, none⟩) L.length c'))
  have r4 := (((((((hw1.setCell (p := ⟨w.heap.size + 1 + 1, 5, none⟩) (by simp; try omega) (.slice (some ⟨g, 0, none⟩) L.length c')).setCell (p := ⟨w.heap.size + 1, 0, none⟩) (by simp; try omega) (.int .i64 kind)).setCell (p := ⟨w.heap.size + 1, 1, none⟩) (by simp; try omega) (.int .i64 frm)).setCell (p := ⟨w.heap.size + 1, 2, none⟩) (by simp; try omega) (.int .i64 view)).setCell (p := ⟨w.heap.size + 1, 3, none⟩) (by simp; try omega) (.int .i64 seq)).setCell (p := ⟨w.heap.size + 1, 4, none⟩) (by simp; try omega) (.string op)).setCell (p := ⟨w.heap.size + 1, 5, none⟩) (by simp; try omega) (.slice (some ⟨g, 0, none⟩) L.length c'))
  have r6 : (((((((w1.setCell ⟨w.heap.size + 1 + 1, 5, none⟩ (.slice (some ⟨g, 0, none⟩) L.length c')).setCell ⟨w.heap.size + 1, 0, none⟩ (.int .i64 kind)).setCell ⟨w.heap.size + 1, 1, none⟩ (.int .i64 frm)).setCell ⟨w.heap.size + 1, 2, none⟩ (.int .i64 view)).setCell ⟨w.heap.size + 1, 3, none⟩ (.int .i64 seq)).setCell ⟨w.heap.size + 1, 4, none⟩ (.string op)).setCell ⟨w.heap.size + 1, 5, none⟩ (.slice (some ⟨g, 0, none⟩) L.length c')).heap.size = w1.heap.size := by simp [World.setCell]
  simp only [List.set_cons_succ, List.set_cons_zero] at r1
  generalize (((((((w1.setCell ⟨w.heap.size + 1 + 1, 5, none⟩ (.slice (some ⟨g, 0, none⟩) L.length c')).setCell ⟨w.heap.size + 1, 0, none⟩ (.int .i64 kind)).setCell ⟨w.heap.size + 1, 1, none⟩ (.int .i64 frm)).setCell ⟨w.heap.size + 1, 2, none⟩ (.int .i64 view)).setCell ⟨w.heap.size + 1, 3, none⟩ (.int .i64 seq)).setCell ⟨w.heap.size + 1, 4, none⟩ (.string op)).setCell ⟨w.heap.size + 1, 5, none⟩ (.slice (some ⟨g, 0, none⟩) L.length c')) = w9 at r1 r3 r4 r6 ⊢
  have x0 := r1.cell (i := 0) rfl
  have x1 := r1.cell (i := 1) rfl
  have x2 := r1.cell (i := 2) rfl
  have x3 := r1.cell (i := 3) rfl
  have x4 := r1.cell (i := 4) rfl
  have x5 := r1.cell (i := 5) rfl
  exact bodyPost_ret (v := .agg #[.int .i64 kind, .int .i64 frm, .int .i64 view, .int .i64 seq, .string op, .slice (some ⟨g, 0, none⟩) L.length c']) (by simp [results, Try.results44, go_sem, x0, x1, x2, x3, x4, x5]) rfl ⟨g, c', rfl, r3.mono (by omega) (by omega), r4⟩
set_option maxHeartbeats 2000000 in
theorem eqSay_same (t : Sy) (A B : Option Addr) (c d : Nat) (w : World) {l m : Nat} (hA : Chs w l w.heap.size A t.changes) (hB : Chs w m w.heap.size B t.changes) :
    Calls Try.prog 46 #[syV t (.slice A t.changes.length c), syV t (.slice B t.changes.length d)] w fun e w' => e = .returned (.bool true) ∧ Below w.heap.size w w' := by
  obtain ⟨kind, frm, view, seq, op, L⟩ := t
  simp only at hA hB ⊢
  have hb0 : Below w.heap.size w ((w.alloc (.cells #[.int .i64 kind, .int .i64 frm, .int .i64 view, .int .i64 seq, .string op, .slice A L.length c] 71)).alloc (.cells #[.int .i64 kind, .int .i64 frm, .int .i64 view, .int .i64 seq, .string op, .slice B L.length d] 71)) := ((Below.refl _ w).alloc (Nat.le_refl _) _).alloc (by simp) _
  have HE := Lib.hid (fun W (h : Below w.heap.size w W) => eqChangeS_same A B L c d W (hA.on h) (hB.on h))
  go_enter Try.func46, Try.ntmps46
  go_wp2_with (fail)
  refine (HE.out _ hb0).mono ?_
  rintro e w1 ⟨rfl, hb1⟩
  go_wp2
  go_ret
  exact ⟨rfl, hb0.trans (hb1.mono hb0.size)⟩
end Go.Proofs.Ytjnbhppnchmeoaa

namespace Go.Proofs.Ytjnbhppnchmeoaa
open Go.RowKit Go.ChangeShapes Go.WideShapes Go.Deep
set_option linter.unusedVariables false
set_option maxRecDepth 1000000 in
theorem ints_cell {H : Type} {enc : TypeId × Value → H} {W : World} {c0 : Value} {n : Nat} {y0 : DataW H × List MemPlace} (hm' : DataW.trod enc Try.prog W 0 (fun _ => true) true n 44 [c0] = some y0) :
    ∃ A L c, c0 = .slice A L.length c ∧ Ints W 0 W.heap.size A L := by
  rcases open_ints Try.underlying44 Try.underlying2 cellsI64 hm' with ⟨h1, _⟩ | ⟨a, len, cap, zs, h1, _, hl, hc, hz, _, hcell, hwf⟩
  · injection h1 with h1 _
    subst h1
    exact ⟨none, [], 0, rfl, ⟨by simp [maxLen], fun i h => absurd h (by simp)⟩⟩
  · injection h1 with h1 _
    subst h1
    have hzl : zs.length = cap := by simpa using hz
    have htl : (zs.take len).length = len := by simp; omega
    refine ⟨some a, zs.take len, cap, by rw [htl], by rw [htl]; omega, fun i hi => ?_⟩
    have hi' : i < zs.length := by rw [htl] at hi; omega
    have hc1 := hcell i hi'
    have hg : zs.getD i 0 = (zs.take len)[i] := by rw [List.getElem_take]; simp [List.getD, hi']
    rw [hg] at hc1
    have hw := wf_i64 (hwf (zs.take len)[i] (List.mem_of_mem_take (List.getElem_mem hi)))
    exact ⟨a, rfl, Nat.zero_le _, by have := World.block_lt_of_cell? W _ hc1; rw [add_blk] at this; exact this, hc1, hw.1, hw.2⟩
theorem cellsPrf : Try.prog.cellsOf 46 = 4 := by kernel_rfl
set_option maxRecDepth 1000000 in
theorem proofs_cell {H : Type} {enc : TypeId × Value → H} {W : World} {c0 : Value} {n : Nat} {y0 : DataW H × List MemPlace} (h1 : DataW.trod enc Try.prog W 0 (fun _ => true) true n 53 [c0] = some y0) :
    ∃ A L c, c0 = .slice A L.length c ∧ Prs W 0 W.heap.size A L ∧ ∀ g ∈ L, g.fits := by
  rcases open_slice Try.underlying53 h1 with ⟨hc, _⟩ | ⟨a, len, cap, m, n', D, Pl, hc, _, hl, hm, hmm, _, hi⟩
  · injection hc with hc _
    subst hc
    exact ⟨none, [], 0, rfl, ⟨by simp [maxLen], fun i h => absurd h (by simp)⟩, fun g h => absurd h (by simp)⟩
  · injection hc with hc _
    subst hc
    have hmm' : m = cap := by simpa using hmm
    subst hmm'
    have key : ∀ i, i < len → ∃ f : Prf, (∃ C c, W.cell? (a.add (i * 4)) = some (.int .i64 f.view) ∧ W.cell? (a.add (i * 4 + 1)) = some (.int .i64 f.seq) ∧ W.cell? (a.add (i * 4 + 2)) = some (.string f.op) ∧ W.cell? (a.add (i * 4 + 3)) = some (.slice C f.who.length c) ∧ Ints W 0 W.heap.size C f.who) ∧ f.fits := by
      intro i hil
      obtain ⟨cs', hcc, ht⟩ := hi i (by omega)
      rw [cellsPrf] at hcc
      obtain ⟨_, hcl, hat⟩ := World.cells?_some hcc
      obtain ⟨ys, n2, _, _, _, hyl, hfs⟩ := DataW.trod_struct Try.underlying46 ht
      match cs', hcl with
      | [u0, u1, u2, u3], _ =>
        match ys, hyl with
        | [z0, z1, z2, z3], _ =>
          have g0 := hfs 0 _ rfl
          have g1 := hfs 1 _ rfl
          have g2 := hfs 2 _ rfl
          have g3 := hfs 3 _ rfl
          simp only [List.getElem?_cons_zero, List.getElem?_cons_succ] at g0 g1 g2 g3
          obtain ⟨k0, e0, _, q0⟩ := DataW.trod_int Try.underlying2 g0
          injection e0 with e0 _
          subst e0
          obtain ⟨k1, e1, _, q1⟩ := DataW.trod_int Try.underlying2 g1
          injection e1 with e1 _
          subst e1
          obtain ⟨k2, e2, _, q2⟩ := DataW.trod_string Try.underlying9 g2
          injection e2 with e2 _
          subst e2
          obtain ⟨C, L, c, rfl, hL⟩ := ints_cell g3
          have a0 := hat 0 (by omega)
          have a1 := hat 1 (by omega)
          have a2 := hat 2 (by omega)
          have a3 := hat 3 (by omega)
          rw [ofNat_add] at a0 a1 a2 a3
          exact ⟨⟨k0, k1, k2, L⟩, ⟨C, c, a0, a1, a2, a3, hL⟩, wf_i64 q0, wf_i64 q1, q2⟩
    let F : Nat → Prf := fun i => if h : i < len then (key i h).choose else default
    have hF : ∀ i, i < len → (∃ C c, W.cell? (a.add (i * 4)) = some (.int .i64 (F i).view) ∧ W.cell? (a.add (i * 4 + 1)) = some (.int .i64 (F i).seq) ∧ W.cell? (a.add (i * 4 + 2)) = some (.string (F i).op) ∧ W.cell? (a.add (i * 4 + 3)) = some (.slice C (F i).who.length c) ∧ Ints W 0 W.heap.size C (F i).who) ∧ (F i).fits := by
      intro i hil
      simp only [F, hil, dif_pos]
      exact (key i hil).choose_spec
    refine ⟨some a, (List.range len).map F, m, by simp, ⟨by simp; omega, fun i hi => ?_⟩, fun g hg => ?_⟩
    · have hil : i < len := by simpa using hi
      obtain ⟨⟨C, c, c0, c1, c2, c3, hC⟩, _⟩ := hF i hil
      have hbl := World.block_lt_of_cell? W _ c0
      rw [add_blk] at hbl
      exact ⟨a, rfl, Nat.zero_le _, hbl, C, c, by simpa using c0, by simpa using c1, by simpa using c2, by simpa using c3, by simpa using hC⟩
    · obtain ⟨i, hi, rfl⟩ := List.mem_map.1 hg
      exact (hF i (by simpa using hi)).2
theorem cellsSlPrf : Try.prog.cellsOf 44 = 1 := by kernel_rfl
theorem cells1Prf : Try.prog.cellsOf 2 = 1 := by kernel_rfl
theorem cells2Prf : Try.prog.cellsOf 9 = 1 := by kernel_rfl
set_option maxRecDepth 1000000 in
/-- What is known of one that came in. -/
theorem proof_arg {H : Type} {enc : TypeId × Value → H} {W : World} {r : Reach} {b0 : Nat} {v : Value} {d : DataW H} {p : List MemPlace} (hval : Value.okWide Try.prog W r b0 46 v) (h : DataW.Trod enc Try.prog W 0 (fun _ => true) true 46 v d p) :
    ∃ (t : Prf) (A : Option Addr) (c : Nat), v = prfV t (.slice A t.who.length c) ∧ t.fits ∧ Ints W 0 W.heap.size A t.who := by
  obtain ⟨cs, rfl, hsz⟩ := okWide_struct Try.underlying46 hval
  rw [cellsPrf] at hsz
  obtain ⟨l⟩ := cs
  match l, hsz with
  | [u0, u1, u2, u3], _ =>
    obtain ⟨fuel, hf⟩ := h
    obtain ⟨ys, n2, _, _, _, hyl, hfs⟩ := DataW.trod_struct Try.underlying46 hf
    match ys, hyl with
    | [z0, z1, z2, z3], _ =>
      have h0 := hfs 0 _ rfl
      have h1 := hfs 1 _ rfl
      have h2 := hfs 2 _ rfl
      have h3 := hfs 3 _ rfl
      have g0 : DataW.trod enc Try.prog W 0 (fun _ => true) true n2 2 [u0] = some z0 := by simpa [Value.cells, cells1Prf, cells2Prf, cellsSlPrf] using h0
      have g1 : DataW.trod enc Try.prog W 0 (fun _ => true) true n2 2 [u1] = some z1 := by simpa [Value.cells, cells1Prf, cells2Prf, cellsSlPrf] using h1
      have g2 : DataW.trod enc Try.prog W 0 (fun _ => true) true n2 9 [u2] = some z2 := by simpa [Value.cells, cells1Prf, cells2Prf, cellsSlPrf] using h2
      have g3 : DataW.trod enc Try.prog W 0 (fun _ => true) true n2 44 [u3] = some z3 := by simpa [Value.cells, cells1Prf, cells2Prf, cellsSlPrf] using h3
      obtain ⟨k0, e0, _, q0⟩ := DataW.trod_int Try.underlying2 g0
      injection e0 with e0 _
      subst e0
      obtain ⟨k1, e1, _, q1⟩ := DataW.trod_int Try.underlying2 g1
      injection e1 with e1 _
      subst e1
      obtain ⟨k2, e2, _, q2⟩ := DataW.trod_string Try.underlying9 g2
      injection e2 with e2 _
      subst e2
      obtain ⟨C, L, c, rfl, hL⟩ := ints_cell g3
      exact ⟨⟨k0, k1, k2, L⟩, C, c, rfl, ⟨wf_i64 q0, wf_i64 q1, q2⟩, hL⟩
theorem cellsCng : Try.prog.cellsOf 55 = 3 := by kernel_rfl
set_option maxRecDepth 1000000 in
theorem changes_cell {H : Type} {enc : TypeId × Value → H} {W : World} {c0 : Value} {n : Nat} {y0 : DataW H × List MemPlace} (h1 : DataW.trod enc Try.prog W 0 (fun _ => true) true n 64 [c0] = some y0) :
    ∃ A L c, c0 = .slice A L.length c ∧ Chs W 0 W.heap.size A L ∧ ∀ g ∈ L, g.fits := by
  rcases open_slice Try.underlying64 h1 with ⟨hc, _⟩ | ⟨a, len, cap, m, n', D, Pl, hc, _, hl, hm, hmm, _, hi⟩
  · injection hc with hc _
    subst hc
    exact ⟨none, [], 0, rfl, ⟨by simp [maxLen], fun i h => absurd h (by simp)⟩, fun g h => absurd h (by simp)⟩
  · injection hc with hc _
    subst hc
    have hmm' : m = cap := by simpa using hmm
    subst hmm'
    have key : ∀ i, i < len → ∃ f : Cng, (∃ C c, W.cell? (a.add (i * 3)) = some (.int .i64 f.frm) ∧ W.cell? (a.add (i * 3 + 1)) = some (.int .i64 f.view) ∧ W.cell? (a.add (i * 3 + 2)) = some (.slice C f.proofs.length c) ∧ Prs W 0 W.heap.size C f.proofs) ∧ f.fits := by
      intro i hil
      obtain ⟨cs', hcc, ht⟩ := hi i (by omega)
      rw [cellsCng] at hcc
      obtain ⟨_, hcl, hat⟩ := World.cells?_some hcc
      obtain ⟨ys, n2, _, _, _, hyl, hfs⟩ := DataW.trod_struct Try.underlying55 ht
      match cs', hcl with
      | [u0, u1, u2], _ =>
        match ys, hyl with
        | [z0, z1, z2], _ =>
          have g0 := hfs 0 _ rfl
          have g1 := hfs 1 _ rfl
          have g2 := hfs 2 _ rfl
          simp only [List.getElem?_cons_zero, List.getElem?_cons_succ] at g0 g1 g2
          obtain ⟨k0, e0, _, q0⟩ := DataW.trod_int Try.underlying2 g0
          injection e0 with e0 _
          subst e0
          obtain ⟨k1, e1, _, q1⟩ := DataW.trod_int Try.underlying2 g1
          injection e1 with e1 _
          subst e1
          obtain ⟨C, L, c, rfl, hL, hLf⟩ := proofs_cell g2
          have a0 := hat 0 (by omega)
          have a1 := hat 1 (by omega)
          have a2 := hat 2 (by omega)
          rw [ofNat_add] at a0 a1 a2
          exact ⟨⟨k0, k1, L⟩, ⟨C, c, a0, a1, a2, hL⟩, wf_i64 q0, wf_i64 q1, hLf⟩
    let F : Nat → Cng := fun i => if h : i < len then (key i h).choose else default
    have hF : ∀ i, i < len → (∃ C c, W.cell? (a.add (i * 3)) = some (.int .i64 (F i).frm) ∧ W.cell? (a.add (i * 3 + 1)) = some (.int .i64 (F i).view) ∧ W.cell? (a.add (i * 3 + 2)) = some (.slice C (F i).proofs.length c) ∧ Prs W 0 W.heap.size C (F i).proofs) ∧ (F i).fits := by
      intro i hil
      simp only [F, hil, dif_pos]
      exact (key i hil).choose_spec
    refine ⟨some a, (List.range len).map F, m, by simp, ⟨by simp; omega, fun i hi => ?_⟩, fun g hg => ?_⟩
    · have hil : i < len := by simpa using hi
      obtain ⟨⟨C, c, c0, c1, c2, hC⟩, _⟩ := hF i hil
      have hbl := World.block_lt_of_cell? W _ c0
      rw [add_blk] at hbl
      exact ⟨a, rfl, Nat.zero_le _, hbl, C, c, by simpa using c0, by simpa using c1, by simpa using c2, by simpa using hC⟩
    · obtain ⟨i, hi, rfl⟩ := List.mem_map.1 hg
      exact (hF i (by simpa using hi)).2
theorem cellsSlCng : Try.prog.cellsOf 53 = 1 := by kernel_rfl
theorem cells1Cng : Try.prog.cellsOf 2 = 1 := by kernel_rfl
theorem cells2Cng : Try.prog.cellsOf 9 = 1 := by kernel_rfl
set_option maxRecDepth 1000000 in
/-- What is known of one that came in. -/
theorem change_arg {H : Type} {enc : TypeId × Value → H} {W : World} {r : Reach} {b0 : Nat} {v : Value} {d : DataW H} {p : List MemPlace} (hval : Value.okWide Try.prog W r b0 55 v) (h : DataW.Trod enc Try.prog W 0 (fun _ => true) true 55 v d p) :
    ∃ (t : Cng) (A : Option Addr) (c : Nat), v = cngV t (.slice A t.proofs.length c) ∧ t.fits ∧ Prs W 0 W.heap.size A t.proofs := by
  obtain ⟨cs, rfl, hsz⟩ := okWide_struct Try.underlying55 hval
  rw [cellsCng] at hsz
  obtain ⟨l⟩ := cs
  match l, hsz with
  | [u0, u1, u2], _ =>
    obtain ⟨fuel, hf⟩ := h
    obtain ⟨ys, n2, _, _, _, hyl, hfs⟩ := DataW.trod_struct Try.underlying55 hf
    match ys, hyl with
    | [z0, z1, z2], _ =>
      have h0 := hfs 0 _ rfl
      have h1 := hfs 1 _ rfl
      have h2 := hfs 2 _ rfl
      have g0 : DataW.trod enc Try.prog W 0 (fun _ => true) true n2 2 [u0] = some z0 := by simpa [Value.cells, cells1Cng, cells2Cng, cellsSlCng] using h0
      have g1 : DataW.trod enc Try.prog W 0 (fun _ => true) true n2 2 [u1] = some z1 := by simpa [Value.cells, cells1Cng, cells2Cng, cellsSlCng] using h1
      have g2 : DataW.trod enc Try.prog W 0 (fun _ => true) true n2 53 [u2] = some z2 := by simpa [Value.cells, cells1Cng, cells2Cng, cellsSlCng] using h2
      obtain ⟨k0, e0, _, q0⟩ := DataW.trod_int Try.underlying2 g0
      injection e0 with e0 _
      subst e0
      obtain ⟨k1, e1, _, q1⟩ := DataW.trod_int Try.underlying2 g1
      injection e1 with e1 _
      subst e1
      obtain ⟨C, L, c, rfl, hL, hLf⟩ := proofs_cell g2
      exact ⟨⟨k0, k1, L⟩, C, c, rfl, ⟨wf_i64 q0, wf_i64 q1, hLf⟩, hL⟩
theorem cellsSy : Try.prog.cellsOf 66 = 6 := by kernel_rfl
theorem cellsSlSy : Try.prog.cellsOf 64 = 1 := by kernel_rfl
theorem cells1Sy : Try.prog.cellsOf 2 = 1 := by kernel_rfl
theorem cells2Sy : Try.prog.cellsOf 9 = 1 := by kernel_rfl
set_option maxRecDepth 1000000 in
/-- What is known of one that came in. -/
theorem say_arg {H : Type} {enc : TypeId × Value → H} {W : World} {r : Reach} {b0 : Nat} {v : Value} {d : DataW H} {p : List MemPlace} (hval : Value.okWide Try.prog W r b0 66 v) (h : DataW.Trod enc Try.prog W 0 (fun _ => true) true 66 v d p) :
    ∃ (t : Sy) (A : Option Addr) (c : Nat), v = syV t (.slice A t.changes.length c) ∧ t.fits ∧ Chs W 0 W.heap.size A t.changes := by
  obtain ⟨cs, rfl, hsz⟩ := okWide_struct Try.underlying66 hval
  rw [cellsSy] at hsz
  obtain ⟨l⟩ := cs
  match l, hsz with
  | [u0, u1, u2, u3, u4, u5], _ =>
    obtain ⟨fuel, hf⟩ := h
    obtain ⟨ys, n2, _, _, _, hyl, hfs⟩ := DataW.trod_struct Try.underlying66 hf
    match ys, hyl with
    | [z0, z1, z2, z3, z4, z5], _ =>
      have h0 := hfs 0 _ rfl
      have h1 := hfs 1 _ rfl
      have h2 := hfs 2 _ rfl
      have h3 := hfs 3 _ rfl
      have h4 := hfs 4 _ rfl
      have h5 := hfs 5 _ rfl
      have g0 : DataW.trod enc Try.prog W 0 (fun _ => true) true n2 2 [u0] = some z0 := by simpa [Value.cells, cells1Sy, cells2Sy, cellsSlSy] using h0
      have g1 : DataW.trod enc Try.prog W 0 (fun _ => true) true n2 2 [u1] = some z1 := by simpa [Value.cells, cells1Sy, cells2Sy, cellsSlSy] using h1
      have g2 : DataW.trod enc Try.prog W 0 (fun _ => true) true n2 2 [u2] = some z2 := by simpa [Value.cells, cells1Sy, cells2Sy, cellsSlSy] using h2
      have g3 : DataW.trod enc Try.prog W 0 (fun _ => true) true n2 2 [u3] = some z3 := by simpa [Value.cells, cells1Sy, cells2Sy, cellsSlSy] using h3
      have g4 : DataW.trod enc Try.prog W 0 (fun _ => true) true n2 9 [u4] = some z4 := by simpa [Value.cells, cells1Sy, cells2Sy, cellsSlSy] using h4
      have g5 : DataW.trod enc Try.prog W 0 (fun _ => true) true n2 64 [u5] = some z5 := by simpa [Value.cells, cells1Sy, cells2Sy, cellsSlSy] using h5
      obtain ⟨k0, e0, _, q0⟩ := DataW.trod_int Try.underlying2 g0
      injection e0 with e0 _
      subst e0
      obtain ⟨k1, e1, _, q1⟩ := DataW.trod_int Try.underlying2 g1
      injection e1 with e1 _
      subst e1
      obtain ⟨k2, e2, _, q2⟩ := DataW.trod_int Try.underlying2 g2
      injection e2 with e2 _
      subst e2
      obtain ⟨k3, e3, _, q3⟩ := DataW.trod_int Try.underlying2 g3
      injection e3 with e3 _
      subst e3
      obtain ⟨k4, e4, _, q4⟩ := DataW.trod_string Try.underlying9 g4
      injection e4 with e4 _
      subst e4
      obtain ⟨C, L, c, rfl, hL, hLf⟩ := changes_cell g5
      exact ⟨⟨k0, k1, k2, k3, k4, L⟩, C, c, rfl, ⟨wf_i64 q0, wf_i64 q1, wf_i64 q2, wf_i64 q3, q4, hLf⟩, hL⟩
end Go.Proofs.Ytjnbhppnchmeoaa

namespace Go.Proofs.Ytjnbhppnchmeoaa
open Go.RowKit
set_option linter.unusedVariables false
set_option maxRecDepth 1000000

theorem who_any {n : Int} {r : Bool} (h : decide (0 ≤ n ∧ n ≤ 3) = r) (w : World) : Calls Try.prog 87 #[.int .i64 n] w fun e w' => e = .returned (.bool r) ∧ w = w' := by
  go_enter Try.func87, Try.ntmps87
  go_wp2_with (go_at_call 69; refine (is_any h _).mono ?_; rintro e w1 ⟨rfl, rfl⟩)
  go_ret
  exact ⟨rfl, rfl⟩
set_option maxHeartbeats 8000000 in
theorem specChangeRight_any (t : Cng) (A : Option Addr) (c : Nat) (w : World) {lo : Nat} (hf : t.fits) (hA : Prs w lo w.heap.size A t.proofs) :
    Calls Try.prog 38 #[cngV t (.slice A t.proofs.length c)] w fun e w' => e = .returned (.bool (cngB t)) ∧ Below w.heap.size w w' := by
  obtain ⟨frm, view, L⟩ := t
  obtain ⟨f0, f1, f2⟩ := hf
  simp only at f0 f1 f2 hA ⊢
  have hn := hA.1
  unfold maxLen at hn
  have HR : Hid (cngB ⟨frm, view, L⟩ = ((decide (0 ≤ frm ∧ frm ≤ 3) && decide (1 ≤ view ∧ view ≤ 7)) && pr view 0 L)) := Lib.hid rfl
  generalize cngB ⟨frm, view, L⟩ = Z at HR ⊢
  have hb0 := below_bx w (.cells #[.int .i64 frm, .int .i64 view, .slice A L.length c] 60)
  have hK := Blk.fresh w 60 [.int .i64 frm, .int .i64 view, .slice A L.length c]
  simp only [List.toArray] at hK
  rcases Bool.eq_false_or_eq_true (decide (0 ≤ frm ∧ frm ≤ 3)) with h1 | h1
  rotate_left
  · have I1 := Lib.hid (fun W => who_any h1 W)
    rw [h1] at HR
    obtain rfl : Z = false := by rw [HR.out]; rfl
    clear HR
    go_enter Try.func38, Try.ntmps38
    go_wp2_with (go_at_call 87; (with_reducible refine (I1.out _).mono ?_); rintro e w1 ⟨rfl, rfl⟩)
    go_ret
    exact ⟨rfl, hb0⟩
  have I1 := Lib.hid (fun W => who_any h1 W)
  rcases Bool.eq_false_or_eq_true (decide (1 ≤ view ∧ view ≤ 7)) with h2 | h2
  rotate_left
  · have I2 := Lib.hid (fun W => is_any h2 W)
    rw [h1, h2] at HR
    obtain rfl : Z = false := by rw [HR.out]; rfl
    clear HR
    go_enter Try.func38, Try.ntmps38
    go_wp2_with (first | (go_at_call 87; (with_reducible refine (I1.out _).mono ?_); rintro e w1 ⟨rfl, rfl⟩) | (go_at_call 69; (with_reducible refine (I2.out _).mono ?_); rintro e w1 ⟨rfl, rfl⟩))
    go_ret
    exact ⟨rfl, hb0⟩
  have I2 := Lib.hid (fun W => is_any h2 W)
  rw [h1, h2] at HR
  have HV : Hid (pr view 0 L = Z) := Lib.hid (by rw [HR.out]; rfl)
  clear HR
  go_enter Try.func38, Try.ntmps38
  go_wp2_with (first | (go_at_call 87; (with_reducible refine (I1.out _).mono ?_); rintro e w1 ⟨rfl, rfl⟩) | (go_at_call 69; (with_reducible refine (I2.out _).mono ?_); rintro e w1 ⟨rfl, rfl⟩))
  generalize w.alloc (.cells #[.int .i64 frm, .int .i64 view, .slice A L.length c] 60) = w1 at hK hb0 ⊢
  go_loopw [3] (fun i wr => ∃ (k : Nat) (last : Int), k ≤ L.length ∧ i = .int .i64 k ∧ Hid (k = 0 → last = 0) ∧ Hid (∀ h : k - 1 < L.length, 0 < k → L[k - 1].seq = last) ∧ Hid (pr view last (L.drop k) = Z) ∧ Blk wr w.heap.size 60 [.int .i64 frm, .int .i64 view, .slice A L.length c] ∧ Below w.heap.size w wr) (fun i _ => L.length - (intOf i).toNat)
  case atStart => exact ⟨0, 0, by omega, rfl, Lib.hid fun _ => rfl, Lib.hid fun _ h => absurd h (Nat.lt_irrefl 0), HV, hK, hb0⟩
  case round =>
    clear HV hK hb0
    obtain ⟨k, last, hk, rfl, HA0, HA1, HQ, hK2, hw2⟩ := hrel
    have b2 := hK2.cell (i := 2) rfl
    by_cases hlt : k < L.length
    rotate_left
    · obtain rfl : k = L.length := by omega
      obtain rfl : Z = true := by rw [← HQ.out, pr_end (Nat.le_refl _)]
      go_wp2
      go_ret
      exact ⟨rfl, hw2⟩
    obtain ⟨a, rfl, hab, C, c1, a0, a1, a2, a3, hC⟩ := (hA.on hw2).at k hlt
    have hlt' : (k : Int) < (L.length : Int) := by omega
    have hG := Blk.fresh wr 49 [.int .i64 L[k].view, .int .i64 L[k].seq, .string L[k].op, .slice C L[k].who.length c1]
    have hbx := below_bx wr (.cells #[.int .i64 L[k].view, .int .i64 L[k].seq, .string L[k].op, .slice C L[k].who.length c1] 49)
    have hw4 := hw2.alloc hw2.size (.cells #[.int .i64 L[k].view, .int .i64 L[k].seq, .string L[k].op, .slice C L[k].who.length c1] 49)
    have hK3 := hK2.alloc (.cells #[.int .i64 L[k].view, .int .i64 L[k].seq, .string L[k].op, .slice C L[k].who.length c1] 49)
    have hp : ∀ q, (h : q + 1 = k) → (wr.alloc (.cells #[.int .i64 L[k].view, .int .i64 L[k].seq, .string L[k].op, .slice C L[k].who.length c1] 49)).cell? ⟨(a.add (q * 4)).block, (a.add (q * 4)).off + 1, none⟩ = some (.int .i64 (L[q]'(by omega)).seq) := by
      intro q h
      obtain ⟨a', e, _, _, _, _, h2, _⟩ := (hA.on hw4).at q (by omega)
      cases e
      exact h2
    have hC2 := hC.on hbx
    simp only [List.toArray] at hG
    go_wp2
    generalize wr.alloc (.cells #[.int .i64 L[k].view, .int .i64 L[k].seq, .string L[k].op, .slice C L[k].who.length c1] 49) = w3 at hG hw4 hp hC2 hK3 ⊢
    clear a0 a1 a2 a3 hbx b2 hK2 hw2
    obtain ⟨I, f, hI', g0, gk, gc, ge⟩ := class_grown w3
    have x0 := fun s => kept_cell (gk s) (hG.cell (i := 0) rfl)
    have x1 := fun s => kept_cell (gk s) (hG.cell (i := 1) rfl)
    have x2 := fun s => kept_cell (gk s) (hG.cell (i := 2) rfl)
    have x3 := fun s => kept_cell (gk s) (hG.cell (i := 3) rfl)
    have y1 := fun s => kept_cell (gk s) (hK3.cell (i := 1) rfl)
    have y2 := fun s => kept_cell (gk s) (hK3.cell (i := 2) rfl)
    have TR := Lib.hid (fun s => specProofRight_any L[k] C c1 (f s) (f2 _ (List.getElem_mem hlt)) (hC2.on (gk s)))
    have HW : Hid (∀ W, Below w3.heap.size w3 W → Blk W w.heap.size 60 [.int .i64 frm, .int .i64 view, .slice (some a) L.length c] ∧ Below w.heap.size w W) := Lib.hid fun W h => ⟨hK3.below h hK3.lt, hw4.trans (h.mono hw4.size)⟩
    have HB := Lib.hid (pr_bad (v := view) (last := last) hlt)
    have HX := Lib.hid (pr_next (v := view) (last := last) hlt)
    have HS := Lib.hid (fun h : prfB L[k] = true => prfB_seq h)
    clear hG hw4 hK3 hC2
    rcases Bool.eq_false_or_eq_true (prfB L[k]) with hN | hN
    rotate_left
    · rw [hN] at TR
      obtain rfl : Z = false := by rw [← HQ.out, HB.out (fun h => by rw [hN] at h; exact absurd h.1 (by decide))]
      refine wp_region_kept f (by kernel_rfl) (by kernel_rfl) g0 ?_
      repeat (first
        | go_big_quiet_skip
        | (go_big_quiet_want; go_big_quiet_op; first
            | go_big_quiet_on
            | (apply Exists.intro; refine ⟨fun s => ?_, ?_⟩; (go_at_call 33; (with_reducible refine (TR.out _).mono ?_); rintro e w4 ⟨rfl, hb4⟩; exact ⟨rfl, gc _ _ hb4⟩); go_big_quiet_on)))
      refine wpQuiet_nil ?_
      intro w5 h5
      have hb5 := ge _ h5
      go_wp2
      go_ret
      exact ⟨rfl, (HW.out _ hb5).2⟩
    rw [hN] at TR
    have hs := HS.out hN
    by_cases hv : L[k].view < view
    rotate_left
    · obtain rfl : Z = false := by rw [← HQ.out, HB.out (fun h => hv h.2.1)]
      have hd2 : decide (view ≤ L[k].view) = true := by simp; omega
      clear hs hp
      refine wp_region_kept f (by kernel_rfl) (by kernel_rfl) g0 ?_
      repeat (first
        | go_big_quiet_skip
        | (go_big_quiet_want; go_big_quiet_op; first
            | go_big_quiet_on
            | (apply Exists.intro; refine ⟨fun s => ?_, ?_⟩; (go_at_call 33; (with_reducible refine (TR.out _).mono ?_); rintro e w4 ⟨rfl, hb4⟩; exact ⟨rfl, gc _ _ hb4⟩); go_big_quiet_on)))
      refine wpQuiet_nil ?_
      intro w5 h5
      have hb5 := ge _ h5
      go_wp2
      go_ret
      exact ⟨rfl, (HW.out _ hb5).2⟩
    have hd2 : decide (view ≤ L[k].view) = false := by simp; omega
    by_cases hk0 : 0 < k
    rotate_left
    · have hd : decide ((0 : Int) < (k : Int)) = false := by simp; omega
      have hl0 := HA0.out (by omega)
      have HN : Hid (pr view L[k].seq (L.drop (k + 1)) = Z) := Lib.hid (by rw [← HX.out ⟨hN, hv, by omega⟩, HQ.out])
      clear hs hp hl0
      refine wp_region_kept f (by kernel_rfl) (by kernel_rfl) g0 ?_
      repeat (first
        | go_big_quiet_skip
        | (go_big_quiet_want; go_big_quiet_op; first
            | go_big_quiet_on
            | (apply Exists.intro; refine ⟨fun s => ?_, ?_⟩; (go_at_call 33; (with_reducible refine (TR.out _).mono ?_); rintro e w4 ⟨rfl, hb4⟩; exact ⟨rfl, gc _ _ hb4⟩); go_big_quiet_on)))
      refine wpQuiet_nil ?_
      intro w5 h5
      have hb5 := ge _ h5
      go_wp2
      exact ⟨⟨k + 1, L[k].seq, by omega, by go_num, Lib.hid (fun h => absurd h (by omega)), Lib.hid (fun h _ => by simp), HN, (HW.out _ hb5).1, (HW.out _ hb5).2⟩, by simp [intOf]; omega⟩
    obtain ⟨q, hq⟩ : ∃ q, q + 1 = k := ⟨k - 1, by omega⟩
    have p0 := fun s => kept_cell (gk s) (hp q hq)
    have hd : decide ((0 : Int) < (k : Int)) = true := by simp; omega
    have e1 : IntKind.i64.wrap ((k : Int) - 1) = (q : Int) := by rw [IntWalk.i64_in _ (by omega)]; omega
    have e2 : (q : Int) < (L.length : Int) := by omega
    have e3 : (0 : Int) ≤ (q : Int) := by omega
    have hlast : L[q].seq = last := by
      have := HA1.out (by omega) hk0
      obtain rfl : q = k - 1 := by omega
      exact this
    simp only [hlast] at p0
    by_cases hl : last < L[k].seq
    rotate_left
    · obtain rfl : Z = false := by rw [← HQ.out, HB.out (fun h => hl h.2.2)]
      have hd3 : decide (L[k].seq ≤ last) = true := by simp; omega
      clear hs hp hlast hq
      refine wp_region_kept f (by kernel_rfl) (by kernel_rfl) g0 ?_
      repeat (first
        | go_big_quiet_skip
        | (go_big_quiet_want; go_big_quiet_op; first
            | go_big_quiet_on
            | (apply Exists.intro; refine ⟨fun s => ?_, ?_⟩; (go_at_call 33; (with_reducible refine (TR.out _).mono ?_); rintro e w4 ⟨rfl, hb4⟩; exact ⟨rfl, gc _ _ hb4⟩); go_big_quiet_on)))
      refine wpQuiet_nil ?_
      intro w5 h5
      have hb5 := ge _ h5
      go_wp2
      go_ret
      exact ⟨rfl, (HW.out _ hb5).2⟩
    have hd3 : decide (L[k].seq ≤ last) = false := by simp; omega
    have HN : Hid (pr view L[k].seq (L.drop (k + 1)) = Z) := Lib.hid (by rw [← HX.out ⟨hN, hv, hl⟩, HQ.out])
    clear hs hp hlast hq
    refine wp_region_kept f (by kernel_rfl) (by kernel_rfl) g0 ?_
    repeat (first
      | go_big_quiet_skip
      | (go_big_quiet_want; go_big_quiet_op; first
          | go_big_quiet_on
          | (apply Exists.intro; refine ⟨fun s => ?_, ?_⟩; (go_at_call 33; (with_reducible refine (TR.out _).mono ?_); rintro e w4 ⟨rfl, hb4⟩; exact ⟨rfl, gc _ _ hb4⟩); go_big_quiet_on)))
    refine wpQuiet_nil ?_
    intro w5 h5
    have hb5 := ge _ h5
    go_wp2
    exact ⟨⟨k + 1, L[k].seq, by omega, by go_num, Lib.hid (fun h => absurd h (by omega)), Lib.hid (fun h _ => by simp), HN, (HW.out _ hb5).1, (HW.out _ hb5).2⟩, by simp [intOf]; omega⟩

theorem implBallot_any (t : Cng) (x : Value) (w : World) : Calls Try.prog 89 #[cngV t x] w fun e w' => e = .returned (.bool (balB t)) ∧ Below w.heap.size w w' := by
  obtain ⟨frm, view, L⟩ := t
  have HR : Hid (balB ⟨frm, view, L⟩ = (decide (0 ≤ frm ∧ frm ≤ 3) && decide (1 ≤ view ∧ view ≤ 7))) := Lib.hid rfl
  generalize balB ⟨frm, view, L⟩ = Z at HR ⊢
  rcases Bool.eq_false_or_eq_true (decide (0 ≤ frm ∧ frm ≤ 3)) with h1 | h1
  rotate_left
  · have I1 := Lib.hid (fun W => replQ_any h1 W)
    rw [h1] at HR
    obtain rfl : Z = false := by rw [HR.out]; rfl
    clear HR
    go_enter Try.func89, Try.ntmps89
    go_wp2_with (go_at_call 96; (with_reducible refine (I1.out _).mono ?_); rintro e w1 ⟨rfl, rfl⟩)
    go_ret
    exact ⟨rfl, below_bx _ _⟩
  have I1 := Lib.hid (fun W => replQ_any h1 W)
  obtain ⟨r, Hr⟩ : ∃ r, Hid (decide (1 ≤ view ∧ view ≤ 7) = r) := ⟨_, Lib.hid rfl⟩
  have I2 := Lib.hid (fun W => inQ_any Hr.out W)
  rw [h1, Hr.out] at HR
  obtain rfl : Z = r := by rw [HR.out]; rfl
  clear HR
  go_enter Try.func89, Try.ntmps89
  go_wp2_with (first | (go_at_call 96; (with_reducible refine (I1.out _).mono ?_); rintro e w1 ⟨rfl, rfl⟩) | (go_at_call 64; (with_reducible refine (I2.out _).mono ?_); rintro e w1 ⟨rfl, rfl⟩))
  go_ret
  exact ⟨rfl, below_bx _ _⟩
set_option maxHeartbeats 8000000 in
theorem proofsRight_any (L : List Cng) (A : Option Addr) (c : Nat) (w : World) {lo : Nat} (hf : ∀ t ∈ L, t.fits) (hA : Chs w lo w.heap.size A L) :
    Calls Try.prog 90 #[.slice A L.length c] w fun e w' => e = .returned (.bool (allP L)) ∧ Below w.heap.size w w' := by
  have hn := hA.1
  unfold maxLen at hn
  obtain ⟨Z, HZ⟩ : ∃ Z, Hid (allP L = Z) := ⟨_, Lib.hid rfl⟩
  rw [HZ.out]
  go_enter Try.func90, Try.ntmps90
  go_wp2
  go_step3
  go_wp2
  go_step3
  go_wp2
  go_loopw [3, 11] (fun r i wr => ∃ (k : Nat), k ≤ L.length ∧ r = .bool true ∧ i = .int .i64 k ∧ Hid (allP (L.drop k) = Z) ∧ Below w.heap.size w wr) (fun _ i _ => L.length - (intOf i).toNat)
  case atStart => exact ⟨0, by omega, rfl, rfl, HZ, Below.refl _ _⟩
  case round =>
    clear HZ
    obtain ⟨k, hk, rfl, rfl, HQ, hb⟩ := hrel
    by_cases hlt : k < L.length
    rotate_left
    · obtain rfl : k = L.length := by omega
      obtain rfl : Z = true := by rw [← HQ.out, allP_end (Nat.le_refl _)]
      go_wp2
      first | (rw [Exit.noGoto_ret]; go_ret) | go_ret
      exact ⟨rfl, hb⟩
    obtain ⟨a, rfl, hab, C, c1, a0, a1, a2, hC⟩ := (hA.on hb).at k hlt
    have hfx := hf _ (List.getElem_mem hlt)
    have HAT := Lib.hid (allP_at hlt)
    have hlt' : (k : Int) < (L.length : Int) := by omega
    generalize L[k] = ck at a0 a1 a2 hC hfx HAT
    obtain ⟨frm, view, Q⟩ := ck
    obtain ⟨f0, f1, f2⟩ := hfx
    simp only at a0 a1 a2 hC f0 f1 f2
    obtain ⟨V, HV⟩ : ∃ V, Hid (pr view 0 Q = V) := ⟨_, Lib.hid rfl⟩
    have HZV : Hid (Z = (V && allP (L.drop (k + 1)))) := Lib.hid (by rw [← HQ.out, HAT.out, ← HV.out]; rfl)
    have hqn := hC.1
    unfold maxLen at hqn
    have hG := Blk.fresh wr 60 [.int .i64 frm, .int .i64 view, .slice C Q.length c1]
    have hbx := below_bx wr (.cells #[.int .i64 frm, .int .i64 view, .slice C Q.length c1] 60)
    have hw4 := hb.alloc hb.size (.cells #[.int .i64 frm, .int .i64 view, .slice C Q.length c1] 60)
    have hC2 := hC.on hbx
    simp only [List.toArray] at hG
    have u2 := hG.cell (i := 2) rfl
    clear HQ HAT
    go_wp2_with (fail)
    clear u2 a0 a1 a2 hbx hC hb
    generalize wr.alloc (.cells #[.int .i64 frm, .int .i64 view, .slice C Q.length c1] 60) = w3 at hG hw4 hC2 ⊢
    generalize wr.heap.size = g3 at hG ⊢
    go_loopw [3, 6, 18] (fun r l i wr => ∃ (j : Nat) (last : Int), j ≤ Q.length ∧ r = .bool true ∧ l = .int .i64 last ∧ i = .int .i64 j ∧ Hid (pr view last (Q.drop j) = V) ∧ Below w3.heap.size w3 wr) (fun _ _ i _ => Q.length - (intOf i).toNat)
    case atStart => exact ⟨0, 0, by omega, rfl, rfl, rfl, HV, Below.refl _ _⟩
    case round =>
      clear HV
      obtain ⟨j, last, hj, rfl, rfl, rfl, HQ, hq⟩ := hrel
      by_cases hjt : j < Q.length
      rotate_left
      · obtain rfl : j = Q.length := by omega
        obtain rfl : V = true := by rw [← HQ.out, pr_end (Nat.le_refl _)]
        have HN : Hid (allP (L.drop (k + 1)) = Z) := Lib.hid (by rw [HZV.out]; rfl)
        have hw5 := hw4.trans (hq.mono hw4.size)
        go_wp2
        exact ⟨⟨k + 1, by omega, rfl, by go_num, HN, hw5⟩, by simp [intOf]; omega⟩
      obtain ⟨b, rfl, hbb, D, d1, b0, b1, b2, b3, hD⟩ := (hC2.on hq).at j hjt
      have hjt' : (j : Int) < (Q.length : Int) := by omega
      have hP := Blk.fresh wr 49 [.int .i64 Q[j].view, .int .i64 Q[j].seq, .string Q[j].op, .slice D Q[j].who.length d1]
      have hby := below_bx wr (.cells #[.int .i64 Q[j].view, .int .i64 Q[j].seq, .string Q[j].op, .slice D Q[j].who.length d1] 49)
      have hq4 := hq.alloc hq.size (.cells #[.int .i64 Q[j].view, .int .i64 Q[j].seq, .string Q[j].op, .slice D Q[j].who.length d1] 49)
      have hG4 := hG.below hq4 hG.lt
      have hD2 := hD.on hby
      simp only [List.toArray] at hP
      have TR := Lib.hid (implProofRight_any Q[j] D d1 (wr.alloc (.cells #[.int .i64 Q[j].view, .int .i64 Q[j].seq, .string Q[j].op, .slice D Q[j].who.length d1] 49)) (f2 _ (List.getElem_mem hjt)) hD2)
      have z0 := hP.cell (i := 0) rfl
      have z1 := hP.cell (i := 1) rfl
      have u1 := hG4.cell (i := 1) rfl
      have HWI : Hid (∀ W, Below (wr.alloc (.cells #[.int .i64 Q[j].view, .int .i64 Q[j].seq, .string Q[j].op, .slice D Q[j].who.length d1] 49)).heap.size (wr.alloc (.cells #[.int .i64 Q[j].view, .int .i64 Q[j].seq, .string Q[j].op, .slice D Q[j].who.length d1] 49)) W → Below w3.heap.size w3 W) := Lib.hid fun W h => hq4.trans (h.mono hq4.size)
      have HWW : Hid (∀ W, Below (wr.alloc (.cells #[.int .i64 Q[j].view, .int .i64 Q[j].seq, .string Q[j].op, .slice D Q[j].who.length d1] 49)).heap.size (wr.alloc (.cells #[.int .i64 Q[j].view, .int .i64 Q[j].seq, .string Q[j].op, .slice D Q[j].who.length d1] 49)) W → Below w.heap.size w W) := Lib.hid fun W h => hw4.trans ((hq4.trans (h.mono hq4.size)).mono hw4.size)
      have HB := Lib.hid (pr_bad (v := view) (last := last) hjt)
      have HX := Lib.hid (pr_next (v := view) (last := last) hjt)
      have HZ0 : Hid (V = false → Z = false) := Lib.hid fun h => by rw [HZV.out, h]; rfl
      clear hP hby hq4 hG4 hD2 hD hq
      rcases Bool.eq_false_or_eq_true (prfB Q[j]) with hN | hN
      rotate_left
      · rw [hN] at TR
        have hV : V = false := by rw [← HQ.out, HB.out (fun h => by rw [hN] at h; exact absurd h.1 (by decide))]
        obtain rfl := HZ0.out hV
        clear hV HQ HZV HZ0
        go_wp2_with (go_at_call 35; (with_reducible refine TR.out.mono ?_); rintro e w5 ⟨rfl, hb5⟩; have x0 := kept_cell hb5 z0; have x1 := kept_cell hb5 z1; have y1 := kept_cell hb5 u1)
        first | (rw [Exit.noGoto_ret]; go_ret) | go_ret
        exact ⟨rfl, HWW.out _ hb5⟩
      rw [hN] at TR
      by_cases hv : Q[j].view < view
      rotate_left
      · have hV : V = false := by rw [← HQ.out, HB.out (fun h => hv h.2.1)]
        obtain rfl := HZ0.out hV
        have hd2 : decide (view ≤ Q[j].view) = true := by simp; omega
        clear hV HQ HZV HZ0
        go_wp2_with (go_at_call 35; (with_reducible refine TR.out.mono ?_); rintro e w5 ⟨rfl, hb5⟩; have x0 := kept_cell hb5 z0; have x1 := kept_cell hb5 z1; have y1 := kept_cell hb5 u1)
        first | (rw [Exit.noGoto_ret]; go_ret) | go_ret
        exact ⟨rfl, HWW.out _ hb5⟩
      have hd2 : decide (view ≤ Q[j].view) = false := by simp; omega
      by_cases hl : last < Q[j].seq
      rotate_left
      · have hV : V = false := by rw [← HQ.out, HB.out (fun h => hl h.2.2)]
        obtain rfl := HZ0.out hV
        have hd3 : decide (Q[j].seq ≤ last) = true := by simp; omega
        clear hV HQ HZV HZ0
        go_wp2_with (go_at_call 35; (with_reducible refine TR.out.mono ?_); rintro e w5 ⟨rfl, hb5⟩; have x0 := kept_cell hb5 z0; have x1 := kept_cell hb5 z1; have y1 := kept_cell hb5 u1)
        first | (rw [Exit.noGoto_ret]; go_ret) | go_ret
        exact ⟨rfl, HWW.out _ hb5⟩
      have hd3 : decide (Q[j].seq ≤ last) = false := by simp; omega
      have HN : Hid (pr view Q[j].seq (Q.drop (j + 1)) = V) := Lib.hid (by rw [← HX.out ⟨hN, hv, hl⟩, HQ.out])
      go_wp2_with (go_at_call 35; (with_reducible refine TR.out.mono ?_); rintro e w5 ⟨rfl, hb5⟩; have x0 := kept_cell hb5 z0; have x1 := kept_cell hb5 z1; have y1 := kept_cell hb5 u1)
      exact ⟨⟨j + 1, Q[j].seq, by omega, rfl, rfl, by go_num, HN, HWI.out _ hb5⟩, by simp [intOf]; omega⟩

/-- A slice of one change that a call has made. -/
theorem Blk.chs {w : World} {g lo : Nat} {t : TypeId} {frm view : Int} {A : Option Addr} {c : Nat} {L : List Prf} (h : Blk w g t [.int .i64 frm, .int .i64 view, .slice A L.length c]) (hL : Prs w lo w.heap.size A L) : Chs w 0 w.heap.size (some ⟨g, 0, none⟩) [⟨frm, view, L⟩] :=
  ⟨by simp [maxLen], fun i hi => by
    obtain rfl : i = 0 := by simpa using hi
    exact ⟨⟨g, 0, none⟩, rfl, Nat.zero_le _, h.lt, A, c, h.cell (i := 0) rfl, h.cell (i := 1) rfl, h.cell (i := 2) rfl, hL.mono (Nat.zero_le _) (Nat.le_refl _)⟩⟩
theorem allP_one (c : Cng) : allP [c] = chP c := by unfold allP allP; rw [Bool.and_true]
set_option maxHeartbeats 4000000 in
theorem implChangeRight_any (t : Cng) (A : Option Addr) (c : Nat) (w : World) {lo : Nat} (hf : t.fits) (hA : Prs w lo w.heap.size A t.proofs) :
    Calls Try.prog 40 #[cngV t (.slice A t.proofs.length c)] w fun e w' => e = .returned (.bool (cngB t)) ∧ Below w.heap.size w w' := by
  obtain ⟨frm, view, L⟩ := t
  simp only at hA ⊢
  have HR : Hid (cngB ⟨frm, view, L⟩ = (balB ⟨frm, view, L⟩ && chP ⟨frm, view, L⟩)) := Lib.hid rfl
  generalize cngB ⟨frm, view, L⟩ = Z at HR ⊢
  have hb0 := below_bx w (.cells #[.int .i64 frm, .int .i64 view, .slice A L.length c] 60)
  have hK := Blk.fresh w 60 [.int .i64 frm, .int .i64 view, .slice A L.length c]
  simp only [List.toArray] at hK
  have BA := Lib.hid (fun W => implBallot_any ⟨frm, view, L⟩ (.slice A L.length c) W)
  have PR := Lib.hid (fun W A c lo h => proofsRight_any [⟨frm, view, L⟩] A c W (lo := lo) (fun t ht => by simp at ht; subst ht; exact hf) h)
  rw [allP_one] at PR
  have k0 := hK.cell (i := 0) rfl
  have k1 := hK.cell (i := 1) rfl
  have k2 := hK.cell (i := 2) rfl
  go_enter Try.func40, Try.ntmps40
  go_wp2_with (fail)
  clear k0 k1 k2
  generalize w.alloc (.cells #[.int .i64 frm, .int .i64 view, .slice A L.length c] 60) = w1 at hK hb0 ⊢
  rcases Bool.eq_false_or_eq_true (balB ⟨frm, view, L⟩) with h1 | h1
  rotate_left
  · rw [h1] at HR BA
    obtain rfl : Z = false := by rw [HR.out]; rfl
    refine (BA.out _).mono ?_
    rintro e w2 ⟨rfl, hb2⟩
    have hw2 := hb0.trans (hb2.mono hb0.size)
    go_wp2
    go_ret
    exact ⟨rfl, hw2⟩
  rw [h1] at HR BA
  have hz : chP ⟨frm, view, L⟩ = Z := by rw [HR.out]; rfl
  rw [hz] at PR
  clear HR hz
  refine (BA.out _).mono ?_
  rintro e w2 ⟨rfl, hb2⟩
  have hw2 := hb0.trans (hb2.mono hb0.size)
  have hK2 := hK.below hb2 hK.lt
  have k0 := hK2.cell (i := 0) rfl
  have k1 := hK2.cell (i := 1) rfl
  have k2 := hK2.cell (i := 2) rfl
  have hK3 := Blk.fresh w2 60 [.int .i64 frm, .int .i64 view, .slice A L.length c]
  have hb3 := below_bx w2 (.cells #[.int .i64 frm, .int .i64 view, .slice A L.length c] 60)
  simp only [List.toArray] at hK3
  have hw3 := hw2.trans (hb3.mono hw2.size)
  have hch := hK3.chs (hA.on hw3)
  go_wp2_with (fail)
  clear k0 k1 k2
  refine (PR.out _ _ _ _ hch).mono ?_
  rintro e w4 ⟨rfl, hb4⟩
  go_wp2
  go_ret
  exact ⟨rfl, hw3.trans (hb4.mono hw3.size)⟩
theorem bothChangeRight (t : Cng) (hf : t.fits) (hs : t.small) : ∃ r : Bool,
    (∀ A c W, Prs W 0 W.heap.size A t.proofs → Calls Try.prog 38 #[cngV t (.slice A t.proofs.length c)] W fun e w' => e = .returned (.bool r) ∧ Below W.heap.size W w') ∧
    (∀ A c W, Prs W 0 W.heap.size A t.proofs → Calls Try.prog 40 #[cngV t (.slice A t.proofs.length c)] W fun e w' => e = .returned (.bool r) ∧ Below W.heap.size W w') :=
  ⟨cngB t, fun A c W h => specChangeRight_any t A c W hf h, fun A c W h => implChangeRight_any t A c W hf h⟩
end Go.Proofs.Ytjnbhppnchmeoaa
