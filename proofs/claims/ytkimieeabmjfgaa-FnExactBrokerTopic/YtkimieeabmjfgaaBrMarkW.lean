/- The size that the exact laws reckon of a broker, and how many things it counts. What a call leaves that writes only into blocks from lo up to hi. Slices into blocks of the call's own, at any offset: strings and groups; the marks that the exact laws write into them. The marks that the exact laws write into a broker of their own. -/
import Derived.Test.YtkimieeabmjfgaaBrToW
import Derived.Test.YtkimieeabmjfgaaRwkW
import Derived.Test.YtkimieeabmjfgaaIs3W
import Derived.Test.YtkimieeabmjfgaaStrArgW
import Derived.Test.YtkimieeabmjfgaaRowW
import Derived.Test.YtkimieeabmjfgaaTAppW
import Derived.Test.YtkimieeabmjfgaaBrTopW
namespace Go.Proofs.Ytkimieeabmjfgaa
open Go.RowKit
set_option linter.unusedVariables false
set_option maxRecDepth 1000000
def wgt (t : Tpc) : Nat := t.held.length + t.groups.length
def wgts : List Tpc → Nat
  | [] => 0
  | t :: T => wgt t + wgts T
theorem wgts_append : ∀ (T U : List Tpc), wgts (T ++ U) = wgts T + wgts U
  | [], U => (Nat.zero_add _).symm
  | t :: T, U => by show wgt t + wgts (T ++ U) = wgt t + wgts T + wgts U; rw [wgts_append T U]; omega
theorem wgts_take {T : List Tpc} {k : Nat} (h : k < T.length) : wgts (T.take (k + 1)) = wgts (T.take k) + wgt T[k] := by
  rw [List.take_succ_eq_append_getElem h, wgts_append]; rfl
/-- How many things a broker counts. -/
def Bro.count (b : Bro) : Nat := b.topics.length + wgts b.topics + b.replies.length
set_option maxHeartbeats 1000000 in
theorem szStringS_w (A : Option Addr) (L : List ByteArray) (c : Nat) (left : Int) (w : World) (hL : Strs w w.heap.size A L) (hf : ∀ s ∈ L, s.size ≤ maxLen) (l0 : 0 ≤ left) (l1 : left ≤ 1048576) :
    Calls Try.prog 37 #[.slice A L.length c, .int .i64 left] w fun e w' => ∃ r : Int, e = .returned (.int .i64 r) ∧ -1 ≤ r ∧ r ≤ 1048576 ∧ (0 ≤ r → (L.length ≤ 1048576 ∧ ∀ i (h : i < L.length), L[i].size ≤ 1048576) ∧ r + L.length ≤ left) ∧ Below w.heap.size w w' := by
  have hn := hL.1
  unfold maxLen at hn hf
  by_cases hbig : left - L.length < 0
  · go_enter Try.func37, Try.ntmps37
    go_wp2
    go_ret
    exact ⟨-1, rfl, by omega, by omega, fun h => by omega, Below.refl _ _⟩
  · have hn2 : L.length ≤ 1048576 := by omega
    have hbig' : ¬ left - (L.length : Int) < 0 := hbig
    go_enter Try.func37, Try.ntmps37
    go_wp2
    go_loopw [1, 5] (fun l i wr => ∃ (k : Nat) (lf0 : Int), k ≤ L.length ∧ i = .int .i64 k ∧ l = .int .i64 lf0 ∧ 0 ≤ lf0 ∧ lf0 ≤ 1048576 ∧ lf0 + L.length ≤ left ∧ (∀ j (h : j < L.length), j < k → L[j].size ≤ 1048576) ∧ Below w.heap.size w wr) (fun _ i _ => L.length - (intOf i).toNat)
    case atStart => exact ⟨0, _, by omega, rfl, rfl, by omega, by omega, by omega, fun j _ h => by omega, Below.refl _ _⟩
    case round =>
      obtain ⟨k, lf, hk, rfl, rfl, l0, l1, lw, hS, hb⟩ := hrel
      by_cases hlt : k < L.length
      · obtain ⟨a, rfl, hab, c0⟩ := (hL.below hb (Nat.le_refl _)).2 k hlt
        have hsz := hf _ (List.getElem_mem hlt)
        have hlt' : (k : Int) < (L.length : Int) := by omega
        by_cases h0 : 0 ≤ lf - L[k].size
        · go_wp2
          refine ⟨⟨k + 1, _, by omega, by go_num, rfl, h0, by omega, by omega, fun j hj hjk => ?_, hb⟩, by simp [intOf]; omega⟩
          by_cases e : j = k
          · subst e; omega
          · exact hS j hj (by omega)
        · go_wp2
          go_ret
          exact ⟨-1, rfl, by omega, by omega, fun h => by omega, hb⟩
      · obtain rfl : k = L.length := by omega
        go_wp2
        go_ret
        exact ⟨lf, rfl, by omega, l1, fun _ => ⟨⟨hn2, fun i h => hS i h h⟩, lw⟩, hb⟩

set_option maxHeartbeats 1000000 in
theorem szGroupS_w (A : Option Addr) (L : List Grp) (c : Nat) (left : Int) (w : World) (hL : Grs w w.heap.size A L) (hf : ∀ g ∈ L, g.fits) (l0 : 0 ≤ left) (l1 : left ≤ 1048576) :
    Calls Try.prog 38 #[.slice A L.length c, .int .i64 left] w fun e w' => ∃ r : Int, e = .returned (.int .i64 r) ∧ -1 ≤ r ∧ r ≤ 1048576 ∧ (0 ≤ r → (L.length ≤ 1048576 ∧ ∀ i (h : i < L.length), L[i].name.size ≤ 1048576) ∧ r + L.length ≤ left) ∧ Below w.heap.size w w' := by
  have hn := hL.1
  unfold maxLen at hn
  by_cases hbig : left - L.length < 0
  · go_enter Try.func38, Try.ntmps38
    go_wp2
    go_ret
    exact ⟨-1, rfl, by omega, by omega, fun h => by omega, Below.refl _ _⟩
  · have hn2 : L.length ≤ 1048576 := by omega
    have hbig' : ¬ left - (L.length : Int) < 0 := hbig
    go_enter Try.func38, Try.ntmps38
    go_wp2
    go_loopw [1, 5] (fun l i wr => ∃ (k : Nat) (lf0 : Int), k ≤ L.length ∧ i = .int .i64 k ∧ l = .int .i64 lf0 ∧ 0 ≤ lf0 ∧ lf0 ≤ 1048576 ∧ lf0 + L.length ≤ left ∧ (∀ j (h : j < L.length), j < k → L[j].name.size ≤ 1048576) ∧ Below w.heap.size w wr) (fun _ i _ => L.length - (intOf i).toNat)
    case atStart => exact ⟨0, _, by omega, rfl, rfl, by omega, by omega, by omega, fun j _ h => by omega, Below.refl _ _⟩
    case round =>
      obtain ⟨k, lf, hk, rfl, rfl, l0, l1, lw, hS, hb⟩ := hrel
      by_cases hlt : k < L.length
      · obtain ⟨a, rfl, hab, c0, c1⟩ := (hL.below hb (Nat.le_refl _)).at k hlt
        have hsz := szG_lo L[k] lf l0
        have hff := hf _ (List.getElem_mem hlt)
        go_wp2_with (go_at_call 81; refine (szGroup_any L[k] lf wr hff l0 l1).mono ?_; rintro e w1 ⟨rfl, hb1⟩)
        · go_ret
          exact ⟨-1, rfl, by omega, by omega, fun h => by omega, hb.trans (hb1.mono hb.size)⟩
        · have h0 : 0 ≤ szG L[k] lf := by omega
          refine ⟨⟨k + 1, _, by omega, by go_num, rfl, h0, by omega, by omega, fun j hj hjk => ?_, hb.trans (hb1.mono hb.size)⟩, by simp [intOf]; omega⟩
          by_cases e : j = k
          · subst e; exact szG_ok l1 h0
          · exact hS j hj (by omega)
      · obtain rfl : k = L.length := by omega
        go_wp2
        go_ret
        exact ⟨lf, rfl, by omega, l1, fun _ => ⟨⟨hn2, fun i h => hS i h h⟩, lw⟩, hb⟩
set_option maxHeartbeats 1000000 in
theorem szReplyS_w (A : Option Addr) (L : List Rep) (c : Nat) (left : Int) (w : World) (hL : Rps w w.heap.size A L) (hf : ∀ g ∈ L, g.fits) (l0 : 0 ≤ left) (l1 : left ≤ 1048576) :
    Calls Try.prog 57 #[.slice A L.length c, .int .i64 left] w fun e w' => ∃ r : Int, e = .returned (.int .i64 r) ∧ -1 ≤ r ∧ r ≤ 1048576 ∧ (0 ≤ r → (L.length ≤ 1048576 ∧ ∀ i (h : i < L.length), L[i].text.size ≤ 1048576) ∧ r + L.length ≤ left) ∧ Below w.heap.size w w' := by
  have hn := hL.1
  unfold maxLen at hn
  by_cases hbig : left - L.length < 0
  · go_enter Try.func57, Try.ntmps57
    go_wp2
    go_ret
    exact ⟨-1, rfl, by omega, by omega, fun h => by omega, Below.refl _ _⟩
  · have hn2 : L.length ≤ 1048576 := by omega
    have hbig' : ¬ left - (L.length : Int) < 0 := hbig
    go_enter Try.func57, Try.ntmps57
    go_wp2
    go_loopw [1, 5] (fun l i wr => ∃ (k : Nat) (lf0 : Int), k ≤ L.length ∧ i = .int .i64 k ∧ l = .int .i64 lf0 ∧ 0 ≤ lf0 ∧ lf0 ≤ 1048576 ∧ lf0 + L.length ≤ left ∧ (∀ j (h : j < L.length), j < k → L[j].text.size ≤ 1048576) ∧ Below w.heap.size w wr) (fun _ i _ => L.length - (intOf i).toNat)
    case atStart => exact ⟨0, _, by omega, rfl, rfl, by omega, by omega, by omega, fun j _ h => by omega, Below.refl _ _⟩
    case round =>
      obtain ⟨k, lf, hk, rfl, rfl, l0, l1, lw, hS, hb⟩ := hrel
      by_cases hlt : k < L.length
      · obtain ⟨a, rfl, hab, c0, c1, c2⟩ := (hL.below hb (Nat.le_refl _)).at k hlt
        have hsz := szR_lo L[k] lf l0
        have hff := hf _ (List.getElem_mem hlt)
        go_wp2_with (go_at_call 99; refine (szReply_any L[k] lf wr hff l0 l1).mono ?_; rintro e w1 ⟨rfl, hb1⟩)
        · go_ret
          exact ⟨-1, rfl, by omega, by omega, fun h => by omega, hb.trans (hb1.mono hb.size)⟩
        · have h0 : 0 ≤ szR L[k] lf := by omega
          refine ⟨⟨k + 1, _, by omega, by go_num, rfl, h0, by omega, by omega, fun j hj hjk => ?_, hb.trans (hb1.mono hb.size)⟩, by simp [intOf]; omega⟩
          by_cases e : j = k
          · subst e; exact szR_ok l1 h0
          · exact hS j hj (by omega)
      · obtain rfl : k = L.length := by omega
        go_wp2
        go_ret
        exact ⟨lf, rfl, by omega, l1, fun _ => ⟨⟨hn2, fun i h => hS i h h⟩, lw⟩, hb⟩
set_option maxHeartbeats 2000000 in
theorem szTopic_w (t : Tpc) (A : Option Addr) (c : Nat) (B : Option Addr) (d : Nat) (left : Int) (w : World) (hf : t.fits) (hA : Strs w w.heap.size A t.held) (hB : Grs w w.heap.size B t.groups) (l0 : 0 ≤ left) (l1 : left ≤ 1048576) :
    Calls Try.prog 10 #[topV t.name t.base (.slice A t.held.length c) (.slice B t.groups.length d), .int .i64 left] w fun e w' => ∃ r : Int, e = .returned (.int .i64 r) ∧ -1 ≤ r ∧ r ≤ 1048576 ∧ (0 ≤ r → t.small ∧ r + wgt t ≤ left) ∧ Below w.heap.size w w' := by
  obtain ⟨nm, bs, H, G⟩ := t
  obtain ⟨f0, f1, f2, f3⟩ := hf
  simp only at f0 f1 f2 f3 hA hB ⊢
  unfold maxLen at f0
  have hb0 : Below w.heap.size w (w.alloc (.cells #[.string nm, .int .i64 bs, .slice A H.length c, .slice B G.length d] 25)) := (Below.refl _ _).alloc (Nat.le_refl _) _
  have k0 := Blk.fresh w 25 [.string nm, .int .i64 bs, .slice A H.length c, .slice B G.length d]
  simp only [List.toArray] at k0
  by_cases hn : left - nm.size < 0
  · go_enter Try.func10, Try.ntmps10
    go_wp2
    go_ret
    exact ⟨-1, rfl, by omega, by omega, fun h => by omega, hb0⟩
  have hn' : ¬ left - (nm.size : Int) < 0 := hn
  have SS := Lib.hid (fun W (h : Below w.heap.size w W) => szStringS_w A H c (left - nm.size) W (hA.on h) f2 (by omega) (by omega))
  go_enter Try.func10, Try.ntmps10
  go_wp2_with (fail)
  generalize w.alloc (.cells #[.string nm, .int .i64 bs, .slice A H.length c, .slice B G.length d] 25) = v0 at hb0 k0 ⊢
  refine (SS.out _ hb0).mono ?_
  rintro e w1 ⟨r, rfl, r0, r1, hS, hb1⟩
  have hw1 := hb0.trans (hb1.mono hb0.size)
  have k1 := k0.below hb1 k0.lt
  clear k0 hb0 hb1
  by_cases hr : r < 0
  · go_wp2
    go_ret
    exact ⟨-1, rfl, by omega, by omega, fun h => by omega, hw1⟩
  have c3 := k1.cell (i := 3) rfl
  have SG := Lib.hid (szGroupS_w B G d r w1 (hB.on hw1) f3 (by omega) (by omega))
  have hr' : ¬ r < 0 := hr
  go_wp2_with (fail)
  refine SG.out.mono ?_
  rintro e w2 ⟨q, rfl, q0, q1, hT, hb2⟩
  have hw2 := hw1.trans (hb2.mono hw1.size)
  by_cases hq : q < 0
  · go_wp2
    go_ret
    exact ⟨-1, rfl, by omega, by omega, fun h => by omega, hw2⟩
  have hq' : ¬ q < 0 := hq
  go_wp2
  go_ret
  exact ⟨q, rfl, q0, q1, fun h => ⟨⟨by show nm.size ≤ 1048576; omega, (hS (by omega)).1, (hT h).1⟩, by have := (hS (by omega)).2; have := (hT h).2; unfold wgt; simp only; omega⟩, hw2⟩
set_option maxHeartbeats 2000000 in
theorem szTopicS_w (A : Option Addr) (L : List Tpc) (c : Nat) (left : Int) (w : World) (hL : Tops w w.heap.size A L) (hf : ∀ g ∈ L, g.fits) (l0 : 0 ≤ left) (l1 : left ≤ 1048576) :
    Calls Try.prog 56 #[.slice A L.length c, .int .i64 left] w fun e w' => ∃ r : Int, e = .returned (.int .i64 r) ∧ -1 ≤ r ∧ r ≤ 1048576 ∧ (0 ≤ r → (L.length ≤ 1048576 ∧ ∀ i (h : i < L.length), L[i].small) ∧ r + L.length + wgts L ≤ left) ∧ Below w.heap.size w w' := by
  have hn := hL.1
  unfold maxLen at hn
  by_cases hbig : left - L.length < 0
  · go_enter Try.func56, Try.ntmps56
    go_wp2
    go_ret
    exact ⟨-1, rfl, by omega, by omega, fun h => by omega, Below.refl _ _⟩
  · have hn2 : L.length ≤ 1048576 := by omega
    have hbig' : ¬ left - (L.length : Int) < 0 := hbig
    go_enter Try.func56, Try.ntmps56
    go_wp2
    go_loopw [1, 5] (fun l i wr => ∃ (k : Nat) (lf0 : Int), k ≤ L.length ∧ i = .int .i64 k ∧ l = .int .i64 lf0 ∧ 0 ≤ lf0 ∧ lf0 ≤ 1048576 ∧ lf0 + L.length + wgts (L.take k) ≤ left ∧ (∀ j (h : j < L.length), j < k → L[j].small) ∧ Below w.heap.size w wr) (fun _ i _ => L.length - (intOf i).toNat)
    case atStart => exact ⟨0, _, by omega, rfl, rfl, by omega, by omega, by simp [wgts]; try omega, fun j _ h => by omega, Below.refl _ _⟩
    case round =>
      obtain ⟨k, lf, hk, rfl, rfl, l0, l1, lw, hS, hb⟩ := hrel
      have LW := Lib.hid lw
      clear lw
      by_cases hlt : k < L.length
      · obtain ⟨a, rfl, hab, C, c', D, d', c0, c1, c2, c3, hC, hD⟩ := ((hL.below hb (Nat.le_refl _)).mono hb.size).at k hlt
        have HWT := Lib.hid (wgts_take hlt)
        have ST := Lib.hid (szTopic_w L[k] C c' D d' lf wr (hf _ (List.getElem_mem hlt)) hC hD l0 l1)
        go_wp2_with (fail)
        refine ST.out.mono ?_
        rintro e w1 ⟨r, rfl, r0, r1, hs, hb1⟩
        by_cases hr : r < 0
        · go_wp2
          go_ret
          exact ⟨-1, rfl, by omega, by omega, fun h => by omega, hb.trans (hb1.mono hb.size)⟩
        · go_wp2
          refine ⟨⟨k + 1, _, by omega, by go_num, rfl, by omega, r1, by have := (hs (by omega)).2; have := LW.out; have := HWT.out; omega, fun j hj hjk => ?_, hb.trans (hb1.mono hb.size)⟩, by simp [intOf]; omega⟩
          by_cases e : j = k
          · subst e; exact (hs (by omega)).1
          · exact hS j hj (by omega)
      · obtain rfl : k = L.length := by omega
        go_wp2
        go_ret
        exact ⟨lf, rfl, by omega, l1, fun _ => ⟨⟨hn2, fun i h => hS i h h⟩, by have := LW.out; rw [List.take_of_length_le (Nat.le_refl _)] at this; exact this⟩, hb⟩
set_option maxHeartbeats 2000000 in
theorem szBroker_w (b : Bro) (A : Option Addr) (c : Nat) (B : Option Addr) (d : Nat) (w : World) (hf : b.fits) (hA : Tops w w.heap.size A b.topics) (hB : Rps w w.heap.size B b.replies) :
    Calls Try.prog 23 #[broV (.slice A b.topics.length c) (.slice B b.replies.length d), .int .i64 1048576] w fun e w' => ∃ r : Int, e = .returned (.int .i64 r) ∧ -1 ≤ r ∧ r ≤ 1048576 ∧ (0 ≤ r → b.small ∧ r + b.count ≤ 1048576) ∧ Below w.heap.size w w' := by
  obtain ⟨T, R⟩ := b
  obtain ⟨f0, f1⟩ := hf
  simp only at f0 f1 hA hB ⊢
  have hb0 : Below w.heap.size w (w.alloc (.cells #[.slice A T.length c, .slice B R.length d] 42)) := (Below.refl _ _).alloc (Nat.le_refl _) _
  have k0 := Blk.fresh w 42 [.slice A T.length c, .slice B R.length d]
  simp only [List.toArray] at k0
  have SS := Lib.hid (fun W (h : Below w.heap.size w W) => szTopicS_w A T c 1048576 W (hA.on h) f0 (by omega) (by omega))
  go_enter Try.func23, Try.ntmps23
  go_wp2_with (fail)
  generalize w.alloc (.cells #[.slice A T.length c, .slice B R.length d] 42) = v0 at hb0 k0 ⊢
  refine (SS.out _ hb0).mono ?_
  rintro e w1 ⟨r, rfl, r0, r1, hS, hb1⟩
  have hw1 := hb0.trans (hb1.mono hb0.size)
  have k1 := k0.below hb1 k0.lt
  clear k0 hb0 hb1
  by_cases hr : r < 0
  · go_wp2
    go_ret
    exact ⟨-1, rfl, by omega, by omega, fun h => by omega, hw1⟩
  have c3 := k1.cell (i := 1) rfl
  have SG := Lib.hid (szReplyS_w B R d r w1 (hB.on hw1) f1 (by omega) (by omega))
  have hr' : ¬ r < 0 := hr
  go_wp2_with (fail)
  refine SG.out.mono ?_
  rintro e w2 ⟨q, rfl, q0, q1, hT, hb2⟩
  have hw2 := hw1.trans (hb2.mono hw1.size)
  by_cases hq : q < 0
  · go_wp2
    go_ret
    exact ⟨-1, rfl, by omega, by omega, fun h => by omega, hw2⟩
  have hq' : ¬ q < 0 := hq
  go_wp2
  go_ret
  exact ⟨q, rfl, q0, q1, fun h => ⟨⟨(hS (by omega)).1, (hT h).1⟩, by have := (hS (by omega)).2; have := (hT h).2; unfold Bro.count; simp only; omega⟩, hw2⟩
end Go.Proofs.Ytkimieeabmjfgaa

namespace Go.Proofs.Ytkimieeabmjfgaa
open Go.RowKit
set_option linter.unusedVariables false

structure Chg (w w' : World) (lo hi : Nat) : Prop where
  os : w'.os = w.os
  tape : w'.tape = w.tape
  output : w'.output = w.output
  size : w.heap.size ≤ w'.heap.size
  block : ∀ k, k < w.heap.size → (k < lo ∨ hi ≤ k) → w'.heap[k]? = w.heap[k]?
section
variable {w w' w2 : World} {lo hi lo' hi' : Nat}
theorem Chg.of {row : Option Nat} (h : w.grownBy w' row) (hr : ∀ k, row = some k → lo ≤ k ∧ k < hi) : Chg w w' lo hi :=
  ⟨h.os, h.tape, h.output, h.size, fun k hk ho => h.block k hk fun e => by have := hr k e.symm; omega⟩
theorem Chg.trans (h : Chg w w' lo hi) (h2 : Chg w' w2 lo hi) : Chg w w2 lo hi :=
  ⟨h2.os.trans h.os, h2.tape.trans h.tape, h2.output.trans h.output, Nat.le_trans h.size h2.size, fun k hk ho => (h2.block k (by have := h.size; omega) ho).trans (h.block k hk ho)⟩
theorem Chg.after (hb : Below w.heap.size w w') (h : Chg w' w2 lo hi) : Chg w w2 lo hi :=
  ⟨h.os.trans hb.os, h.tape.trans hb.tape, h.output.trans hb.output, Nat.le_trans hb.size h.size, fun k hk ho => (h.block k (by have := hb.size; omega) ho).trans (hb.block k hk)⟩
theorem Chg.thenB (h : Chg w w' lo hi) (hb : Below w'.heap.size w' w2) : Chg w w2 lo hi :=
  ⟨hb.os.trans h.os, hb.tape.trans h.tape, hb.output.trans h.output, Nat.le_trans h.size hb.size, fun k hk ho => (hb.block k (by have := h.size; omega)).trans (h.block k hk ho)⟩
theorem Blk.offC {g : Nat} {t : TypeId} {cs : List Value} (h : Blk w g t cs) (hc : Chg w w' lo hi) (ho : g < lo ∨ hi ≤ g) : Blk w' g t cs := (hc.block g h.lt ho).trans h
theorem Rw.farC {e : TypeId} {size n : Nat} {v : Value} {xs : List Value} (h : Rw w lo' hi' e size v n xs) (hc : Chg w w' lo hi) (ho : hi' ≤ lo ∨ hi ≤ lo') : Rw w' lo' hi' e size v n xs := by
  refine ⟨?_, h.2⟩
  cases hv : v.ownBlock with
  | none =>
    have hg : w.grownBy w v.ownBlock := ⟨rfl, rfl, rfl, Nat.le_refl _, fun _ _ _ => rfl⟩
    rcases h.1.2 with ⟨he, h0⟩ | ⟨g, cap, cur, he, _⟩
    · exact ⟨h.1.1, .inl ⟨he, h0⟩⟩
    · rw [he] at hv; cases hv
  | some k =>
    have h1 := h.at k hv
    rcases h.1.2 with ⟨he, h0⟩ | ⟨g, cap, cur, he, hb, hh, hr⟩
    · rw [he] at hv; cases hv
    · rw [he] at hv
      cases hv
      exact ⟨h.1.1, .inr ⟨g, cap, cur, he, hb, (hc.block g (h.1.lt g (by rw [he]; rfl)).2 (by simp at h1; omega)).trans hh, hr⟩⟩
theorem below_offC {B : Nat} {a : World} (h : Below B a w) (hc : Chg w w' lo hi) (ho : B ≤ lo) (hB : B ≤ a.heap.size) : Below B a w' :=
  ⟨hc.os.trans h.os, hc.tape.trans h.tape, hc.output.trans h.output, Nat.le_trans h.size hc.size, fun k hk => (hc.block k (by have := h.size; omega) (by omega)).trans (h.block k hk)⟩
end
end Go.Proofs.Ytkimieeabmjfgaa

namespace Go.Proofs.Ytkimieeabmjfgaa
open Go.RowKit
set_option linter.unusedVariables false
set_option maxRecDepth 1000000

/-- A slice with these cells, in a block between lo and hi. -/
def Sl (w : World) (lo hi : Nat) (t : TypeId) (A : Option Addr) (xs : List Value) : Prop :=
  xs = [] ∨ ∃ g off cs, A = some ⟨g, off, none⟩ ∧ (lo ≤ g ∧ g < hi) ∧ Blk w g t cs ∧ ∀ j v, xs[j]? = some v → cs[off + j]? = some v
section
variable {w w' : World} {lo hi : Nat} {t : TypeId} {A : Option Addr} {xs : List Value}
theorem Sl.below (h : Sl w lo hi t A xs) (hb : Below w.heap.size w w') : Sl w' lo hi t A xs := by
  rcases h with h | ⟨g, off, cs, h1, h2, h3, h4⟩
  · exact .inl h
  · exact .inr ⟨g, off, cs, h1, h2, h3.below hb h3.lt, h4⟩
theorem Sl.offC {lo' hi' : Nat} (h : Sl w lo hi t A xs) (hc : Chg w w' lo' hi') (ho : hi ≤ lo' ∨ hi' ≤ lo) : Sl w' lo hi t A xs := by
  rcases h with h | ⟨g, off, cs, h1, h2, h3, h4⟩
  · exact .inl h
  · exact .inr ⟨g, off, cs, h1, h2, h3.offC hc (by omega), h4⟩
theorem Sl.grown {row : Option Nat} (h : Sl w lo hi t A xs) (hc : w.grownBy w' row) (ho : ∀ a, A = some a → row ≠ some a.block) : Sl w' lo hi t A xs := by
  rcases h with h | ⟨g, off, cs, h1, h2, h3, h4⟩
  · exact .inl h
  · exact .inr ⟨g, off, cs, h1, h2, h3.grown hc (fun e => ho _ h1 e.symm), h4⟩
theorem Sl.wide {lo' hi' : Nat} (h : Sl w lo hi t A xs) (h1 : lo' ≤ lo) (h2 : hi ≤ hi') : Sl w lo' hi' t A xs := by
  rcases h with h | ⟨g, off, cs, e1, e2, h3, h4⟩
  · exact .inl h
  · exact .inr ⟨g, off, cs, e1, by omega, h3, h4⟩
end
theorem Sl.of_own {w : World} {lo n size : Nat} {t : TypeId} {v : Value} {xs : List Value} (h : w.ownsRow lo t size v n xs) {A : Option Addr} {m c : Nat} (hv : v = .slice A m c) : Sl w lo w.heap.size t A xs := by
  have hl := h.lt
  have hx := h.1
  rcases h.2 with ⟨e, hz⟩ | ⟨g, cap, cur, e, hg, hb, hn, hm, hs, ht⟩
  · exact .inl (List.eq_nil_of_length_eq_zero (by rw [hx, hz]; simp))
  · rw [hv] at e
    cases e
    refine .inr ⟨g, 0, cur.toList, rfl, ⟨hg, (hl g (by rw [hv]; rfl)).2⟩, by unfold Blk; simpa using hb, fun j u hj => ?_⟩
    have hc := World.ownsRow.cells h (g := g) (by rw [hv]; rfl) j u hj
    rw [add_none, cell_of_row w g _ cur _ (0, 0) hb] at hc
    simpa using hc
theorem Rw.sl {w : World} {lo hi n size m c : Nat} {t : TypeId} {A : Option Addr} {xs : List Value} (h : Rw w lo hi t size (.slice A m c) n xs) : Sl w lo hi t A xs := by
  rcases Sl.of_own h.1 rfl with h1 | ⟨g, off, cs, h1, h2, h3, h4⟩
  · exact .inl h1
  · exact .inr ⟨g, off, cs, h1, ⟨h2.1, h.2 g (by rw [h1]; rfl)⟩, h3, h4⟩
theorem Sl.strs {w : World} {lo hi : Nat} {A : Option Addr} {L : List ByteArray} (h : Sl w lo hi 9 A (L.map Value.string)) (hn : L.length ≤ maxLen) : Strs w w.heap.size A L := by
  refine ⟨hn, fun i hi => ?_⟩
  rcases h with h | ⟨g, off, cs, h1, h2, h3, h4⟩
  · have : L = [] := by simpa using h
    subst this; simp at hi
  · have e0 : (L.map Value.string)[i]? = some (.string L[i]) := by simp [hi]
    exact ⟨_, h1, h3.lt, by rw [add_none]; exact h3.cell (h4 _ _ e0)⟩
theorem Sl.grs {w : World} {lo hi : Nat} {A : Option Addr} {L : List Grp} (h : Sl w lo hi 68 A (gflat L)) (hn : L.length ≤ maxLen) : Grs w w.heap.size A L := by
  refine ⟨hn, fun i hi => ?_⟩
  rcases h with h | ⟨g, off, cs, h1, h2, h3, h4⟩
  · have := gflat_len L
    rw [h] at this
    simp at this
    omega
  · have e0 : (gflat L)[i * 2]? = some (.string L[i].name) := by have := gflat_get L i hi 0 (by omega); rw [Nat.add_zero] at this; rw [this]; rfl
    have e1 : (gflat L)[i * 2 + 1]? = some (.int .i64 L[i].acked) := by rw [gflat_get L i hi 1 (by omega)]; rfl
    exact ⟨_, h1, h3.lt, by rw [add_none]; exact h3.cell (h4 _ _ e0), by rw [add_none]; exact h3.cell (h4 _ _ e1)⟩
/-- What a call leaves that writes only into the block of a slice (into none where the slice is empty). -/
def Wr (w w' : World) (A : Option Addr) (xs : List Value) : Prop := ∃ row, w.grownBy w' row ∧ ∀ k, row = some k → xs ≠ [] ∧ A.map (·.block) = some k
theorem Sl.keep {w w' : World} {lo hi : Nat} {t : TypeId} {A B : Option Addr} {xs ys : List Value} (h : Sl w lo hi t A xs) (hc : Wr w w' B ys) (ho : xs ≠ [] → ys ≠ [] → A.map (·.block) ≠ B.map (·.block)) : Sl w' lo hi t A xs := by
  rcases h with h | ⟨g, off, cs, h1, h2, h3, h4⟩
  · exact .inl h
  · by_cases hx : xs = []
    · exact .inl hx
    · obtain ⟨row, hg, hr⟩ := hc
      refine .inr ⟨g, off, cs, h1, h2, h3.grown hg (fun e => ?_), h4⟩
      obtain ⟨hy, hb⟩ := hr g e.symm
      exact ho hx hy (by rw [h1, hb]; rfl)
theorem Sl.differ {w : World} {lo hi lo' hi' : Nat} {t t' : TypeId} {A B : Option Addr} {xs ys : List Value} (h : Sl w lo hi t A xs) (h' : Sl w lo' hi' t' B ys) (ht : t ≠ t') : xs ≠ [] → ys ≠ [] → A.map (·.block) ≠ B.map (·.block) := by
  intro hx hy e
  rcases h with h | ⟨g, off, cs, h1, _, h3, _⟩
  · exact hx h
  · rcases h' with h' | ⟨g', off', cs', h1', _, h3', _⟩
    · exact hy h'
    · rw [h1, h1'] at e
      simp at e
      subst e
      unfold Blk at h3 h3'
      rw [h3] at h3'
      injection h3' with h3'
      injection h3' with _ h4 _
      exact ht h4
theorem Wr.of {w w' : World} {g off : Nat} {xs : List Value} (h : w.grownBy w' (some g)) (hx : xs ≠ []) : Wr w w' (some ⟨g, off, none⟩) xs := ⟨_, h, fun k e => ⟨hx, by rw [← e]; rfl⟩⟩
theorem Wr.none {w : World} {A : Option Addr} {xs : List Value} : Wr w w A xs := ⟨.none, World.grownBy.refl _ _, fun k e => by cases e⟩
theorem Strs.offC {w w' : World} {B lo hi : Nat} {A : Option Addr} {L : List ByteArray} (h : Strs w B A L) (hc : Chg w w' lo hi) (ho : B ≤ lo) (hB : B ≤ w.heap.size) : Strs w' B A L :=
  ⟨h.1, fun i hi => by
    obtain ⟨a, e, h1, h2⟩ := h.2 i hi
    exact ⟨a, e, h1, by rw [World.cell?_of_block (a := a.add _) (hc.block _ (by rw [add_blk]; omega) (by rw [add_blk]; omega))]; exact h2⟩⟩
theorem Grs.offC {w w' : World} {B lo hi : Nat} {A : Option Addr} {L : List Grp} (h : Grs w B A L) (hc : Chg w w' lo hi) (ho : B ≤ lo) (hB : B ≤ w.heap.size) : Grs w' B A L := by
  refine ⟨h.1, fun i hi => ?_⟩
  obtain ⟨a, e, h1, h2, h3⟩ := h.2 i hi
  have hk := hc.block a.block (by omega) (by omega)
  have hk' : ∀ m, w'.cell? (a.add m) = w.cell? (a.add m) := fun m => World.cell?_of_block (a := a.add m) (by rw [add_blk]; exact hk)
  exact ⟨a, e, h1, by rw [hk']; exact h2, by rw [hk']; exact h3⟩
/-- A cell of the block that a slice lies in changes. -/
theorem set_over {cs xs : List Value} {off j : Nat} {u : Value} (h : ∀ i v, xs[i]? = some v → cs[off + i]? = some v) (hj : j < xs.length) : ∀ i v, (xs.set j u)[i]? = some v → (cs.set (off + j) u)[off + i]? = some v := by
  intro i v hi
  rw [List.getElem?_set] at hi ⊢
  by_cases e : j = i
  · subst e
    have h0 := h j xs[j] (by simp [hj])
    have hlt : off + j < cs.length := by
      rcases Nat.lt_or_ge (off + j) cs.length with h1 | h1
      · exact h1
      · rw [List.getElem?_eq_none h1] at h0; cases h0
    simp [hj] at hi
    simp [hlt, hi]
  · simp [e] at hi
    simp [e, h i v hi]

set_option maxHeartbeats 2000000 in
theorem markStringS_at (g off n c k : Nat) (L : List ByteArray) (cs : List Value) (w : World) (hl : L.length = n) (hB : Blk w g 9 cs) (hc : ∀ j v, (L.map Value.string)[j]? = some v → cs[off + j]? = some v) (h0 : 1 ≤ k) (h1 : k + n ≤ 4000000) :
    Calls Try.prog 50 #[.slice (some ⟨g, off, none⟩) n c, .int .i64 k] w fun e w' => e = .returned (.int .i64 ((k + n : Nat) : Int)) ∧
      (∃ cs', Blk w' g 9 cs' ∧ ∀ j v, ((markN n k).map Value.string)[j]? = some v → cs'[off + j]? = some v) ∧ w.grownBy w' (some g) := by
  go_enter Try.func50, Try.ntmps50
  go_wp2
  go_loopw [1, 5] (fun q i wr => ∃ j : Nat, j ≤ n ∧ i = .int .i64 j ∧ q = .int .i64 ((k + j : Nat) : Int) ∧ (∃ cs', Blk wr g 9 cs' ∧ ∀ i v, (((markN n k).take j ++ L.drop j).map Value.string)[i]? = some v → cs'[off + i]? = some v) ∧ w.grownBy wr (some g)) (fun _ i _ => n - (intOf i).toNat)
  case atStart => exact ⟨0, by omega, rfl, rfl, ⟨cs, hB, by simpa using hc⟩, World.grownBy.refl _ _⟩
  case round =>
    obtain ⟨j, hj, rfl, rfl, ⟨cs1, hr, hc1⟩, hg⟩ := hrel
    by_cases hlt : j < n
    · have hlt' : (j : Int) < (n : Int) := by omega
      go_wp2_with (fail)
      refine (markText_any (k + j) _ (by omega) (by omega)).mono ?_
      rintro e w1 ⟨rfl, hb1⟩
      have r1 := hr.below hb1 hr.lt
      have g1 := gr_below hg hb1
      have hjl : j < (((markN n k).take j ++ L.drop j).map Value.string).length := by simp [markN_len]; omega
      have c1 := r1.cell (i := off + j) (hc1 j _ (List.getElem?_eq_getElem hjl))
      have f1 := r1.froz (off + j)
      have s1 := r1.put (off + j) (.string (markS (k + j)))
      have hc2 := set_over (u := .string (markS (k + j))) hc1 hjl
      have t1 := gr_set g1 (i := off + j) (.string (markS (k + j)))
      have e1 : ((markN n k).take j ++ L.drop j).set j (markS (k + j)) = (markN n k).take (j + 1) ++ L.drop (j + 1) := by
        rw [← markN_get hlt]; exact part_set (by rw [markN_len]; omega) (by omega)
      rw [← List.map_set, e1] at hc2
      clear hc1 r1
      go_wp2
      exact ⟨⟨j + 1, by omega, by go_num, by go_num, ⟨_, s1, hc2⟩, t1⟩, by simp [intOf]; omega⟩
    · obtain rfl : j = n := by omega
      go_wp2
      go_ret
      rw [List.take_of_length_le (by rw [markN_len]; exact Nat.le_refl _), List.drop_of_length_le (by omega), List.append_nil] at hc1
      exact ⟨rfl, ⟨cs1, hr, hc1⟩, hg⟩
theorem markStringS_sl (A : Option Addr) (L : List ByteArray) (c lo hi k : Nat) (w : World) (h : Sl w lo hi 9 A (L.map Value.string)) (h0 : 1 ≤ k) (h1 : k + L.length ≤ 4000000) :
    Calls Try.prog 50 #[.slice A L.length c, .int .i64 k] w fun e w' => e = .returned (.int .i64 ((k + L.length : Nat) : Int)) ∧
      Sl w' lo hi 9 A ((markN L.length k).map Value.string) ∧ Wr w w' A (L.map Value.string) ∧ Chg w w' lo hi := by
  by_cases hx : L.map Value.string = []
  · have hz' : L = [] := by simpa using hx
    subst hz'
    go_enter Try.func50, Try.ntmps50
    go_wp2
    go_loop [1, 5] (fun q i => q = .int .i64 k ∧ i = .int .i64 0) (fun _ _ => 0)
    case atStart => exact ⟨rfl, rfl⟩
    case round =>
      obtain ⟨rfl, rfl⟩ := hrel
      go_wp2
      go_ret
      exact ⟨rfl, .inl (by simp [markN]), Wr.none, Chg.of (row := none) (World.grownBy.refl _ _) (fun k h => by cases h)⟩
  · rcases h with h | ⟨g, off, cs, rfl, h2, h3, h4⟩
    · exact absurd h hx
    · refine (markStringS_at g off L.length c k L cs w rfl h3 h4 h0 h1).mono fun e w' ⟨he, ⟨cs', q1, q2⟩, q3⟩ => ⟨he, .inr ⟨g, off, cs', rfl, h2, q1, q2⟩, Wr.of q3 hx, Chg.of q3 (fun k e => by cases e; exact h2)⟩

/-- The marks of n groups, from k on. -/
def markG (n k : Nat) : List Grp := (List.range n).map fun i => ⟨markS (k + 2 * i), ((k + 2 * i + 1 : Nat) : Int)⟩
theorem markG_len (n k : Nat) : (markG n k).length = n := by simp [markG]
theorem markG_get {n k i : Nat} (h : i < n) : (markG n k)[i]'(by rw [markG_len]; exact h) = ⟨markS (k + 2 * i), ((k + 2 * i + 1 : Nat) : Int)⟩ := by simp [markG]
set_option maxHeartbeats 2000000 in
theorem markGroupS_at (g off n c k : Nat) (L : List Grp) (cs : List Value) (w : World) (hl : L.length = n) (hB : Blk w g 68 cs) (hc : ∀ j v, (gflat L)[j]? = some v → cs[off + j]? = some v) (h0 : 1 ≤ k) (h1 : k + 2 * n ≤ 4000000) :
    Calls Try.prog 51 #[.slice (some ⟨g, off, none⟩) n c, .int .i64 k] w fun e w' => e = .returned (.int .i64 ((k + 2 * n : Nat) : Int)) ∧
      (∃ cs', Blk w' g 68 cs' ∧ ∀ j v, (gflat (markG n k))[j]? = some v → cs'[off + j]? = some v) ∧ w.grownBy w' (some g) := by
  go_enter Try.func51, Try.ntmps51
  go_wp2
  go_loopw [1, 5] (fun q i wr => ∃ j : Nat, j ≤ n ∧ i = .int .i64 j ∧ q = .int .i64 ((k + 2 * j : Nat) : Int) ∧ (∃ cs', Blk wr g 68 cs' ∧ ∀ i v, (gflat ((markG n k).take j ++ L.drop j))[i]? = some v → cs'[off + i]? = some v) ∧ w.grownBy wr (some g)) (fun _ i _ => n - (intOf i).toNat)
  case atStart => exact ⟨0, by omega, rfl, rfl, ⟨cs, hB, by simpa using hc⟩, World.grownBy.refl _ _⟩
  case round =>
    obtain ⟨j, hj, rfl, rfl, ⟨cs1, hr, hc1⟩, hg⟩ := hrel
    by_cases hlt : j < n
    · have hlt' : (j : Int) < (n : Int) := by omega
      go_wp2_with (fail)
      refine (markText_any (k + 2 * j) _ (by omega) (by omega)).mono ?_
      rintro e w1 ⟨rfl, hb1⟩
      have r1 := hr.below hb1 hr.lt
      have g1 := gr_below hg hb1
      have hjl : (gflat ((markG n k).take j ++ L.drop j)).length = n * 2 := by rw [gflat_len]; simp [markG_len]; omega
      have c1 := r1.cell (i := off + j * 2) (hc1 (j * 2) _ (List.getElem?_eq_getElem (by omega)))
      have c2 := r1.cell (i := off + (j * 2 + 1)) (hc1 (j * 2 + 1) _ (List.getElem?_eq_getElem (by omega)))
      have f1 := r1.froz (off + j * 2)
      have f2 := r1.froz (off + (j * 2 + 1))
      have s1 := r1.put (off + j * 2) (.string (markS (k + 2 * j)))
      have hc2 := set_over (j := j * 2) (u := .string (markS (k + 2 * j))) hc1 (by omega)
      have t1 := gr_set g1 (i := off + j * 2) (.string (markS (k + 2 * j)))
      have s2 := s1.put (off + (j * 2 + 1)) (.int .i64 ((k + 2 * j + 1 : Nat) : Int))
      have hc3 := set_over (j := j * 2 + 1) (u := .int .i64 ((k + 2 * j + 1 : Nat) : Int)) hc2 (by rw [List.length_set]; omega)
      have t2 := gr_set t1 (i := off + (j * 2 + 1)) (.int .i64 ((k + 2 * j + 1 : Nat) : Int))
      have e3 := gflat_set ⟨markS (k + 2 * j), ((k + 2 * j + 1 : Nat) : Int)⟩ ((markG n k).take j ++ L.drop j) j
      simp only at e3
      rw [e3, ← markG_get hlt, part_set (by rw [markG_len]; omega) (by omega)] at hc3
      have hv : ((k + 2 * j + 1 : Nat) : Int) = (k : Int) + 2 * (j : Int) + 1 := by omega
      rw [hv] at s2 t2
      rw [show off + (j * 2 + 1) = off + j * 2 + 1 by omega] at s2 t2 c2 f2 hc3
      have hc4 : ∀ i v, (gflat ((markG n k).take (j + 1) ++ L.drop (j + 1)))[i]? = some v → ((cs1.set (off + j * 2) (.string (markS (k + 2 * j)))).set (off + j * 2 + 1) (.int .i64 ((k : Int) + 2 * (j : Int) + 1)))[off + i]? = some v := by
        rw [← hv]; exact hc3
      clear hc1 hc2 hc3 r1 e3 s1 t1
      go_wp2
      exact ⟨⟨j + 1, by omega, by go_num, by go_num, ⟨_, s2, hc4⟩, t2⟩, by simp [intOf]; omega⟩
    · obtain rfl : j = n := by omega
      go_wp2
      go_ret
      rw [List.take_of_length_le (by rw [markG_len]; exact Nat.le_refl _), List.drop_of_length_le (by omega), List.append_nil] at hc1
      exact ⟨rfl, ⟨cs1, hr, hc1⟩, hg⟩
theorem markGroupS_sl (A : Option Addr) (L : List Grp) (c lo hi k : Nat) (w : World) (h : Sl w lo hi 68 A (gflat L)) (h0 : 1 ≤ k) (h1 : k + 2 * L.length ≤ 4000000) :
    Calls Try.prog 51 #[.slice A L.length c, .int .i64 k] w fun e w' => e = .returned (.int .i64 ((k + 2 * L.length : Nat) : Int)) ∧
      Sl w' lo hi 68 A (gflat (markG L.length k)) ∧ Wr w w' A (gflat L) ∧ Chg w w' lo hi := by
  by_cases hx : gflat L = []
  · have hz' : L = [] := by
      have := gflat_len L
      rw [hx] at this
      exact List.eq_nil_of_length_eq_zero (by simp at this; omega)
    subst hz'
    go_enter Try.func51, Try.ntmps51
    go_wp2
    go_loop [1, 5] (fun q i => q = .int .i64 k ∧ i = .int .i64 0) (fun _ _ => 0)
    case atStart => exact ⟨rfl, rfl⟩
    case round =>
      obtain ⟨rfl, rfl⟩ := hrel
      go_wp2
      go_ret
      exact ⟨rfl, .inl (by simp [markG, gflat]), Wr.none, Chg.of (row := none) (World.grownBy.refl _ _) (fun k h => by cases h)⟩
  · rcases h with h | ⟨g, off, cs, rfl, h2, h3, h4⟩
    · exact absurd h hx
    · refine (markGroupS_at g off L.length c k L cs w rfl h3 h4 h0 h1).mono fun e w' ⟨he, ⟨cs', q1, q2⟩, q3⟩ => ⟨he, .inr ⟨g, off, cs', rfl, h2, q1, q2⟩, Wr.of q3 hx, Chg.of q3 (fun k e => by cases e; exact h2)⟩
set_option maxHeartbeats 2000000 in
theorem heldGroupS_any (A : Option Addr) (n c k : Nat) (w : World) (hF : Grs w w.heap.size A (markG n k)) (h0 : 1 ≤ k) (h1 : k + 2 * n ≤ 4000000) :
    Calls Try.prog 74 #[.slice A n c, .int .i64 k] w fun e w' => e = .returned (.int .i64 ((k + 2 * n : Nat) : Int)) ∧ Below w.heap.size w w' := by
  go_enter Try.func74, Try.ntmps74
  go_wp2
  go_loopw [1, 5] (fun q i wr => ∃ j : Nat, j ≤ n ∧ i = .int .i64 j ∧ q = .int .i64 ((k + 2 * j : Nat) : Int) ∧ Below w.heap.size w wr) (fun _ i _ => n - (intOf i).toNat)
  case atStart => exact ⟨0, by omega, rfl, rfl, Below.refl _ _⟩
  case round =>
    obtain ⟨j, hj, rfl, rfl, hb⟩ := hrel
    by_cases hlt : j < n
    · have hlt' : (j : Int) < (n : Int) := by omega
      obtain ⟨a, rfl, hab, a0, a1⟩ := (hF.below hb (Nat.le_refl _)).at j (by rw [markG_len]; exact hlt)
      rw [markG_get hlt] at a0 a1
      simp only at a0 a1
      obtain ⟨I, f, hI, g0, gk, gc, ge⟩ := class_grown wr
      have x0 := fun s => kept_cell (gk s) a0
      have M0 := fun W => markText_any (k + 2 * j) W (by omega) (by omega)
      clear a0
      go_wp2
      refine wp_region_kept f (by kernel_rfl) (by kernel_rfl) g0 ?_
      repeat (first
        | go_big_quiet_skip
        | (go_big_quiet_want; go_big_quiet_op; first | go_big_quiet_on | (apply Exists.intro; refine ⟨fun s => ?_, ?_⟩; (go_at_call 94; refine (M0 _).mono ?_; rintro e w4 ⟨rfl, hb4⟩; exact ⟨rfl, gc _ _ hb4⟩); go_big_quiet_on)))
      refine wpQuiet_nil ?_
      intro w5 h5
      have hb5 := ge _ h5
      have a1' := kept_cell hb5 a1
      have hv : ((k + 2 * j + 1 : Nat) : Int) = (k : Int) + 2 * (j : Int) + 1 := by omega
      rw [hv] at a1'
      clear a1 g0 gk gc ge x0
      go_wp2
      exact ⟨⟨j + 1, by omega, by go_num, by go_num, hb.trans (hb5.mono hb.size)⟩, by simp [intOf]; omega⟩
    · obtain rfl : j = n := by omega
      go_wp2
      go_ret
      exact ⟨rfl, hb⟩
end Go.Proofs.Ytkimieeabmjfgaa

namespace Go.Proofs.Ytkimieeabmjfgaa
open Go.RowKit
set_option linter.unusedVariables false
set_option maxRecDepth 1000000
theorem Chg.wide {w w' : World} {lo hi lo' hi' : Nat} (h : Chg w w' lo hi) (h1 : lo' ≤ lo) (h2 : hi ≤ hi') : Chg w w' lo' hi' :=
  ⟨h.os, h.tape, h.output, h.size, fun k hk ho => h.block k hk (by omega)⟩
theorem Chg.refl (w : World) (lo hi : Nat) : Chg w w lo hi := ⟨rfl, rfl, rfl, Nat.le_refl _, fun _ _ _ => rfl⟩
theorem Chg.set {w w' : World} {lo hi : Nat} (h : Chg w w' lo hi) (p : Addr) (u : Value) (h1 : lo ≤ p.block) (h2 : p.block < hi) : Chg w (w'.setCell p u) lo hi :=
  h.trans (Chg.of (grown_put w' p u) (fun k e => by cases e; exact ⟨h1, h2⟩))
theorem Lay.farC {w w' : World} {lo' hi' : Nat} (hc : Chg w w' lo' hi') : ∀ {M : List TC} {lo hi : Nat}, Lay w lo M hi → (hi ≤ lo' ∨ hi' ≤ lo) → Lay w' lo M hi
  | [], _, _, h, _ => h
  | _ :: _, _, _, ⟨mid, h0, h1, h2, h3, h⟩, ho => ⟨mid, h0, h1.farC hc (by have := h.le; omega), h2.farC hc (by have := h.le; omega), h3, Lay.farC hc h (by omega)⟩
theorem wgts_drop {T : List TC} {j : Nat} (h : j < T.length) : wgts ((T.drop j).map (·.t)) = wgt T[j].t + wgts ((T.drop (j + 1)).map (·.t)) := by
  rw [List.drop_eq_getElem_cons h]; rfl
set_option maxHeartbeats 4000000 in
theorem markTopicS_any (g c' n hi k : Nat) (M : List TC) (w : World) (hM : M.length = n) (hr : Rw w g (g + 1) 29 4 (.slice (some ⟨g, 0, none⟩) n c') n (tflat M)) (hly : Lay w (g + 1) M hi) (h0 : 1 ≤ k) (h1 : k + 2 * n + 2 * wgts (M.map (·.t)) ≤ 4000000) :
    Calls Try.prog 72 #[.slice (some ⟨g, 0, none⟩) n c', .int .i64 k] w fun e w' => ∃ m : Nat, e = .returned (.int .i64 m) ∧ 1 ≤ m ∧ m ≤ k + 2 * n + 2 * wgts (M.map (·.t)) ∧ Chg w w' g hi := by
  have hn : n ≤ 2000000 := by omega
  obtain ⟨K, HK⟩ : ∃ K, Hid (k + 2 * n + 2 * wgts (M.map (·.t)) = K) := ⟨_, Lib.hid rfl⟩
  rw [HK.out] at h1 ⊢
  have HM := Lib.hid hM
  clear hM
  have hgi := hly.le
  have hst : k + 2 * (n - 0) + 2 * wgts ((M.drop 0).map (·.t)) ≤ K := by have := HK.out; simp only [List.drop_zero, Nat.sub_zero]; omega
  go_enter Try.func72, Try.ntmps72
  go_wp2
  go_loopw [1, 5] (fun v i wr => ∃ (j q lo : Nat) (xs : List Value), j ≤ n ∧ i = .int .i64 j ∧ v = .int .i64 q ∧ 1 ≤ q ∧ q + 2 * (n - j) + 2 * wgts ((M.drop j).map (·.t)) ≤ K ∧ (∀ p, j * 4 ≤ p → xs[p]? = (tflat M)[p]?) ∧ Rw wr g (g + 1) 29 4 (.slice (some ⟨g, 0, none⟩) n c') n xs ∧ g + 1 ≤ lo ∧ Lay wr lo (M.drop j) hi ∧ Chg w wr g hi) (fun _ i _ => n - (intOf i).toNat)
  case atStart => exact ⟨0, k, g + 1, tflat M, by omega, rfl, rfl, h0, hst, fun _ _ => rfl, hr, Nat.le_refl _, hly, Chg.refl _ _ _⟩
  case round =>
    obtain ⟨j, q, lo, xs, hj, rfl, rfl, q1, hq, hx, hR, hlo, hL, hC⟩ := hrel
    have HX := Lib.hid hx
    have HQ := Lib.hid hq
    clear hx hq hst
    by_cases hlt : j < n
    · have hlt' : (j : Int) < (n : Int) := by omega
      have hjM : j < M.length := by rw [HM.out]; exact hlt
      have HW := Lib.hid (wgts_drop hjM)
      have hn1 : (j : Int) + 1 ≤ 2000000 := by omega
      have HD := Lib.hid (List.drop_eq_getElem_cons hjM)
      have E2 := Lib.hid ((HX.out (j * 4 + 2) (by omega)).trans (tflat_get M j hjM 2 (by omega)))
      have E3 := Lib.hid ((HX.out (j * 4 + 3) (by omega)).trans (tflat_get M j hjM 3 (by omega)))
      rw [HD.out] at hL
      obtain ⟨mid, m0, s1, s2, s3, hL2⟩ := hL
      have hhi := hL2.le
      generalize M[j] = T at s1 s2 s3 E2 E3 HW
      obtain ⟨⟨tn, tb, H, G⟩, A, a, B, b⟩ := T
      simp only at s1 s2 s3 E2 E3 HW
      have hwg : wgt ⟨tn, tb, H, G⟩ = H.length + G.length := rfl
      rw [hwg] at HW
      have hq0 : q + 2 + H.length + 2 * G.length ≤ K := by have := HQ.out; have := HW.out; omega
      have hKb := h1
      clear hwg
      go_wp2_with (fail)
      refine (markText_any q _ q1 (by omega)).mono ?_
      rintro e w1 ⟨rfl, hb1⟩
      have R1 := hR.below hb1
      have t1 := s1.below hb1
      have t2 := s2.below hb1
      have L1 := hL2.below hb1
      have C1 := hC.thenB hb1
      obtain ⟨u0, d0⟩ := row_cell R1.1 (j := j * 4) (by omega)
      obtain ⟨u1, d1⟩ := row_cell R1.1 (j := j * 4 + 1) (by omega)
      have d2 := (R1.1.cellAt (j * 4 + 2) (by omega)).trans E2.out
      have d3 := (R1.1.cellAt (j * 4 + 3) (by omega)).trans E3.out
      have f0 := R1.1.frozenAt (j * 4)
      have f1 := R1.1.frozenAt (j * 4 + 1)
      simp only [TC.cells, List.getElem?_cons_zero, List.getElem?_cons_succ] at d2 d3
      have R2 : Rw ((w1.setCell ⟨g, j * 4, none⟩ (.string (markS q))).setCell ⟨g, j * 4 + 1, none⟩ (.int .i64 ((q : Int) + 1))) g (g + 1) 29 4 (.slice (some ⟨g, 0, none⟩) n c') n ((xs.set (j * 4) (.string (markS q))).set (j * 4 + 1) (.int .i64 ((q : Int) + 1))) :=
        ⟨((R1.1.stored (j * 4) (.string (markS q))).1.stored (j * 4 + 1) (.int .i64 ((q : Int) + 1))).1, R1.2⟩
      have y2 := (((t1.set (p := ⟨g, j * 4, none⟩) (by simp; omega) (.string (markS q))).set (p := ⟨g, j * 4 + 1, none⟩) (by simp; omega) (.int .i64 ((q : Int) + 1))))
      have z2 := (((t2.set (p := ⟨g, j * 4, none⟩) (by simp; omega) (.string (markS q))).set (p := ⟨g, j * 4 + 1, none⟩) (by simp; omega) (.int .i64 ((q : Int) + 1))))
      have L2 := (((L1.set (p := ⟨g, j * 4, none⟩) (by simp; omega) (.string (markS q))).set (p := ⟨g, j * 4 + 1, none⟩) (by simp; omega) (.int .i64 ((q : Int) + 1))))
      have C2 := (C1.set ⟨g, j * 4, none⟩ (.string (markS q)) (Nat.le_refl _) (by simp; omega)).set ⟨g, j * 4 + 1, none⟩ (.int .i64 ((q : Int) + 1)) (Nat.le_refl _) (by simp; omega)
      have HX2 := Lib.hid (show ∀ p, (j + 1) * 4 ≤ p → ((xs.set (j * 4) (.string (markS q))).set (j * 4 + 1) (.int .i64 ((q : Int) + 1)))[p]? = (tflat M)[p]? from fun p hp => by
        rw [List.getElem?_set_ne (by omega), List.getElem?_set_ne (by omega)]; exact HX.out p (by omega))
      clear hR s1 s2 hL2 hC R1 t1 t2 L1 C1
      go_wp2_with (fail)
      have e2 : (((w1.setCell ⟨g, j * 4, none⟩ (.string (markS q))).setCell ⟨g, j * 4 + 1, none⟩ (.int .i64 ((q : Int) + 1)))).cell? ⟨g, j * 4 + 3, none⟩ = some (.slice B G.length b) := by
        rw [R2.1.cellAt _ (by omega), List.getElem?_set_ne (by omega), List.getElem?_set_ne (by omega), E3.out]; rfl
      clear d0 d1 d2 d3 f0 f1
      generalize ((w1.setCell ⟨g, j * 4, none⟩ (.string (markS q))).setCell ⟨g, j * 4 + 1, none⟩ (.int .i64 ((q : Int) + 1))) = w2 at R2 y2 z2 L2 C2 e2 ⊢
      have MS := markS_rw A H a lo mid (q + 2) w2 y2 (by omega) (by omega)
      have eq2 : ((q + 2 : Nat) : Int) = (q : Int) + 1 + 1 := by omega
      rw [eq2] at MS
      have MSh := Lib.hid MS
      clear MS eq2
      refine MSh.out.mono ?_
      rintro e w3 ⟨rfl, y3, g3⟩
      have at3 := y2.atA
      have R3 := R2.far g3 (lo' := lo) (hi' := mid) at3 (by omega)
      have L3 := L2.far g3 (lo' := lo) (hi' := mid) at3 (by omega)
      have C3 := C2.trans (Chg.of g3 (lo := g) (hi := hi) (fun k e => by have := at3 k e; omega))
      have z3 : Rw w3 lo mid 68 2 (.slice B G.length b) G.length (gflat G) := ⟨z2.1.kept g3 (by rw [← own_blk A H.length a]; exact own_apart z2.1 y2.1 (by decide)), z2.2⟩
      have e3 : w3.cell? ⟨g, j * 4 + 3, none⟩ = some (.slice B G.length b) := by
        rw [R3.1.cellAt _ (by omega), ← R2.1.cellAt _ (by omega)]; exact e2
      have MG := markGroupS_sl B G b lo mid (q + 2 + H.length) w3 z3.sl (by omega) (by omega)
      have MGh := Lib.hid MG
      clear MG e2 R2 y2 z2 L2 C2 y3 g3 at3
      go_wp2_with (fail)
      refine MGh.out.mono ?_
      rintro e w4 ⟨rfl, _, _, c4⟩
      have R4 := R3.farC c4 (by omega)
      have L4 := L3.farC c4 (by omega)
      have C4 := C3.trans (c4.wide (by omega) hhi)
      clear e3 R3 L3 C3 z3
      go_wp2
      refine ⟨⟨j + 1, q + 2 + H.length + 2 * G.length, mid, _, by omega, by go_num, by go_num, by omega, by have := HQ.out; have := HW.out; omega, HX2.out, R4, by omega, L4, C4⟩, by simp [intOf]; omega⟩
    · obtain rfl : j = n := by omega
      have hqK : q ≤ K := by have := HQ.out; omega
      go_wp2
      go_ret
      exact ⟨q, rfl, q1, hqK, hC⟩
set_option maxHeartbeats 4000000 in
theorem markReplyS_any (g c' n k : Nat) (ys : List Value) (w : World) (hr : Rw w g (g + 1) 53 3 (.slice (some ⟨g, 0, none⟩) n c') n ys) (h0 : 1 ≤ k) (h1 : k + 3 * n ≤ 4000000) :
    Calls Try.prog 73 #[.slice (some ⟨g, 0, none⟩) n c', .int .i64 k] w fun e w' => ∃ m : Nat, e = .returned (.int .i64 m) ∧ 1 ≤ m ∧ Chg w w' g (g + 1) := by
  go_enter Try.func73, Try.ntmps73
  go_wp2
  go_loopw [1, 5] (fun v i wr => ∃ (j : Nat) (xs : List Value), j ≤ n ∧ i = .int .i64 j ∧ v = .int .i64 ((k + 3 * j : Nat) : Int) ∧ Rw wr g (g + 1) 53 3 (.slice (some ⟨g, 0, none⟩) n c') n xs ∧ Chg w wr g (g + 1)) (fun _ i _ => n - (intOf i).toNat)
  case atStart => exact ⟨0, ys, by omega, rfl, rfl, hr, Chg.refl _ _ _⟩
  case round =>
    obtain ⟨j, xs, hj, rfl, rfl, hR, hC⟩ := hrel
    by_cases hlt : j < n
    · have hlt' : (j : Int) < (n : Int) := by omega
      obtain ⟨u0, d0⟩ := row_cell hR.1 (j := j * 3) (by omega)
      obtain ⟨u1, d1⟩ := row_cell hR.1 (j := j * 3 + 1) (by omega)
      have f0 := hR.1.frozenAt (j * 3)
      have f1 := hR.1.frozenAt (j * 3 + 1)
      have R1 : Rw ((wr.setCell ⟨g, j * 3, none⟩ (.int .i64 ((k : Int) + 3 * (j : Int)))).setCell ⟨g, j * 3 + 1, none⟩ (.int .i64 ((k : Int) + 3 * (j : Int) + 1))) g (g + 1) 53 3 (.slice (some ⟨g, 0, none⟩) n c') n ((xs.set (j * 3) (.int .i64 ((k : Int) + 3 * (j : Int)))).set (j * 3 + 1) (.int .i64 ((k : Int) + 3 * (j : Int) + 1))) :=
        ⟨((hR.1.stored (j * 3) _).1.stored (j * 3 + 1) _).1, hR.2⟩
      have C1 := (hC.set ⟨g, j * 3, none⟩ (.int .i64 ((k : Int) + 3 * (j : Int))) (Nat.le_refl _) (by simp)).set ⟨g, j * 3 + 1, none⟩ (.int .i64 ((k : Int) + 3 * (j : Int) + 1)) (Nat.le_refl _) (by simp)
      have MT := fun W => markText_any (k + 3 * j + 2) W (by omega) (by omega)
      have eq2 : ((k + 3 * j + 2 : Nat) : Int) = (k : Int) + 3 * (j : Int) + 1 + 1 := by omega
      rw [eq2] at MT
      have MTh := Lib.hid MT
      clear MT eq2
      go_wp2_with (fail)
      clear d0 d1 f0 f1
      generalize ((wr.setCell ⟨g, j * 3, none⟩ (.int .i64 ((k : Int) + 3 * (j : Int)))).setCell ⟨g, j * 3 + 1, none⟩ (.int .i64 ((k : Int) + 3 * (j : Int) + 1))) = w2 at R1 C1 ⊢
      refine (MTh.out _).mono ?_
      rintro e w3 ⟨rfl, hb3⟩
      have R3 := R1.below hb3
      have C3 := C1.thenB hb3
      obtain ⟨u2, d2⟩ := row_cell R3.1 (j := j * 3 + 2) (by omega)
      have f2 := R3.1.frozenAt (j * 3 + 2)
      have R4 : Rw (w3.setCell ⟨g, j * 3 + 2, none⟩ (.string (markS (k + 3 * j + 2)))) g (g + 1) 53 3 (.slice (some ⟨g, 0, none⟩) n c') n _ := ⟨(R3.1.stored (j * 3 + 2) (.string (markS (k + 3 * j + 2)))).1, R3.2⟩
      have C4 := C3.set ⟨g, j * 3 + 2, none⟩ (.string (markS (k + 3 * j + 2))) (Nat.le_refl _) (by simp)
      clear hR hC R1 C1
      go_wp2
      exact ⟨⟨j + 1, _, by omega, by go_num, by go_num, R4, C4⟩, by simp [intOf]; omega⟩
    · obtain rfl : j = n := by omega
      go_wp2
      go_ret
      exact ⟨k + 3 * j, rfl, by omega, hC⟩
set_option maxHeartbeats 4000000 in
theorem markBroker_any (T : List Tpc) (R : List Rep) (M : List TC) (g c' h d' base : Nat) (w : World) (hM : M.map (·.t) = T) (hgh : g < h) (hr : w.ownsRow base 29 4 (.slice (some ⟨g, 0, none⟩) T.length c') T.length (tflat M)) (hly : Lay w (g + 1) M h)
    (hq : w.ownsRow base 53 3 (.slice (some ⟨h, 0, none⟩) R.length d') R.length (rflat R)) (hc : (⟨T, R⟩ : Bro).count ≤ 1048576) :
    Calls Try.prog 33 #[broV (.slice (some ⟨g, 0, none⟩) T.length c') (.slice (some ⟨h, 0, none⟩) R.length d'), .int .i64 1] w fun e w' => ∃ m : Nat, e = .returned (.int .i64 m) ∧ 1 ≤ m ∧ Chg w w' g (h + 1) := by
  have hl : M.length = T.length := by rw [← hM, List.length_map]
  unfold Bro.count at hc
  simp only at hc
  have HM := Lib.hid hM
  clear hM
  have hgl := (hr.lt g rfl).2
  have hhl := (hq.lt h rfl).2
  have rT : Rw w g (g + 1) 29 4 (.slice (some ⟨g, 0, none⟩) T.length c') T.length (tflat M) := ⟨own_lift hr (fun k e => by cases e; exact Nat.le_refl _), fun k e => by cases e; exact Nat.lt_succ_self _⟩
  have rR : Rw w h (h + 1) 53 3 (.slice (some ⟨h, 0, none⟩) R.length d') R.length (rflat R) := ⟨own_lift hq (fun k e => by cases e; exact Nat.le_refl _), fun k e => by cases e; exact Nat.lt_succ_self _⟩
  clear hr hq
  have hK := Blk.fresh w 48 [.slice (some ⟨g, 0, none⟩) T.length c', .slice (some ⟨h, 0, none⟩) R.length d']
  have hb0 := below_box w (.cells #[.slice (some ⟨g, 0, none⟩) T.length c', .slice (some ⟨h, 0, none⟩) R.length d'] 48)
  simp only [List.toArray] at hK
  have HL := Lib.hid hl
  clear hl
  go_enter Try.func33, Try.ntmps33
  go_wp2_with (fail)
  generalize w.alloc (.cells #[.slice (some ⟨g, 0, none⟩) T.length c', .slice (some ⟨h, 0, none⟩) R.length d'] 48) = w1 at hK hb0 ⊢
  have MT := markTopicS_any g c' T.length h 1 M w1 HL.out (rT.below hb0) (hly.below hb0) (Nat.le_refl _) (by rw [HM.out]; omega)
  rw [HM.out] at MT
  have MTh := Lib.hid MT
  clear MT
  refine MTh.out.mono ?_
  rintro e w2 ⟨m, rfl, m1, m2, hc2⟩
  have hK2 := hK.offC hc2 (by omega)
  have r2 := (rR.below hb0).farC hc2 (by omega)
  have C2 := Chg.after hb0 hc2
  have k1 := hK2.cell (i := 1) rfl
  go_wp2_with (fail)
  refine (markReplyS_any h d' R.length m (rflat R) w2 r2 m1 (by omega)).mono ?_
  rintro e w3 ⟨m3, rfl, m4, hc3⟩
  have C3 := (C2.wide (lo' := g) (hi' := h + 1) (Nat.le_refl _) (by omega)).trans (hc3.wide (by omega) (Nat.le_refl _))
  clear k1
  go_wp2
  go_ret
  exact ⟨m3, rfl, m4, C3⟩
end Go.Proofs.Ytkimieeabmjfgaa
