/- The size that the exact laws reckon of a topic. -/
import Derived.Test.YtdehpdmgoaopfaaTp
namespace Go.Proofs.Ytdehpdmgoaopfaa
open Go.RowKit
set_option linter.unusedVariables false
set_option maxRecDepth 1000000

/-- A topic of no great size. -/
def Tpc.small (t : Tpc) : Prop := t.name.size ≤ 1048576 ∧ (t.held.length ≤ 1048576 ∧ ∀ i (h : i < t.held.length), t.held[i].size ≤ 1048576) ∧ (t.groups.length ≤ 1048576 ∧ ∀ i (h : i < t.groups.length), t.groups[i].name.size ≤ 1048576)

def szG (f : Grp) (left : Int) : Int := if left - f.name.size < 0 then -1 else left - f.name.size
theorem szGroup_any (f : Grp) (left : Int) (w : World) (hf : f.fits) (h0 : 0 ≤ left) (h1 : left ≤ 1048576) :
    Calls Try.prog 105 #[f.val, .int .i64 left] w fun e w' => e = .returned (.int .i64 (szG f left)) ∧ Below w.heap.size w w' := by
  obtain ⟨s0, k⟩ := f
  obtain ⟨q0, q2, q3⟩ := hf
  simp only at q0 q2 q3
  unfold maxLen at q0
  unfold Grp.val szG
  simp only
  by_cases hA : left - s0.size < 0
  · rw [if_pos hA]
    go_enter Try.func105, Try.ntmps105
    go_wp2
    go_ret
    exact ⟨rfl, (Below.refl _ _).alloc (Nat.le_refl _) _⟩
  · rw [if_neg hA]
    go_enter Try.func105, Try.ntmps105
    go_wp2
    go_ret
    exact ⟨rfl, (Below.refl _ _).alloc (Nat.le_refl _) _⟩
theorem szG_lo (f : Grp) (left : Int) (h : 0 ≤ left) : -1 ≤ szG f left ∧ szG f left ≤ left := by unfold szG; split <;> omega
theorem szG_ok {f : Grp} {left : Int} (h1 : left ≤ 1048576) (h : 0 ≤ szG f left) : f.name.size ≤ 1048576 := by
  unfold szG at h
  split at h <;> omega

set_option maxHeartbeats 1000000 in
theorem szGroupS_left (A : Option Addr) (L : List Grp) (c : Nat) (left : Int) (w : World) (hL : Grs w w.heap.size A L) (hf : ∀ g ∈ L, g.fits) (l0 : 0 ≤ left) (l1 : left ≤ 1048576) :
    Calls Try.prog 82 #[.slice A L.length c, .int .i64 left] w fun e w' => ∃ r : Int, e = .returned (.int .i64 r) ∧ -1 ≤ r ∧ r ≤ 1048576 ∧ (0 ≤ r → L.length ≤ 1048576 ∧ ∀ i (h : i < L.length), L[i].name.size ≤ 1048576) ∧ Below w.heap.size w w' := by
  have hn := hL.1
  unfold maxLen at hn
  by_cases hbig : left - L.length < 0
  · go_enter Try.func82, Try.ntmps82
    go_wp2
    go_ret
    exact ⟨-1, rfl, by omega, by omega, fun h => by omega, Below.refl _ _⟩
  · have hn2 : L.length ≤ 1048576 := by omega
    have hbig' : ¬ left - (L.length : Int) < 0 := hbig
    go_enter Try.func82, Try.ntmps82
    go_wp2
    go_loopw [1, 5] (fun l i wr => ∃ (k : Nat) (left : Int), k ≤ L.length ∧ i = .int .i64 k ∧ l = .int .i64 left ∧ 0 ≤ left ∧ left ≤ 1048576 ∧ (∀ j (h : j < L.length), j < k → L[j].name.size ≤ 1048576) ∧ Below w.heap.size w wr) (fun _ i _ => L.length - (intOf i).toNat)
    case atStart => exact ⟨0, _, by omega, rfl, rfl, by omega, by omega, fun j _ h => by omega, Below.refl _ _⟩
    case round =>
      obtain ⟨k, lf, hk, rfl, rfl, l0, l1, hS, hb⟩ := hrel
      by_cases hlt : k < L.length
      · obtain ⟨a, rfl, hab, c0, c1⟩ := (hL.below hb (Nat.le_refl _)).at k hlt
        have hsz := szG_lo L[k] lf l0
        have hff := hf _ (List.getElem_mem hlt)
        go_wp2_with (go_at_call 105; refine (szGroup_any L[k] lf wr hff l0 l1).mono ?_; rintro e w1 ⟨rfl, hb1⟩)
        · go_ret
          exact ⟨-1, rfl, by omega, by omega, fun h => by omega, hb.trans (hb1.mono hb.size)⟩
        · have h0 : 0 ≤ szG L[k] lf := by omega
          refine ⟨⟨k + 1, _, by omega, by go_num, rfl, h0, by omega, fun j hj hjk => ?_, hb.trans (hb1.mono hb.size)⟩, by simp [intOf]; omega⟩
          by_cases e : j = k
          · subst e; exact szG_ok l1 h0
          · exact hS j hj (by omega)
      · obtain rfl : k = L.length := by omega
        go_wp2
        go_ret
        exact ⟨lf, rfl, by omega, l1, fun _ => ⟨hn2, fun i h => hS i h h⟩, hb⟩
set_option maxHeartbeats 1000000 in
theorem szStringS_left (A : Option Addr) (L : List ByteArray) (c : Nat) (left : Int) (w : World) (hL : Strs w w.heap.size A L) (hf : ∀ s ∈ L, s.size ≤ maxLen) (l0 : 0 ≤ left) (l1 : left ≤ 1048576) :
    Calls Try.prog 81 #[.slice A L.length c, .int .i64 left] w fun e w' => ∃ r : Int, e = .returned (.int .i64 r) ∧ -1 ≤ r ∧ r ≤ 1048576 ∧ (0 ≤ r → L.length ≤ 1048576 ∧ ∀ i (h : i < L.length), L[i].size ≤ 1048576) ∧ Below w.heap.size w w' := by
  have hn := hL.1
  unfold maxLen at hn hf
  by_cases hbig : left - L.length < 0
  · go_enter Try.func81, Try.ntmps81
    go_wp2
    go_ret
    exact ⟨-1, rfl, by omega, by omega, fun h => by omega, Below.refl _ _⟩
  · have hn2 : L.length ≤ 1048576 := by omega
    have hbig' : ¬ left - (L.length : Int) < 0 := hbig
    go_enter Try.func81, Try.ntmps81
    go_wp2
    go_loopw [1, 5] (fun l i wr => ∃ (k : Nat) (left : Int), k ≤ L.length ∧ i = .int .i64 k ∧ l = .int .i64 left ∧ 0 ≤ left ∧ left ≤ 1048576 ∧ (∀ j (h : j < L.length), j < k → L[j].size ≤ 1048576) ∧ Below w.heap.size w wr) (fun _ i _ => L.length - (intOf i).toNat)
    case atStart => exact ⟨0, _, by omega, rfl, rfl, by omega, by omega, fun j _ h => by omega, Below.refl _ _⟩
    case round =>
      obtain ⟨k, lf, hk, rfl, rfl, l0, l1, hS, hb⟩ := hrel
      by_cases hlt : k < L.length
      · obtain ⟨a, rfl, hab, c0⟩ := (hL.below hb (Nat.le_refl _)).2 k hlt
        have hsz := hf _ (List.getElem_mem hlt)
        have hlt' : (k : Int) < (L.length : Int) := by omega
        by_cases h0 : 0 ≤ lf - L[k].size
        · go_wp2
          refine ⟨⟨k + 1, _, by omega, by go_num, rfl, h0, by omega, fun j hj hjk => ?_, hb⟩, by simp [intOf]; omega⟩
          by_cases e : j = k
          · subst e; omega
          · exact hS j hj (by omega)
        · go_wp2
          go_ret
          exact ⟨-1, rfl, by omega, by omega, fun h => by omega, hb⟩
      · obtain rfl : k = L.length := by omega
        go_wp2
        go_ret
        exact ⟨lf, rfl, by omega, l1, fun _ => ⟨hn2, fun i h => hS i h h⟩, hb⟩

set_option maxHeartbeats 2000000 in
theorem szTopic_any (t : Tpc) (A : Option Addr) (c : Nat) (B : Option Addr) (d : Nat) (w : World) (hf : t.fits) (hA : Strs w w.heap.size A t.held) (hB : Grs w w.heap.size B t.groups) :
    Calls Try.prog 41 #[topV t.name t.base (.slice A t.held.length c) (.slice B t.groups.length d), .int .i64 1048576] w fun e w' => ∃ r : Int, e = .returned (.int .i64 r) ∧ -1 ≤ r ∧ r ≤ 1048576 ∧ (0 ≤ r → t.small) ∧ Below w.heap.size w w' := by
  obtain ⟨nm, bs, H, G⟩ := t
  obtain ⟨f0, f1, f2, f3⟩ := hf
  simp only at f0 f1 f2 f3 hA hB ⊢
  unfold maxLen at f0
  have hb0 : Below w.heap.size w (w.alloc (.cells #[.string nm, .int .i64 bs, .slice A H.length c, .slice B G.length d] 51)) := (Below.refl _ _).alloc (Nat.le_refl _) _
  have k0 := Blk.fresh w 51 [.string nm, .int .i64 bs, .slice A H.length c, .slice B G.length d]
  simp only [List.toArray] at k0
  by_cases hn : (1048576 : Int) - nm.size < 0
  · go_enter Try.func41, Try.ntmps41
    go_wp2
    go_ret
    exact ⟨-1, rfl, by omega, by omega, fun h => by omega, hb0⟩
  have hn' : ¬ (1048576 : Int) - (nm.size : Int) < 0 := hn
  have SS := Lib.hid (fun W (h : Below w.heap.size w W) => szStringS_left A H c (1048576 - nm.size) W (hA.on h) f2 (by omega) (by omega))
  go_enter Try.func41, Try.ntmps41
  go_wp2_with (fail)
  generalize w.alloc (.cells #[.string nm, .int .i64 bs, .slice A H.length c, .slice B G.length d] 51) = v0 at hb0 k0 ⊢
  refine (SS.out _ hb0).mono ?_
  rintro e w1 ⟨r, rfl, r0, r1, hS, hb1⟩
  have hw1 := hb0.trans (hb1.mono hb0.size)
  have k1 := k0.below hb1 k0.lt
  clear k0 hb0 hb1
  by_cases hr : r < 0
  · go_wp2
    go_ret
    exact ⟨-1, rfl, by omega, by omega, fun h => by omega, hw1⟩
  have c3 := k1.cell (i := 3) rfl
  have SG := Lib.hid (szGroupS_left B G d r w1 (hB.on hw1) f3 (by omega) (by omega))
  have hr' : ¬ r < 0 := hr
  go_wp2_with (fail)
  refine SG.out.mono ?_
  rintro e w2 ⟨q, rfl, q0, q1, hT, hb2⟩
  have hw2 := hw1.trans (hb2.mono hw1.size)
  by_cases hq : q < 0
  · go_wp2
    go_ret
    exact ⟨-1, rfl, by omega, by omega, fun h => by omega, hw2⟩
  have hq' : ¬ q < 0 := hq
  go_wp2
  go_ret
  exact ⟨q, rfl, q0, q1, fun h => ⟨by show nm.size ≤ 1048576; omega, hS (by omega), hT h⟩, hw2⟩
end Go.Proofs.Ytdehpdmgoaopfaa
