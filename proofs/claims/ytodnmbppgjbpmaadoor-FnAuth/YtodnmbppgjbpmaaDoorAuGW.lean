/- The draws of stage 9's law. The draws of quorums and of vectors. The draw of a vector that may be spoilt. VectorGood of the specification. -/
import Derived.Test.YtodnmbppgjbpmaaDoorAuVecLawW
import Derived.Test.YtodnmbppgjbpmaaDoorPickW
import Derived.BigRegion
import Derived.Deep.RegionHeld3
namespace Go.Proofs.YtodnmbppgjbpmaaDoor
open Go.RowKit
set_option linter.unusedVariables false
set_option maxRecDepth 1000000

def StrH (B g m : Nat) (w : World) (e : Ending) (w' : World) : Prop := ∃ s : ByteArray, e = .returned (.string s) ∧ s.size ≤ m ∧ Drw w' B g ∧ w.grownBy w' (some g)
set_option maxHeartbeats 4000000 in
theorem l09Secret_any (B g : Nat) (w : World) (h : Drw w B g) :
    Calls Tryd.prog 35 #[.pointer (some ⟨g, 0, none⟩)] w (StrH B g 61 w) := by
  obtain ⟨i0, hi, hz0, hz1, hz2⟩ := info_parts infoU8
  go_enter Tryd.func35, Tryd.ntmps35
  go_wp2_with (fail)
  refine (one_any B g 8 _ h (by omega) (by omega)).mono ?_
  rintro e w1 ⟨b, rfl, hd1, ho1⟩
  cases b
  · obtain ⟨S, hS⟩ : ∃ S : List ByteArray, S = [⟨#[115]⟩, ⟨#[107, 101, 121]⟩] := ⟨_, rfl⟩
    have PP := Lib.hid (pick_any B g w1.heap.size S _ (hd1.alloc (.cells (S.map Value.string).toArray 9)) (Blk.fresh w1 9 (S.map Value.string)) (by rw [hS]; decide) (by rw [hS]; decide))
    have hsz : ∀ s ∈ S, s.size ≤ 61 := by rw [hS]; decide
    have hgA := World.grownBy_alloc w1 (.cells (S.map Value.string).toArray 9) (some g)
    rw [hS] at PP hsz hgA
    clear hS
    go_wp2_with (fail)
    refine PP.out.mono ?_
    rintro e w4 ⟨s, hs, rfl, hd4, ho4⟩
    have hs' := hsz s hs
    go_wp2
    go_ret
    exact ⟨s, rfl, hs', hd4, only_trans ho1 (only_trans hgA ho4)⟩
  · have hdA := hd1.alloc (.cells #[.int .i64 0, .int .i64 60, .int .i64 61] 3)
    have hgA := World.grownBy_alloc w1 (.cells #[.int .i64 0, .int .i64 60, .int .i64 61] 3) (some g)
    go_wp2_with (fail)
    refine (n_any B g 3 _ hdA (by omega) (by omega)).mono ?_
    rintro e w2 ⟨v, rfl, v0, v1, _, hd2, ho2⟩
    have v2 := v1 (by omega)
    clear v1
    obtain ⟨z, hz, hzc⟩ := pick_cell [0, 60, 61] 3 ho2 hd1.lt.2.1 v0 (by show v < ((3 : Nat) : Int); omega)
    have hzr : 0 ≤ z ∧ z ≤ 61 := by simp at hz; omega
    have HY := Lib.hid (show z = ((z.toNat : Nat) : Int) by omega)
    obtain ⟨q, HQ⟩ : ∃ q, Hid (z.toNat = q) := ⟨_, Lib.hid rfl⟩
    rw [HQ.out] at HY
    have hq : q ≤ 61 := by have := HQ.out; omega
    have ho12 := only_trans ho1 (only_trans hgA ho2)
    clear hz hzr HQ hdA ho1 hgA ho2 hd1
    go_wp2_with (at_make; refine wpList_make_full _ rfl _ _ 22 rfl w2.heap.size 5 i0 (.int .u8 0) 1 Tryd.underlying22 hi hz0 hz1 _ _ _ _ q rfl rfl HY.out HY.out (by rw [hz2]; omega) (by unfold maxLen; omega) (Nat.le_refl _) ?_; intro w6 hown6 hgrow6; rw [made_zero] at hown6; have hcv := own_string hown6; have hb6 : Below w2.heap.size w2 w6 := (Below.refl _ _).grown hgrow6 (Nat.le_refl _) (fun k e => by cases e))
    go_ret
    exact ⟨_, rfl, by rw [strOfNums_size]; simpa using hq, hd2.below hb6, only_of_below ho12 hb6⟩

set_option maxHeartbeats 4000000 in
theorem drawPairKey_any (A : Option Addr) (n c : Nat) (w : World) (h : Bts w w.heap.size A n) :
    Calls Tryd.prog 8 #[.slice A n c] w fun e w' => ∃ (k : ByteArray) (a b : Int), e = .returned (.tuple #[.string k, .int .i64 a, .int .i64 b]) ∧ k.size ≤ 61 ∧ Below w.heap.size w w' := by
  go_enter Tryd.func8, Tryd.ntmps8
  go_wp2_with (fail)
  refine (source_any A n c w.heap.size _ h (Nat.le_refl _)).mono ?_
  rintro e w1 ⟨g, rfl, hg, hd1, hb1⟩
  go_wp2_with (fail)
  refine (l09Secret_any w.heap.size g _ hd1).mono ?_
  rintro e w2 ⟨k, rfl, hk, hd2, ho2⟩
  go_wp2_with (fail)
  refine (n_any w.heap.size g 5 _ hd2 (by omega) (by omega)).mono ?_
  rintro e w3 ⟨x, rfl, x0, x1, _, hd3, ho3⟩
  go_wp2_with (fail)
  refine (n_any w.heap.size g 6 _ hd3 (by omega) (by omega)).mono ?_
  rintro e w4 ⟨y, rfl, y0, y1, _, hd4, ho4⟩
  have y2 := y1 (by omega)
  clear y1
  go_wp2
  refine bodyPost_ret (v := .tuple #[.string k, .int .i64 x, .int .i64 (y - 1)]) (by simp [results, Tryd.results8, go_sem]) rfl ?_
  exact ⟨k, _, _, rfl, hk, hb1.trans (only_below (only_trans ho2 (only_trans ho3 ho4)) hg hb1.size)⟩

set_option maxHeartbeats 4000000 in
theorem drawVector_any (A : Option Addr) (n c : Nat) (w : World) (h : Bts w w.heap.size A n) :
    Calls Tryd.prog 11 #[.slice A n c] w fun e w' => ∃ (k : ByteArray) (a : Int) (t : ByteArray), e = .returned (.tuple #[.string k, .int .i64 a, .string t]) ∧ k.size ≤ 61 ∧ (0 ≤ a ∧ a ≤ 4) ∧ t.size ≤ 4 ∧ Below w.heap.size w w' := by
  go_enter Tryd.func11, Tryd.ntmps11
  go_wp2_with (fail)
  refine (source_any A n c w.heap.size _ h (Nat.le_refl _)).mono ?_
  rintro e w1 ⟨g, rfl, hg, hd1, hb1⟩
  go_wp2_with (fail)
  refine (l09Secret_any w.heap.size g _ hd1).mono ?_
  rintro e w2 ⟨k, rfl, hk, hd2, ho2⟩
  go_wp2_with (fail)
  refine (n_any w.heap.size g 5 _ hd2 (by omega) (by omega)).mono ?_
  rintro e w3 ⟨x, rfl, x0, x1, _, hd3, ho3⟩
  have x2 := x1 (by omega)
  clear x1
  go_wp2_with (fail)
  refine (n_any w.heap.size g 4 _ hd3 (by omega) (by omega)).mono ?_
  rintro e w4 ⟨y, rfl, y0, y1, _, hd4, ho4⟩
  have y2 := y1 (by omega)
  clear y1
  go_wp2_with (fail)
  refine (bytes_any w.heap.size g y _ hd4 (by omega) (by omega)).mono ?_
  rintro e w5 ⟨t, rfl, ht, hd5, ho5⟩
  go_wp2
  refine bodyPost_ret (v := .tuple #[.string k, .int .i64 x, .string t]) (by simp [results, Tryd.results11, go_sem]) rfl ?_
  exact ⟨k, _, t, rfl, hk, by omega, by rw [ht]; omega, hb1.trans (only_below (only_trans ho2 (only_trans ho3 (only_trans ho4 ho5))) hg hb1.size)⟩

set_option maxHeartbeats 4000000 in
theorem drawLeader_any (A : Option Addr) (n c : Nat) (w : World) (h : Bts w w.heap.size A n) :
    Calls Tryd.prog 17 #[.slice A n c] w fun e w' => ∃ (a : Int), e = .returned (.int .i64 a) ∧ (-9223372036854775808 ≤ a ∧ a ≤ 9223372036854775807) ∧ Below w.heap.size w w' := by
  go_enter Tryd.func17, Tryd.ntmps17
  go_wp2_with (fail)
  refine (source_any A n c w.heap.size _ h (Nat.le_refl _)).mono ?_
  rintro e w1 ⟨g, rfl, hg, hd1, hb1⟩
  go_wp2_with (fail)
  refine (one_any w.heap.size g 3 _ hd1 (by omega) (by omega)).mono ?_
  rintro e w2 ⟨b, rfl, hd2, ho2⟩
  cases b
  · go_wp2_with (fail)
    refine (n_any w.heap.size g 20 _ hd2 (by omega) (by omega)).mono ?_
    rintro e w3 ⟨x, rfl, x0, x1, _, hd3, ho3⟩
    have x2 := x1 (by omega)
    clear x1
    go_wp2
    go_ret
    exact ⟨x, rfl, by omega, hb1.trans (only_below (only_trans ho2 ho3) hg hb1.size)⟩
  · go_wp2_with (fail)
    refine (edge_any w.heap.size g _ hd2).mono ?_
    rintro e w3 ⟨x, rfl, x0, x1, hd3, ho3⟩
    go_wp2
    go_ret
    exact ⟨x, rfl, ⟨x0, x1⟩, hb1.trans (only_below (only_trans ho2 ho3) hg hb1.size)⟩
end Go.Proofs.YtodnmbppgjbpmaaDoor

namespace Go.Proofs.YtodnmbppgjbpmaaDoor
open Go.RowKit
set_option linter.unusedVariables false
set_option maxRecDepth 1000000

theorem own_draw {w w' : World} {base g n size : Nat} {e : TypeId} {v : Value} {xs : List Value} (h : w.ownsRow base e size v n xs) (hg : w.grownBy w' (some g)) (hlt : g < base) : w'.ownsRow base e size v n xs :=
  h.kept hg (.inr fun e => by have := (h.lt g e).1; omega)
theorem one_int (x : Int) : ∀ u ∈ [Value.int .i64 x], u.oneCell' = true := by intro u hu; simp at hu; subst hu; rfl
theorem below_app1 {B base : Nat} {w wr w1 : World} {e : TypeId} {size n : Nat} {v : Value} {xs : List Value} {o : Obj} (hb : Below B w wr) (hB : B ≤ w.heap.size) (hown : wr.ownsRow base e size v n xs) (hBb : B ≤ base) (hg : (wr.alloc o).grownBy w1 v.ownBlock) : Below B w w1 :=
  (hb.alloc (Nat.le_trans hB hb.size) o).grown hg (by have := hb.size; simp; omega) (fun k e => Nat.le_trans hBb (hown.lt k e).1)
theorem own_any {w : World} {base size n : Nat} {e : TypeId} {v : Value} {xs : List Value} (h : w.ownsRow base e size v n xs) : ∃ A c, v = .slice A n c := by
  rcases h.2 with ⟨rfl, hz⟩ | ⟨g, cap, cur, rfl, _⟩
  · exact ⟨none, 0, by rw [hz]⟩
  · exact ⟨_, _, rfl⟩

set_option maxHeartbeats 8000000 in
theorem drawQuorum_any (A : Option Addr) (n c : Nat) (w : World) (h : Bts w w.heap.size A n) :
    Calls Tryd.prog 18 #[.slice A n c] w fun e w' => ∃ (A' : Option Addr) (L : List Int) (c' : Nat), e = .returned (.slice A' L.length c') ∧ Nms w' w'.heap.size A' L ∧ L.length ≤ 5 ∧ Below w.heap.size w w' := by
  obtain ⟨i0, hi, hz0, hz1, hz2⟩ := info_parts infoI64
  go_enter Tryd.func18, Tryd.ntmps18
  go_wp2_with (fail)
  refine (source_any A n c w.heap.size _ h (Nat.le_refl _)).mono ?_
  rintro e w1 ⟨g, rfl, hg, hd1, hb1⟩
  have hgl := hd1.lt.2.1
  have hz1' := hb1.size
  have HO0 : Hid ((w1.alloc (.cells #[] 2)).ownsRow w1.heap.size 2 1 (.slice (some ⟨w1.heap.size, 0, none⟩) 0 0) ([] : List Int).length (([] : List Int).map (Value.int .i64))) :=
    ⟨rfl, .inr ⟨w1.heap.size, 0, #[], rfl, Nat.le_refl _, by have := heap_alloc_new w1 (.cells #[] 2); simpa using this, Nat.le_refl _, by simp [maxLen], rfl, rfl⟩⟩
  have HB0 := Lib.hid (hb1.alloc hb1.size (.cells #[] 2))
  have HD0 := Lib.hid (hd1.alloc (.cells #[] 2))
  obtain ⟨B2, HB2⟩ : ∃ b, Hid (w1.heap.size = b) := ⟨_, Lib.hid rfl⟩
  have hB2 : w.heap.size ≤ B2 := by have := HB2.out; omega
  have hgB : g < B2 := by have := HB2.out; omega
  go_wp2_with (fail)
  go_loopw [4, 5] (fun v i wr => ∃ (k : Nat) (L : List Int), k ≤ 4 ∧ i = .int .i64 k ∧ L.length ≤ k ∧ (∀ x ∈ L, -1 ≤ x ∧ x ≤ 5) ∧ wr.ownsRow B2 2 1 v L.length (L.map (Value.int .i64)) ∧ Drw wr w.heap.size g ∧ Below w.heap.size w wr ∧ B2 ≤ wr.heap.size) (fun _ i _ => 4 - (intOf i).toNat)
  case atStart => exact ⟨0, [], by omega, rfl, by simp, by simp, by rw [← HB2.out]; exact HO0.out, HD0.out, HB0.out, by rw [World.size_alloc]; have := HB2.out; omega⟩
  case round =>
    clear HO0 HB0 HD0 hb1 hd1 HB2 hz1' hgl
    obtain ⟨k, L, hk, rfl, hl, hx, hr, hd, hb, hBs⟩ := hrel
    by_cases hlt : k < 4
    · have hlt' : (k : Int) < 4 := by omega
      go_wp2_with (fail)
      refine (one_any w.heap.size g 4 _ hd (by omega) (by omega)).mono ?_
      rintro e w2 ⟨b, rfl, hd2, ho2⟩
      have hr2 := own_draw hr ho2 hgB
      have hb2 := hb.trans (only_below ho2 hg hb.size)
      have hz2' := hb2.size
      have hBs2 : B2 ≤ w2.heap.size := Nat.le_trans hBs ho2.size
      clear hr hd ho2 hb
      cases b
      · have hd2l := hd2.lt.2.1
        go_wp2_with (at_builtin; refine wpList_append_own _ rfl _ _ 35 rfl B2 2 i0 (.int .i64 0) 1 8 Tryd.underlying35 hi hz0 hz1 hz2 rfl (by decide) _ _ _ rfl (World.ownsRow.alloc hr2 _) ⟨w2.heap.size, 0, none⟩ 1 1 [.int .i64 k] rfl rfl (one_cell _ _ _) (one_int _) (by unfold maxLen; omega) (by omega) (by rw [World.size_alloc]; omega) ?_; intro v' w3 hO3 hg3 hne3)
        refine ⟨⟨k + 1, L ++ [(k : Int)], by omega, by go_num, by simp; omega, ?_, by simpa using hO3, (hd2.alloc _).grown hg3 (fun q e => by have := (hr2.lt q e).1; omega), below_app1 hb2 (Nat.le_refl _) hr2 hB2 hg3, by have := hg3.size; rw [World.size_alloc] at this; omega⟩, by simp [intOf]; omega⟩
        intro x hx2
        simp only [List.mem_append, List.mem_singleton] at hx2
        rcases hx2 with hx2 | rfl
        · exact hx x hx2
        · omega
      · go_wp2
        exact ⟨⟨k + 1, L, by omega, by go_num, by omega, hx, hr2, hd2, hb2, hBs2⟩, by simp [intOf]; omega⟩
    · obtain rfl : k = 4 := by omega
      clear hlt
      go_wp2_with (fail)
      refine (one_any w.heap.size g 6 _ hd (by omega) (by omega)).mono ?_
      rintro e w2 ⟨b, rfl, hd2, ho2⟩
      have hr2 := own_draw hr ho2 hgB
      have hb2 := hb.trans (only_below ho2 hg hb.size)
      have hz2' := hb2.size
      have hBs2 : B2 ≤ w2.heap.size := Nat.le_trans hBs ho2.size
      clear hr hd ho2 hb
      cases b
      · obtain ⟨A1, c1, rfl⟩ := own_any hr2
        go_wp2
        go_ret
        exact ⟨A1, L, c1, rfl, (Rw.of hr2).nms (fun x h => by have := hx x h; omega), by omega, hb2⟩
      · go_wp2_with (fail)
        refine (n_any w.heap.size g 6 _ hd2 (by omega) (by omega)).mono ?_
        rintro e w3 ⟨y, rfl, y0, y1, _, hd3, ho3⟩
        have y2 := y1 (by omega)
        clear y1
        have hr3 := own_draw hr2 ho3 hgB
        have hb3 := hb2.trans (only_below ho3 hg hb2.size)
        have hz3' := hb3.size
        have hBs3 : B2 ≤ w3.heap.size := Nat.le_trans hBs2 ho3.size
        clear hr2 hb2 ho3
        go_wp2_with (at_builtin; refine wpList_append_own _ rfl _ _ 35 rfl B2 2 i0 (.int .i64 0) 1 8 Tryd.underlying35 hi hz0 hz1 hz2 rfl (by decide) _ _ _ rfl (World.ownsRow.alloc hr3 _) ⟨w3.heap.size, 0, none⟩ 1 1 [.int .i64 (y - 1)] rfl rfl (one_cell _ _ _) (one_int _) (by unfold maxLen; omega) (by omega) (by rw [World.size_alloc]; omega) ?_; intro v' w4 hO4 hg4 hne4)
        have hO5 : w4.ownsRow B2 2 1 v' (L ++ [y - 1]).length ((L ++ [y - 1]).map (Value.int .i64)) := by simpa using hO4
        obtain ⟨A1, c1, rfl⟩ := own_any hO5
        go_wp2
        go_ret
        refine ⟨A1, L ++ [y - 1], c1, rfl, (Rw.of hO5).nms (fun x h => ?_), by simp; omega, below_app1 hb3 (Nat.le_refl _) hr3 hB2 hg4⟩
        simp only [List.mem_append, List.mem_singleton] at h
        rcases h with h | rfl
        · have := hx x h; omega
        · omega
end Go.Proofs.YtodnmbppgjbpmaaDoor

namespace Go.Proofs.YtodnmbppgjbpmaaDoor
open Go.RowKit
set_option linter.unusedVariables false
set_option maxRecDepth 1000000

theorem ownS_nil_len {w : World} {base : Nat} {v : Value} {L : List ByteArray} (h : OwnS w base v L) (h0 : 0 < L.length) : ∃ g c, v = .slice (some ⟨g, 0, none⟩) L.length c ∧ base ≤ g ∧ g < w.heap.size := by
  rcases h.2 with ⟨_, hz⟩ | ⟨g, cap, cur, rfl, hb, hg, _⟩
  · omega
  · exact ⟨g, cap, rfl, hb, (Array.getElem?_eq_some_iff.1 hg).1⟩
set_option maxHeartbeats 8000000 in
theorem drawVectorGood_any (A : Option Addr) (n c : Nat) (w : World) (h : Bts w w.heap.size A n) :
    Calls Tryd.prog 16 #[.slice A n c] w fun e w' => ∃ (k : ByteArray) (a b : Int) (t : ByteArray) (A' : Option Addr) (L : List ByteArray) (c' : Nat), e = .returned (.tuple #[.string k, .int .i64 a, .int .i64 b, .string t, .slice A' L.length c']) ∧ k.size ≤ 61 ∧ t.size ≤ 4 ∧ Strs w' w'.heap.size A' L ∧ Below w.heap.size w w' := by
  obtain ⟨i0, hi, hz0, hz1, hz2⟩ := info_parts infoStr
  go_enter Tryd.func16, Tryd.ntmps16
  go_wp2_with (fail)
  refine (source_any A n c w.heap.size _ h (Nat.le_refl _)).mono ?_
  rintro e w1 ⟨g, rfl, hg, hd1, hb1⟩
  go_wp2_with (fail)
  refine (l09Secret_any w.heap.size g _ hd1).mono ?_
  rintro e w2 ⟨k, rfl, hk, hd2, ho2⟩
  go_wp2_with (fail)
  refine (n_any w.heap.size g 4 _ hd2 (by omega) (by omega)).mono ?_
  rintro e w3 ⟨x, rfl, x0, x1, _, hd3, ho3⟩
  go_wp2_with (fail)
  refine (n_any w.heap.size g 4 _ hd3 (by omega) (by omega)).mono ?_
  rintro e w4 ⟨y, rfl, y0, y1, _, hd4, ho4⟩
  have y2 := y1 (by omega)
  clear y1
  go_wp2_with (fail)
  refine (bytes_any w.heap.size g y _ hd4 (by omega) (by omega)).mono ?_
  rintro e w5 ⟨t, rfl, ht, hd5, ho5⟩
  have ht4 : t.size ≤ 4 := by rw [ht]; omega
  have hb5 := hb1.trans (only_below (only_trans ho2 (only_trans ho3 (only_trans ho4 ho5))) hg hb1.size)
  clear ho2 ho3 ho4 ho5 hd1 hd2 hd3 hd4 hb1 ht y0 y2 x1
  have hV4 := vecO_len k x t
  have SP := Lib.hid (specVector_any k x t w5 (by unfold maxLen; omega) (by unfold maxLen; omega))
  generalize vecO k x t = V at SP hV4
  go_wp2_with (fail)
  refine SP.out.mono ?_
  rintro e w6 ⟨A6, c6, rfl, hO6, hb6⟩
  have hd6 := hd5.below hb6
  have hb06 := hb5.trans (hb6.mono hb5.size)
  have hgB := hd5.lt.2.1
  have hBs := hb6.size
  have hwB := hb5.size
  obtain ⟨B2, HB2⟩ : ∃ b, Hid (w5.heap.size = b) := ⟨_, Lib.hid rfl⟩
  rw [HB2.out] at hO6 hgB hBs hwB
  clear hb6 hb5 hd5 SP HB2
  go_wp2_with (fail)
  refine (one_any w.heap.size g 3 _ hd6 (by omega) (by omega)).mono ?_
  rintro e w7 ⟨b, rfl, hd7, ho7⟩
  have hO7 : OwnS w7 B2 (.slice A6 V.length c6) V := own_draw hO6 ho7 hgB
  have hb7 := hb06.trans (only_below ho7 hg hb06.size)
  have hBs7 : B2 ≤ w7.heap.size := Nat.le_trans hBs ho7.size
  clear hO6 ho7 hb06 hBs hd6
  by_cases hc : b = true ∧ 0 < V.length
  focus
    obtain ⟨rfl, h0⟩ := hc
    obtain ⟨gv, cv, hv, hgv, hgl⟩ := ownS_nil_len hO7 h0
    have h0' : (0 : Int) < (V.length : Int) := by omega
    injection hv with hA6 _ hc6
    subst hA6
    subst hc6
    go_wp2_with (fail)
    refine (n_any w.heap.size g (V.length : Int) _ hd7 (by omega) (by omega)).mono ?_
    rintro e w8 ⟨q, rfl, q0, q1, q2, hd8, ho8⟩
    have hq : q < (V.length : Int) := by
      by_cases h1 : 1 < (V.length : Int)
      · exact q1 h1
      · have := q2 (by omega); omega
    obtain ⟨j, rfl⟩ : ∃ j : Nat, q = j := ⟨q.toNat, by omega⟩
    have hj : j < V.length := by omega
    have hO8 : OwnS w8 B2 (.slice (some ⟨gv, 0, none⟩) V.length c6) V := own_draw hO7 ho8 hgB
    have hb8 := hb7.trans (only_below ho8 hg hb7.size)
    have hBs8 : B2 ≤ w8.heap.size := Nat.le_trans hBs7 ho8.size
    obtain ⟨u1, d0⟩ := row_cell hO8 (j := j) (by omega)
    have f0 := hO8.frozenAt j
    have hp := (hO8.stored j (.string ⟨#[120]⟩)).1
    rw [← List.map_set] at hp
    clear hO7 ho8 hb7 hd7 q1 q2
    go_wp2_with (fail)
    have hd9 : Drw (w8.setCell ⟨gv, j, none⟩ (.string ⟨#[120]⟩)) w.heap.size g := hd8.of_block (by simp [World.setCell]) (fun i hi ho => Below.heap_setCell w8 ⟨gv, j, none⟩ _ i (by simp; rcases ho with h | h <;> omega))
    have hb9 := hb8.setCell (p := ⟨gv, j, none⟩) (by simp; omega) (.string ⟨#[120]⟩)
    have hs9 : (w8.setCell ⟨gv, j, none⟩ (.string ⟨#[120]⟩)).heap.size = w8.heap.size := by simp [World.setCell]
    have hP : OwnS (w8.setCell ⟨gv, j, none⟩ (.string ⟨#[120]⟩)) B2 (.slice (some ⟨gv, 0, none⟩) V.length c6) (V.set j ⟨#[120]⟩) := by unfold OwnS; rw [List.length_set]; exact hp
    have hBs9 : B2 ≤ (w8.setCell ⟨gv, j, none⟩ (.string ⟨#[120]⟩)).heap.size := by rw [hs9]; exact hBs8
    have hl9 : (V.set j ⟨#[120]⟩).length = V.length := List.length_set
    clear hp d0 f0 hb8 hd8 hs9 hO8 hBs8
    generalize w8.setCell ⟨gv, j, none⟩ (.string ⟨#[120]⟩) = W at hd9 hb9 hP hBs9 ⊢
    generalize V.set j ⟨#[120]⟩ = U at hP hl9
    generalize (some ⟨gv, 0, none⟩ : Option Addr) = A9 at hP ⊢
    clear h0' h0 hgv hgl hj hq q0 hBs7
  rotate_left
  focus
    have hbs : b = false ∨ (b = true ∧ V.length = 0) := by
      cases b
      · exact .inl rfl
      · simp at hc; exact .inr ⟨rfl, by rw [hc]; rfl⟩
    have hd9 := hd7
    have hb9 := hb7
    have hBs9 := hBs7
    have hP := hO7
    clear hO7 hb7 hd7 hBs7 hc
    rcases hbs with rfl | ⟨rfl, h0⟩
    focus
      go_wp2_with (fail)
      generalize w7 = W at hd9 hb9 hP hBs9 ⊢
      generalize A6 = A9 at hP ⊢
      obtain ⟨U, hU⟩ : ∃ U, U = V := ⟨_, rfl⟩
      have hl9 : U.length = V.length := by rw [hU]
      replace hP : OwnS W B2 (.slice A9 V.length c6) U := by rw [hU]; exact hP
      clear hU
    rotate_left
    focus
      have h0' : ¬ (0 : Int) < (V.length : Int) := by omega
      clear h0
      go_wp2_with (fail)
      generalize w7 = W at hd9 hb9 hP hBs9 ⊢
      generalize A6 = A9 at hP ⊢
      obtain ⟨U, hU⟩ : ∃ U, U = V := ⟨_, rfl⟩
      have hl9 : U.length = V.length := by rw [hU]
      replace hP : OwnS W B2 (.slice A9 V.length c6) U := by rw [hU]; exact hP
      clear hU h0'
  all_goals
    refine (one_any w.heap.size g 12 _ hd9 (by omega) (by omega)).mono ?_
    rintro e w10 ⟨b2, rfl, hd10, ho10⟩
    have hO10 : OwnS w10 B2 (.slice A9 V.length c6) U := own_draw hP ho10 hgB
    have hb10 := hb9.trans (only_below ho10 hg hb9.size)
    have hBs10 : B2 ≤ w10.heap.size := Nat.le_trans hBs9 ho10.size
    clear hP ho10 hd9 hb9 hBs9
    cases b2
    · go_wp2_with (fail)
      refine (n_any w.heap.size g 5 _ hd10 (by omega) (by omega)).mono ?_
      rintro e w11 ⟨z, rfl, z0, z1, _, hd11, ho11⟩
      have hO11 : OwnS w11 B2 (.slice A9 V.length c6) U := own_draw hO10 ho11 hgB
      have hb11 := hb10.trans (only_below ho11 hg hb10.size)
      go_wp2
      refine bodyPost_ret (v := .tuple #[.string k, .int .i64 x, .int .i64 z, .string t, .slice A9 V.length c6]) (by simp [results, Tryd.results16, go_sem]) rfl ?_
      refine ⟨k, x, z, t, A9, U, c6, by rw [hl9], hk, ht4, ?_, hb11⟩
      exact hO11.strs.2
    · have hr := hO10
      unfold OwnS at hr
      rw [hl9] at hr
      go_wp2_with (at_builtin; refine wpList_append_own _ rfl _ _ 28 rfl B2 9 i0 (.string ⟨#[]⟩) 1 16 Tryd.underlying28 hi hz0 hz1 hz2 rfl (by decide) _ _ _ rfl (World.ownsRow.alloc hr _) ⟨w10.heap.size, 0, none⟩ 1 1 [.string ⟨#[]⟩] rfl rfl (one_cell _ _ _) (one_str _) (by unfold maxLen; omega) (by omega) (by rw [World.size_alloc]; omega) ?_; intro v' w11 hO11 hg11 hne11)
      have hd11 := (hd10.alloc (.cells #[.string ⟨#[]⟩] 9)).grown hg11 (fun q e => by have := (hr.lt q e).1; omega)
      have hb11 := below_app1 hb10 (Nat.le_refl _) hr hwB hg11
      have hOs : OwnS w11 B2 v' (U ++ [⟨#[]⟩]) := by unfold OwnS; simpa [hl9] using hO11
      obtain ⟨A12, c12, rfl⟩ := ownS_some hOs
      clear hO11 hr
      refine (n_any w.heap.size g 5 _ hd11 (by omega) (by omega)).mono ?_
      rintro e w12 ⟨z, rfl, z0, z1, _, hd12, ho12⟩
      have hO12 := own_draw hOs ho12 hgB
      have hb12 := hb11.trans (only_below ho12 hg hb11.size)
      go_wp2
      refine bodyPost_ret (v := .tuple #[.string k, .int .i64 x, .int .i64 z, .string t, .slice A12 (U ++ [(⟨#[]⟩ : ByteArray)]).length c12]) (by simp [results, Tryd.results16, go_sem, hl9]) rfl ?_
      exact ⟨k, x, z, t, A12, U ++ [⟨#[]⟩], c12, rfl, hk, ht4, (OwnS.strs hO12).2, hb12⟩
end Go.Proofs.YtodnmbppgjbpmaaDoor

namespace Go.Proofs.YtodnmbppgjbpmaaDoor
open Go.RowKit
set_option linter.unusedVariables false
set_option maxRecDepth 1000000

set_option maxHeartbeats 4000000 in
theorem specVG_any (k : ByteArray) (f d : Int) (t : ByteArray) (A : Option Addr) (M : List ByteArray) (c : Nat) (w : World) (hk : k.size ≤ maxLen) (ht : t.size ≤ maxLen) (hM : Strs w w.heap.size A M) :
    Calls Tryd.prog 19 #[.string k, .int .i64 f, .int .i64 d, .string t, .slice A M.length c] w fun e w' => e = .returned (.bool (vgB k f d t M)) ∧ Below w.heap.size w w' := by
  have HI := Lib.hid (fun h => vgB_in (k := k) (f := f) (d := d) (t := t) (M := M) h)
  have HO := Lib.hid (fun h => vgB_out (k := k) (f := f) (d := d) (t := t) (M := M) h)
  have SP := Lib.hid (specVector_any k f t w hk ht)
  have hk' := hk
  have ht' := ht
  have hml := hM.1
  unfold maxLen at hk' ht' hml
  generalize vgB k f d t M = R at HI HO ⊢
  by_cases hl : 20000 < t.size
  · obtain rfl := HO.out (fun h => by omega)
    go_enter Tryd.func19, Tryd.ntmps19
    go_wp2
    go_ret
    exact ⟨rfl, Below.refl _ _⟩
  · have q3 : decide (20000 < (t.size : Int)) = false := by simp; omega
    by_cases h4 : M.length = 4
    · have q4 : ((M.length : Int) != 4) = false := by simp; omega
      rcases Bool.eq_false_or_eq_true (decide (Who f)) with ha | ha
      · rcases Bool.eq_false_or_eq_true (decide (Who d)) with hb | hb
        · have ha' := of_decide_eq_true ha
          have hb' := of_decide_eq_true hb
          by_cases hab : f = d
          · have q5 : (f == d) = true := by simp; exact hab
            obtain rfl := HO.out (fun h => h.1.2.2.2 hab)
            clear hab
            go_enter Tryd.func19, Tryd.ntmps19
            go_wp2_with (go_at_call 40; refine (who_any (by first | with_reducible exact ha | with_reducible exact hb) _).mono ?_; rintro e w1 ⟨rfl, rfl⟩)
            go_ret
            exact ⟨rfl, Below.refl _ _⟩
          · have q5 : (f == d) = false := by simp; exact hab
            by_cases hs : Sec k
            · have hv : Hid (vecO k f t = vecB k f.toNat t 4) := Lib.hid (vecO_in ⟨by omega, hs, ha'⟩)
              have hdn : d.toNat < 4 := by unfold Who at hb'; omega
              have HE := Lib.hid (HI.out ⟨⟨hs, ha', hb', hab⟩, by omega, h4⟩ (by omega))
              rw [hv.out, vecB_len] at SP
              have hG := Lib.hid (vecB_get (k := k) (f := f.toNat) (t := t) hdn)
              obtain ⟨V, HV⟩ : ∃ V, Hid (vecB k f.toNat t 4 = V) := ⟨_, Lib.hid rfl⟩
              have hVl : Hid (V.length = 4) := Lib.hid (by rw [← HV.out, vecB_len])
              have hG2 : Hid (∀ h : d.toNat < V.length, V[d.toNat] = codeB k f.toNat d.toNat t) := Lib.hid (by intro h; have := hG.out; simp only [HV.out] at this; exact this)
              rw [HV.out] at SP
              clear hG HI HO hv
              unfold Who at hb'
              obtain ⟨dn, rfl⟩ : ∃ n : Nat, d = n := ⟨d.toNat, by omega⟩
              have hd4 : (dn : Int) < 4 := by omega
              simp only [Int.toNat_natCast] at HE hG2 hdn
              obtain ⟨x, HX⟩ : ∃ x, Hid (codeB k f.toNat dn t = x) := ⟨_, Lib.hid rfl⟩
              rw [HX.out] at HE
              have hG3 : Hid (V[dn]'(by rw [hVl.out]; omega) = x) := Lib.hid (by rw [hG2.out (by rw [hVl.out]; omega), HX.out])
              clear hG2
              obtain ⟨y, HY⟩ : ∃ y, Hid (M[dn]'(by omega) = y) := ⟨_, Lib.hid rfl⟩
              rw [HY.out] at HE
              obtain ⟨b, rfl, hbb, m0⟩ := hM.2 dn (by omega)
              rw [HY.out] at m0
              have hR : R = (x.toList == y.toList) := HE.out
              subst hR
              go_enter Tryd.func19, Tryd.ntmps19
              go_wp2_with (first
                | (go_at_call 40; refine (who_any (by first | with_reducible exact ha | with_reducible exact hb) _).mono ?_; rintro e w1 ⟨rfl, rfl⟩)
                | (go_at_call 14; refine SP.out.mono ?_; rintro e w1 ⟨A1, c1, rfl, hO1, hb1⟩))
              have hO2 : OwnS w1 w.heap.size (.slice A1 V.length c1) V := by rw [hVl.out]; exact hO1
              obtain ⟨a, rfl, hab2, x0⟩ := hO2.strs.2.2 dn (by rw [hVl.out]; omega)
              rw [hG3.out] at x0
              have y0 : w1.cell? (b.add dn) = some (.string y) := by rw [hb1.cell (p := b.add dn) (by rw [add_blk]; exact hbb)]; exact m0
              have h4' : M.length = 4 := h4
              go_quiet (fail)
              go_wp2
              go_ret
              exact ⟨rfl, below_drewN hb1 _⟩
            · have hv : Hid (vecO k f t = []) := Lib.hid (vecO_out (fun h => hs h.2.1))
              obtain rfl := HO.out (fun h => hs h.1.1)
              rw [hv.out] at SP
              clear hs hab HI HO hv
              go_enter Tryd.func19, Tryd.ntmps19
              go_wp2_with (first
                | (go_at_call 40; refine (who_any (by first | with_reducible exact ha | with_reducible exact hb) _).mono ?_; rintro e w1 ⟨rfl, rfl⟩)
                | (go_at_call 14; refine SP.out.mono ?_; rintro e w1 ⟨A1, c1, rfl, hO1, hb1⟩))
              go_quiet (fail)
              go_wp2
              go_ret
              exact ⟨rfl, below_drewN hb1 _⟩
        · obtain rfl := HO.out (fun h => by have := decide_eq_true h.1.2.2.1; rw [hb] at this; cases this)
          go_enter Tryd.func19, Tryd.ntmps19
          go_wp2_with (go_at_call 40; refine (who_any (by first | with_reducible exact ha | with_reducible exact hb) _).mono ?_; rintro e w1 ⟨rfl, rfl⟩)
          go_ret
          exact ⟨rfl, Below.refl _ _⟩
      · obtain rfl := HO.out (fun h => by have := decide_eq_true h.1.2.1; rw [ha] at this; cases this)
        go_enter Tryd.func19, Tryd.ntmps19
        go_wp2_with (go_at_call 40; refine (who_any ha _).mono ?_; rintro e w1 ⟨rfl, rfl⟩)
        go_ret
        exact ⟨rfl, Below.refl _ _⟩
    · have q4 : ((M.length : Int) != 4) = true := by simp; omega
      obtain rfl := HO.out (fun h => h4 h.2.2)
      go_enter Tryd.func19, Tryd.ntmps19
      go_wp2
      go_ret
      exact ⟨rfl, Below.refl _ _⟩
end Go.Proofs.YtodnmbppgjbpmaaDoor
