/- The draws of the frames' law. -/
import Derived.Test.YtapnmnghdgkbpaaDoorDrawMac
import Derived.Test.YtapnmnghdgkbpaaDoorFrame
import Derived.Test.YtapnmnghdgkbpaaDoorFramesOf
import Derived.BigQuiet
import Derived.Deep.QuietTactic
import Derived.Outline
namespace Go.Proofs.YtapnmnghdgkbpaaDoor
open Go.RowKit
set_option linter.unusedVariables false
set_option maxRecDepth 1000000

/-- What a draw of a string answers. -/
def StrM (B g m : Nat) (w : World) (e : Ending) (w' : World) : Prop := ∃ s : ByteArray, e = .returned (.string s) ∧ s.size ≤ m ∧ Drw w' B g ∧ w.grownBy w' (some g)
theorem u8_str (b : Int) (w : World) : (convert 22 9 (.slice (some ⟨w.heap.size, 0, none⟩) 1 1)).run Tryd.prog (w.alloc (.cells #[.int .u8 b] 5)) = .ok (.string (strOfNums [b])) (w.alloc (.cells #[.int .u8 b] 5)) :=
  own_string (base := w.heap.size) (n := 1) (ns := [b]) (World.ownsRow_lit w #[.int .u8 b] 1 (Nat.le_refl _) (by decide) rfl)

set_option maxHeartbeats 4000000 in
theorem l04Texts_any (B g : Nat) (w : World) (h : Drw w B g) :
    Calls Tryd.prog 47 #[.pointer (some ⟨g, 0, none⟩)] w fun e w' => ∃ (L : List ByteArray) (v : Value), e = .returned v ∧ OwnS w' w.heap.size v L ∧ L.length ≤ 5 ∧ (∀ t ∈ L, t.size ≤ 1001) ∧ Drw w' B g ∧ w.grownBy w' (some g) := by
  obtain ⟨i0, hi, hz0, hz1, hz2⟩ := info_parts infoStr
  obtain ⟨j0, hj, hy0, hy1, hy2⟩ := info_parts infoU8
  have HD := Lib.hid h
  have hBw := h.lt.2.2
  have hgl := h.lt.2.1
  clear h
  have HO0 := Lib.hid (World.ownsRow_lit (base := w.heap.size) (e := 9) (size := 1) w #[] 0 (Nat.le_refl _) (by simp) (by simp))
  have hd0 := HD.out.below ((Below.refl _ _).alloc (Nat.le_refl _) (.cells #[] 9))
  go_enter Tryd.func47, Tryd.ntmps47
  go_wp2_with (fail)
  refine (n_any B g 5 _ hd0 (by omega) (by omega)).mono ?_
  rintro e w1 ⟨n, rfl, n0, n1, _, hd1, ho1⟩
  have n2 := n1 (by omega)
  clear n1
  have HO1 := Lib.hid (HO0.out.kept ho1 (.inr (by simp [Value.ownBlock]; omega)))
  have ho01 := only_trans (World.grownBy_alloc w (.cells #[] 9) (some g)) ho1
  go_wp2
  go_loopw [3, 4] (fun v i wr => ∃ (k : Nat) (L : List ByteArray), k ≤ n ∧ i = .int .i64 (n - k) ∧ L.length = k ∧ OwnS wr w.heap.size v L ∧ (∀ t ∈ L, t.size ≤ 1001) ∧ Drw wr B g ∧ w.grownBy wr (some g)) (fun _ i _ => (intOf i).toNat)
  case atStart => exact ⟨0, [], by omega, by simp, rfl, HO1.out, by simp, hd1, ho01⟩
  case round =>
    obtain ⟨k, L, hk, rfl, hl, hown, hsz, hd, ho⟩ := hrel
    have HL := Lib.hid hl
    have hl4 : L.length ≤ 4 := by omega
    clear hl
    have hne := Drw.type_ne hd hown (by decide)
    have hlt0 := ho.size
    by_cases hlt : 0 < n - k
    · have hdd : decide (0 < n - (k : Int)) = true := by simp; omega
      go_wp2_with (fail)
      refine (n_any B g 5 _ hd (by omega) (by omega)).mono ?_
      rintro e w2 ⟨y, rfl, y0, y1, _, hd2, ho2⟩
      have y2 := y1 (by omega)
      clear y1
      have hown2 := hown.kept ho2 (.inr hne)
      go_wp2_with (fail)
      refine (bytes_any B g y _ hd2 (by omega) (by omega)).mono ?_
      rintro e w3 ⟨s, rfl, hs, hd3, ho3⟩
      have hs' : s.size ≤ 1001 := by omega
      clear hs
      have hown3 := hown2.kept ho3 (.inr (Drw.type_ne hd2 hown2 (by decide)))
      have hz3 := ho3.size
      have hz2' := ho2.size
      go_wp2_with (at_builtin; refine wpList_append_own _ rfl _ _ 23 rfl w.heap.size 9 i0 (.string ⟨#[]⟩) 1 16 Tryd.underlying23 hi hz0 hz1 hz2 rfl (by decide) _ _ _ rfl (hown3.alloc _) ⟨w3.heap.size, 0, none⟩ 1 1 [.string s] rfl rfl (one_cell _ _ _) (one_str _) (by unfold maxLen; omega) (by omega) (by simp; omega) ?_; intro v' w' hown' hgrow' hne'; clear hne')
      have hne1 := Drw.type_ne hd3 hown3 (by decide)
      have hd4 : Drw w' B g := (hd3.below ((Below.refl _ _).alloc (Nat.le_refl _) (.cells #[.string s] 9))).grown hgrow' (fun q e => ⟨by have := (hown3.lt q e).1; omega, fun e' => hne1 (by rw [← e']; exact e)⟩)
      refine ⟨⟨k + 1, L ++ [s], by omega, by congr 1; omega, by simp [HL.out], ownS_snoc hown', fun t ht => ?_, hd4, only_app (only_trans ho (only_trans ho2 ho3)) hown3 hgrow'⟩, by simp [intOf]; omega⟩
      rcases List.mem_append.1 ht with ht | ht
      · exact hsz t ht
      · simp at ht; subst ht; exact hs'
    · have hdd : decide (0 < n - (k : Int)) = false := by simp; omega
      go_wp2_with (fail)
      refine (one_any B g 15 _ hd (by omega) (by omega)).mono ?_
      rintro e w2 ⟨b, rfl, hd2, ho2⟩
      have hown2 := hown.kept ho2 (.inr hne)
      have hz2' := ho2.size
      cases b
      · go_wp2
        go_ret
        exact ⟨L, _, rfl, hown2, by omega, hsz, hd2, only_trans ho ho2⟩
      · go_wp2_with (fail)
        refine (n_any B g 2 _ hd2 (by omega) (by omega)).mono ?_
        rintro e w3 ⟨y, rfl, y0, y1, _, hd3, ho3⟩
        have y2 := y1 (by omega)
        clear y1
        have hown3 := hown2.kept ho3 (.inr (Drw.type_ne hd2 hown2 (by decide)))
        have hz3 := ho3.size
        have HY := Lib.hid (show 1000 + y = ((1000 + y.toNat : Nat) : Int) by omega)
        go_wp2_with (first
          | (at_make; refine wpList_make_full _ rfl _ _ 22 rfl w3.heap.size 5 j0 (.int .u8 0) 1 Tryd.underlying22 hj hy0 hy1 _ _ _ _ (1000 + y.toNat) rfl rfl HY.out HY.out (by rw [hy2]; omega) (by unfold maxLen; omega) (Nat.le_refl _) ?_; intro w4 hown4 hgrow4; rw [made_zero] at hown4; have hcv := own_string hown4; have hb4 : Below w3.heap.size w3 w4 := (Below.refl _ _).grown hgrow4 (Nat.le_refl _) (fun k e => by cases e); obtain ⟨s, HS⟩ : ∃ s, Hid (strOfNums (List.replicate (1000 + y.toNat) 0) = s) := ⟨_, Lib.hid rfl⟩; rw [HS.out] at hcv; have hs' : s.size ≤ 1001 := (by rw [← HS.out, strOfNums_size]; simp; omega); have hownA := row_below hown3 hb4 (Nat.le_refl _); have hd4 := hd3.below hb4; have hz4 := hb4.size; clear hown4 hgrow4)
          | (at_builtin; refine wpList_append_own _ rfl _ _ 23 rfl w.heap.size 9 i0 (.string ⟨#[]⟩) 1 16 Tryd.underlying23 hi hz0 hz1 hz2 rfl (by decide) _ _ _ rfl (hownA.alloc _) ⟨w4.heap.size, 0, none⟩ 1 1 [.string s] rfl rfl (one_cell _ _ _) (one_str _) (by unfold maxLen; omega) (by omega) (by simp; omega) ?_; intro v' w' hown' hgrow' hne'; clear hne'))
        have hne1 := Drw.type_ne hd4 hownA (by decide)
        have hd5 : Drw w' B g := (hd4.below ((Below.refl _ _).alloc (Nat.le_refl _) (.cells #[.string s] 9))).grown hgrow' (fun q e => ⟨by have := (hownA.lt q e).1; omega, fun e' => hne1 (by rw [← e']; exact e)⟩)
        go_ret
        refine ⟨L ++ [s], _, rfl, ownS_snoc hown', by simp; omega, fun t ht => ?_, hd5, only_app (only_of_below (only_trans ho (only_trans ho2 ho3)) hb4) hownA hgrow'⟩
        rcases List.mem_append.1 ht with ht | ht
        · exact hsz t ht
        · simp at ht; subst ht; exact hs'

abbrev spoilC : ByteArray := ⟨#[32, 10, 48, 97, 45, 110, 44, 58, 93, 255, 40, 120, 126, 49, 128, 225, 59]⟩
theorem spoil_at (y : Int) (h0 : 0 ≤ y) (h1 : y < 17) : ∃ b : Int, ∀ w : World, (Instr.index 9 (.string spoilC) (.int .i64 y)).run Tryd.prog w = .ok (.int .u8 b) w := by
  have hz : y.toNat < spoilC.size := by show y.toNat < 17; omega
  refine ⟨(spoilC[y.toNat].toNat : Int), fun w => ?_⟩
  rw [run_index_string (P := Tryd.prog) w 9 spoilC .i64 y Tryd.underlying9, dif_pos ⟨h0, by show y < ((17 : Nat) : Int); omega⟩]
set_option maxHeartbeats 8000000 in
theorem spoil_any (B g : Nat) (t : ByteArray) (w : World) (h : Drw w B g) (ht : t.size ≤ 1048576) :
    Calls Tryd.prog 51 #[.pointer (some ⟨g, 0, none⟩), .string t] w (StrM B g (t.size + 1) w) := by
  go_enter Tryd.func51, Tryd.ntmps51
  go_wp2_with (fail)
  refine (n_any B g ((t.size : Int) + 1) _ h (by omega) (by omega)).mono ?_
  rintro e w1 ⟨k, rfl, k0, k1, k2, hd1, ho1⟩
  have k3 : k ≤ t.size := by by_cases h1 : 1 < (t.size : Int) + 1; (have := k1 h1; omega); (have := k2 (by omega); omega)
  clear k1 k2
  go_wp2_with (fail)
  refine (n_any B g 17 _ hd1 (by omega) (by omega)).mono ?_
  rintro e w2 ⟨y, rfl, y0, y1, _, hd2, ho2⟩
  have y2 := y1 (by omega)
  clear y1
  obtain ⟨b, hix⟩ := spoil_at y y0 y2
  have hcv := fun W => u8_str b W
  obtain ⟨c, HC⟩ : ∃ c, Hid (strOfNums [b] = c) := ⟨_, Lib.hid rfl⟩
  have hcs : c.size = 1 := by rw [← HC.out, strOfNums_size]; rfl
  rw [HC.out] at hcv
  obtain ⟨q, rfl⟩ : ∃ q : Nat, k = q := ⟨k.toNat, by omega⟩
  have k4 : q ≤ t.size := by omega
  have k5 : (q : Int) ≤ (t.size : Int) := by omega
  have ho12 := only_trans ho1 ho2
  have hdX := hd2.alloc (.cells #[.int .u8 b] 5)
  have hoX := only_trans ho12 (World.grownBy_alloc w2 (.cells #[.int .u8 b] 5) (some g))
  clear ho1 ho2 hd1 h HC
  by_cases hq : q = t.size
  · have HQ := Lib.hid hq
    have hq' : ((q : Int) == (t.size : Int)) = true := by simp [hq]
    clear hq
    go_wp2_with (fail)
    go_quiet (fail)
    go_wp2
    go_ret
    exact ⟨_, rfl, by simp; omega, hdX.drewN _, only_drewN hoX _⟩
  · have hq' : ((q : Int) == (t.size : Int)) = false := by simp; omega
    have k6 : (q : Int) < (t.size : Int) := by omega
    have hwr : IntKind.i64.wrap ((q : Int) + 1) = ((q + 1 : Nat) : Int) := by rw [IntWalk.i64_in _ (by omega)]; omega
    have k7 : ((q + 1 : Nat) : Int) ≤ (t.size : Int) := by omega
    have k8 : q + 1 ≤ t.size := by omega
    clear hq
    go_wp2_with (fail)
    refine (one_any B g 3 _ hdX (by omega) (by omega)).mono ?_
    rintro e w3 ⟨b3, rfl, hd3, ho3⟩
    cases b3
    · go_wp2_with (fail)
      refine (one_any B g 2 _ hd3 (by omega) (by omega)).mono ?_
      rintro e w4 ⟨b4, rfl, hd4, ho4⟩
      cases b4
      · go_wp2_with (fail)
        go_quiet (fail)
        go_wp2
        go_ret
        exact ⟨_, rfl, by simp; omega, hd4.drewN _, only_drewN (only_trans (only_trans hoX ho3) ho4) _⟩
      · go_wp2_with (fail)
        go_quiet (fail)
        go_wp2
        go_ret
        exact ⟨_, rfl, by simp; omega, hd4.drewN _, only_drewN (only_trans (only_trans hoX ho3) ho4) _⟩
    · go_wp2_with (fail)
      go_quiet (fail)
      go_wp2
      go_ret
      exact ⟨_, rfl, by simp; omega, hd3.drewN _, only_drewN (only_trans hoX ho3) _⟩

set_option maxHeartbeats 2000000 in
theorem drawFrameOf_any (A : Option Addr) (n c : Nat) (w : World) (h : Bts w w.heap.size A n) :
    Calls Tryd.prog 19 #[.slice A n c] w fun e w' => ∃ s : ByteArray, e = .returned (.string s) ∧ s.size ≤ 1001 ∧ Below w.heap.size w w' := by
  obtain ⟨i0, hi, hz0, hz1, hz2⟩ := info_parts infoU8
  go_enter Tryd.func19, Tryd.ntmps19
  go_wp2_with (fail)
  refine (source_any A n c w.heap.size _ h (Nat.le_refl _)).mono ?_
  rintro e w1 ⟨g, rfl, hg, hd1, hb1⟩
  go_wp2_with (fail)
  refine (one_any w.heap.size g 8 _ hd1 (by omega) (by omega)).mono ?_
  rintro e w2 ⟨b, rfl, hd2, ho2⟩
  have hb2 := hb1.trans (only_below ho2 hg hb1.size)
  cases b
  · go_wp2_with (fail)
    refine (n_any w.heap.size g 9 _ hd2 (by omega) (by omega)).mono ?_
    rintro e w3 ⟨y, rfl, y0, y1, _, hd3, ho3⟩
    have y2 := y1 (by omega)
    clear y1
    go_wp2_with (fail)
    refine (bytes_any w.heap.size g y _ hd3 (by omega) (by omega)).mono ?_
    rintro e w4 ⟨s, rfl, hs, hd4, ho4⟩
    go_wp2
    go_ret
    exact ⟨_, rfl, by omega, hb2.trans (only_below (only_trans ho3 ho4) hg hb2.size)⟩
  · go_wp2_with (fail)
    refine (n_any w.heap.size g 2 _ hd2 (by omega) (by omega)).mono ?_
    rintro e w5 ⟨y, rfl, y0, y1, _, hd5, ho5⟩
    have y2 := y1 (by omega)
    clear y1
    have HY := Lib.hid (show 1000 + y = ((1000 + y.toNat : Nat) : Int) by omega)
    have hb5 := hb2.trans (only_below ho5 hg hb2.size)
    have hsz5 := hb5.size
    go_wp2_with (at_make; refine wpList_make_full _ rfl _ _ 22 rfl w5.heap.size 5 i0 (.int .u8 0) 1 Tryd.underlying22 hi hz0 hz1 _ _ _ _ (1000 + y.toNat) rfl rfl HY.out HY.out (by rw [hz2]; omega) (by unfold maxLen; omega) (Nat.le_refl _) ?_; intro w6 hown6 hgrow6; rw [made_zero] at hown6; have hcv := own_string hown6; have hb6 : Below w5.heap.size w5 w6 := (Below.refl _ _).grown hgrow6 (Nat.le_refl _) (fun k e => by cases e))
    go_ret
    exact ⟨_, rfl, by rw [strOfNums_size]; simp; omega, hb5.trans (hb6.mono hsz5)⟩

set_option maxHeartbeats 2000000 in
theorem drawFramesOf_any (A : Option Addr) (n c : Nat) (w : World) (h : Bts w w.heap.size A n) :
    Calls Tryd.prog 11 #[.slice A n c] w fun e w' => ∃ (L : List ByteArray) (C : Option Addr) (x : Nat), e = .returned (.slice C L.length x) ∧ OwnS w' w.heap.size (.slice C L.length x) L ∧ L.length ≤ 5 ∧ (∀ t ∈ L, t.size ≤ 1001) ∧ Below w.heap.size w w' := by
  go_enter Tryd.func11, Tryd.ntmps11
  go_wp2_with (fail)
  refine (source_any A n c w.heap.size _ h (Nat.le_refl _)).mono ?_
  rintro e w1 ⟨g, rfl, hg, hd1, hb1⟩
  go_wp2_with (fail)
  refine (l04Texts_any w.heap.size g _ hd1).mono ?_
  rintro e w2 ⟨L, v, rfl, hO, hl, hs, hd2, ho2⟩
  obtain ⟨C, x, rfl⟩ := ownS_some hO
  go_wp2
  go_ret
  exact ⟨L, C, x, rfl, ownS_base hO hb1.size, hl, hs, hb1.trans (only_below ho2 hg hb1.size)⟩

theorem frL_size : ∀ (L : List ByteArray) (acc : ByteArray), (frL L acc).size ≤ acc.size + L.length * 1006 := by
  intro L
  induction L with
  | nil => intro acc; rw [frL]; omega
  | cons t r ih =>
    intro acc
    rw [frL]
    have e0 : (⟨#[]⟩ : ByteArray).size = 0 := rfl
    split
    · rw [e0]; omega
    · rename_i h1
      split
      · rw [e0]; omega
      · have h2 := ih (acc ++ frameS t)
        have h3 := (frameS_size t (by omega)).2
        rw [ByteArray.size_append] at h2
        simp only [List.length_cons]
        omega
theorem framesOf_size {L : List ByteArray} (h : L.length ≤ 5) : (framesOf L).size ≤ 5030 := by
  unfold framesOf
  rw [if_neg (by omega)]
  have := frL_size L ⟨#[]⟩
  have e0 : (⟨#[]⟩ : ByteArray).size = 0 := rfl
  omega

set_option maxHeartbeats 4000000 in
theorem drawFramesRead_any (A : Option Addr) (n c : Nat) (w : World) (h : Bts w w.heap.size A n) :
    Calls Tryd.prog 17 #[.slice A n c] w fun e w' => ∃ s : ByteArray, e = .returned (.string s) ∧ s.size ≤ 20000 ∧ Below w.heap.size w w' := by
  go_enter Tryd.func17, Tryd.ntmps17
  go_wp2_with (fail)
  refine (source_any A n c w.heap.size _ h (Nat.le_refl _)).mono ?_
  rintro e w1 ⟨g, rfl, hg, hd1, hb1⟩
  go_wp2_with (fail)
  refine (l04Texts_any w.heap.size g _ hd1).mono ?_
  rintro e w2 ⟨L, v, rfl, hO, hl, hs, hd2, ho2⟩
  obtain ⟨C, x, rfl⟩ := ownS_some hO
  have hfz := framesOf_size hl
  go_wp2_with (fail)
  refine (specFramesOf_any C L x _ hO.strs.2 (fun i hi => by have := hs _ (List.getElem_mem hi); omega)).mono ?_
  rintro e w3 ⟨rfl, hb3⟩
  obtain ⟨t, HT⟩ : ∃ t, Hid (framesOf L = t) := ⟨_, Lib.hid rfl⟩
  rw [HT.out] at hfz ⊢
  have hd3 := hd2.below hb3
  have ho3 := only_of_below ho2 hb3
  clear ho2 hd2 hO
  go_wp2_with (fail)
  refine (n_any w.heap.size g 4 _ hd3 (by omega) (by omega)).mono ?_
  rintro e w4 ⟨y, rfl, y0, y1, _, hd4, ho4⟩
  have y2 := y1 (by omega)
  clear y1
  have ho := only_trans ho3 ho4
  by_cases e0 : y = 0
  · subst e0
    go_wp2_with (fail)
    refine (spoil_any w.heap.size g t _ hd4 (by omega)).mono ?_
    rintro e w5 ⟨U, rfl, hU, hd5, ho5⟩
    go_wp2
    go_ret
    exact ⟨_, rfl, by omega, hb1.trans (only_below (only_trans ho ho5) hg hb1.size)⟩
  · have d0 : (y == 0) = false := by simpa using e0
    by_cases e1 : y = 1
    · subst e1
      go_wp2_with (fail)
      refine (n_any w.heap.size g ((t.size : Int) + 1) _ hd4 (by omega) (by omega)).mono ?_
      rintro e w5 ⟨k, rfl, k0, k1, k2, hd5, ho5⟩
      have k3 : k ≤ t.size := by by_cases h1 : 1 < (t.size : Int) + 1; (have := k1 h1; omega); (have := k2 (by omega); omega)
      clear k1 k2
      go_wp2
      go_ret
      exact ⟨_, rfl, by simp; omega, hb1.trans (only_below (only_trans ho ho5) hg hb1.size)⟩
    · have d1 : (y == 1) = false := by simpa using e1
      go_wp2
      go_ret
      exact ⟨_, rfl, by omega, hb1.trans (only_below ho hg hb1.size)⟩

set_option maxHeartbeats 4000000 in
theorem drawFrameAt_any (A : Option Addr) (n c : Nat) (w : World) (h : Bts w w.heap.size A n) :
    Calls Tryd.prog 18 #[.slice A n c] w fun e w' => ∃ (s : ByteArray) (v : Int), e = .returned (.tuple #[.string s, .int .i64 v]) ∧ s.size ≤ 100 ∧ -9223372036854775808 ≤ v ∧ v ≤ 9223372036854775807 ∧ Below w.heap.size w w' := by
  go_enter Tryd.func18, Tryd.ntmps18
  go_wp2_with (fail)
  refine (source_any A n c w.heap.size _ h (Nat.le_refl _)).mono ?_
  rintro e w1 ⟨g, rfl, hg, hd1, hb1⟩
  go_wp2_with (fail)
  refine (n_any w.heap.size g 2 _ hd1 (by omega) (by omega)).mono ?_
  rintro e w2 ⟨y, rfl, y0, y1, _, hd2, ho2⟩
  have y2 := y1 (by omega)
  clear y1
  go_wp2_with (fail)
  refine (bytes_any w.heap.size g y _ hd2 (by omega) (by omega)).mono ?_
  rintro e w3 ⟨hh, rfl, hs3, hd3, ho3⟩
  have hs3' : hh.size ≤ 2 := by omega
  clear hs3
  have ho := only_trans ho2 ho3
  clear ho2 ho3 hd1 hd2 y0 y2
  go_wp2_with (fail)
  refine (n_any w.heap.size g 5 _ hd3 (by omega) (by omega)).mono ?_
  rintro e w4 ⟨y, rfl, y0, y1, _, hd4, ho4⟩
  have y2 := y1 (by omega)
  clear y1
  go_wp2_with (fail)
  refine (bytes_any w.heap.size g y _ hd4 (by omega) (by omega)).mono ?_
  rintro e w5 ⟨t5, rfl, hs5, hd5, ho5⟩
  have hs5' : t5.size ≤ 5 := by omega
  have hfz := (frameS_size t5 (by omega)).2
  clear hs5
  have ho' := only_trans ho (only_trans ho4 ho5)
  clear ho ho4 ho5 hd3 hd4 y0 y2
  go_wp2_with (fail)
  refine (specFrameOf_any t5 _ (by omega)).mono ?_
  rintro e w6 ⟨rfl, hb6⟩
  have hd6 := hd5.below hb6
  have ho6 := only_of_below ho' hb6
  obtain ⟨f, HF⟩ : ∃ f, Hid (frameS t5 = f) := ⟨_, Lib.hid rfl⟩
  rw [HF.out] at hfz ⊢
  clear hd5 ho'
  go_wp2_with (fail)
  refine (n_any w.heap.size g 2 _ hd6 (by omega) (by omega)).mono ?_
  rintro e w7 ⟨y, rfl, y0, y1, _, hd7, ho7⟩
  have y2 := y1 (by omega)
  clear y1
  go_wp2_with (fail)
  refine (bytes_any w.heap.size g y _ hd7 (by omega) (by omega)).mono ?_
  rintro e w8 ⟨t8, rfl, hs8, hd8, ho8⟩
  have hs8' : t8.size ≤ 2 := by omega
  clear hs8
  have hoA := only_trans ho6 (only_trans ho7 ho8)
  clear ho6 ho7 ho8 hd6 hd7 y0 y2
  obtain ⟨T, HT⟩ : ∃ T, Hid (hh ++ f ++ t8 = T) := ⟨_, Lib.hid rfl⟩
  have hTs : T.size ≤ 50 := by rw [← HT.out]; simp; omega
  have FIN : Hid (∀ (U : ByteArray) (wq : World), U.size ≤ 51 → Drw wq w.heap.size g → w1.grownBy wq (some g) → True) := Lib.hid fun _ _ _ _ _ => trivial
  go_wp2_with (fail)
  rw [HT.out]
  refine (one_any w.heap.size g 3 _ hd8 (by omega) (by omega)).mono ?_
  rintro e w9 ⟨b9, rfl, hd9, ho9⟩
  have hoB := only_trans hoA ho9
  clear hoA ho9 hd8
  have TAIL : Hid (∀ (U : ByteArray) (wq w' : World) (v : Int), w1.grownBy wq (some g) → wq.grownBy w' (some g) → Below w.heap.size w w') := Lib.hid fun U wq w' v h1 h2 => hb1.trans (only_below (only_trans h1 h2) hg hb1.size)
  cases b9
  · go_wp2_with (fail)
    refine (one_any w.heap.size g 12 _ hd9 (by omega) (by omega)).mono ?_
    rintro e w10 ⟨b10, rfl, hd10, ho10⟩
    cases b10
    · go_wp2
      go_ret2
      exact ⟨_, _, rfl, by omega, by omega, by omega, TAIL.out T w9 _ 0 hoB ho10⟩
    · go_wp2_with (fail)
      refine (edge_any w.heap.size g _ hd10).mono ?_
      rintro e w11 ⟨v, rfl, v0, v1, hd11, ho11⟩
      go_wp2
      go_ret2
      exact ⟨_, _, rfl, by omega, v0, v1, TAIL.out T w9 _ 0 hoB (only_trans ho10 ho11)⟩
  · go_wp2_with (fail)
    refine (spoil_any w.heap.size g T _ hd9 (by omega)).mono ?_
    rintro e wa ⟨U, rfl, hU, hda, hoa⟩
    have hoC := only_trans hoB hoa
    go_wp2_with (fail)
    refine (one_any w.heap.size g 12 _ hda (by omega) (by omega)).mono ?_
    rintro e w10 ⟨b10, rfl, hd10, ho10⟩
    cases b10
    · go_wp2
      go_ret2
      exact ⟨_, _, rfl, by omega, by omega, by omega, TAIL.out U wa _ 0 hoC ho10⟩
    · go_wp2_with (fail)
      refine (edge_any w.heap.size g _ hd10).mono ?_
      rintro e w11 ⟨v, rfl, v0, v1, hd11, ho11⟩
      go_wp2
      go_ret2
      exact ⟨_, _, rfl, by omega, v0, v1, TAIL.out U wa _ 0 hoC (only_trans ho10 ho11)⟩
end Go.Proofs.YtapnmnghdgkbpaaDoor
