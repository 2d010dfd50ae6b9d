/- impl's parts of the segmented log: mustHold, readSegment, numbersRight. The contract of impl.FsRight. -/
import Derived.Test.YtebkblmejkkhfaaDoorSegMathW
import Derived.Test.YtebkblmejkkhfaaDoorFrSpecW
import Derived.Test.YtebkblmejkkhfaaDoorSAppW
import Derived.Defers
import Derived.Recover
import Derived.Laws.AppendOwnNone
import Derived.WalkSmall
import Derived.Test.YtebkblmejkkhfaaDoorKeptW
namespace Go.Proofs.YtebkblmejkkhfaaDoor
open Go.RowKit
set_option linter.unusedVariables false
set_option linter.unusedSimpArgs false
set_option maxRecDepth 1000000

/-- The error of an invalid segment, as the program's text lays it. -/
def Seg (w : World) : Prop := ∃ a : Addr, w.cell? ⟨0, 0, none⟩ = some (.iface 149 (.pointer (some a)))
theorem Seg.below {w w' : World} (h : Seg w) (hb : Below w.heap.size w w') : Seg w' := by
  obtain ⟨a, ha⟩ := h
  exact ⟨a, by rw [hb.cell (p := ⟨0, 0, none⟩) (World.block_lt_of_cell? w _ ha)]; exact ha⟩
/-- What an invalid segment ends a call with. -/
def Bad (e : Ending) : Prop := ∃ a : Addr, e = .panicked [{ v := .iface 149 (.pointer (some a)), recovered := false }]

theorem must_yes (w : World) : Calls Tryd.prog 39 #[.bool true] w fun e w' => e = .returned (.tuple #[]) ∧ w = w' := by
  go_enter Tryd.func39, Tryd.ntmps39
  go_wp2
  go_end0
  exact ⟨rfl, rfl⟩
theorem must_no (a : Addr) (w : World) (h : w.cell? ⟨0, 0, none⟩ = some (.iface 149 (.pointer (some a)))) : Calls Tryd.prog 39 #[.bool false] w fun e w' => e = .panicked [{ v := .iface 149 (.pointer (some a)), recovered := false }] ∧ w = w' := by
  go_enter Tryd.func39, Tryd.ntmps39
  go_wp2
  exact ⟨rfl, rfl, rfl⟩
/-- What readSegment returns. -/
abbrev sgmV (v : Value) (E : Nat) (s : ByteArray) : Value := .agg #[v, .int .i64 (E : Int), .bool ((E : Int) == (s.size : Int))]
set_option maxHeartbeats 2000000 in
theorem readSegment_ok (s : ByteArray) (n : Int) (w : World) (hs : s.size ≤ 20000) (h0 : 0 ≤ n) (h9 : n ≤ 900000) (h4 : n % 4 = 0) (hl : (frs s 0).length ≤ 4) (hH : Handle w) :
    Calls Tryd.prog 40 #[.string s, .int .i64 n] w fun e w' => ∃ v, e = .returned (sgmV v (endOf (frs s 0)) s) ∧ OwnS w' w.heap.size v ((frs s 0).map Prod.fst) ∧ Below w.heap.size w w' := by
  have hb0 : Below w.heap.size w (w.alloc (.cells #[.slice none 0 0, .int .i64 0, .bool false] 64)) := (Below.refl _ w).alloc (Nat.le_refl _) _
  have k0 := Blk.fresh w 64 [.slice none 0 0, .int .i64 0, .bool false]
  have HI := Lib.hid (implFramesRead_any s _ hs (Handle.below hH hb0))
  have d4 : (n % 4 == 0) = true := by simp [h4]
  have H4 := Lib.hid h4
  clear h4
  generalize hE : endOf (frs s 0) = E at HI ⊢
  obtain ⟨P, HP⟩ : ∃ P, Hid ((frs s 0).map Prod.fst = P) := ⟨_, Lib.hid rfl⟩
  have hl' : P.length ≤ 4 := by rw [← HP.out]; simpa using hl
  rw [HP.out] at HI ⊢
  have dl : decide ((P.length : Int) ≤ 4) = true := by simp; omega
  clear hl hE HP
  go_enter Tryd.func40, Tryd.ntmps40
  go_wp2_with (go_at_call 39; refine (must_yes _).mono ?_; rintro e w' ⟨rfl, rfl⟩)
  refine HI.out.mono ?_
  rintro e w1 ⟨v, rfl, hO, hb1⟩
  obtain ⟨A1, c1, rfl⟩ := ownS_some hO
  have hw1 := hb0.trans (hb1.mono hb0.size)
  have k1 := k0.below hb1 k0.lt
  have hz := hb1.size
  simp only [World.size_alloc] at hz
  have k2 := k1.alloc (.cells #[.slice A1 P.length c1, .int .i64 (E : Int), .int .i64 0] 85)
  have hw2 := hw1.alloc hw1.size (.cells #[.slice A1 P.length c1, .int .i64 (E : Int), .int .i64 0] 85)
  have hO2 : OwnS (w1.alloc (.cells #[.slice A1 P.length c1, .int .i64 (E : Int), .int .i64 0] 85)) _ _ _ := World.ownsRow.alloc hO (.cells #[.slice A1 P.length c1, .int .i64 (E : Int), .int .i64 0] 85)
  have k3 := Blk.fresh w1 85 [.slice A1 P.length c1, .int .i64 (E : Int), .int .i64 0]
  have x0 := k3.cell (i := 0) rfl
  have x1 := k3.cell (i := 1) rfl
  have y0 := k2.cell (i := 0) rfl
  have y1 := k2.cell (i := 1) rfl
  have y2 := k2.cell (i := 2) rfl
  have f0 := k2.froz 0
  have f1 := k2.froz 1
  have f2 := k2.froz 2
  clear hb0 k0 HI hb1 hO
  go_wp2_with (go_at_call 39; refine (must_yes _).mono ?_; rintro e w' ⟨rfl, rfl⟩)
  have r1 := ((k2.put 0 (.slice A1 P.length c1)).put 1 (.int .i64 (E : Int))).put 2 (.bool ((E : Int) == (s.size : Int)))
  have r2 := row_far (row_far (row_far hO2 (p := ⟨w.heap.size, 0, none⟩) (by simp) (.slice A1 P.length c1)) (p := ⟨w.heap.size, 1, none⟩) (by simp) (.int .i64 (E : Int))) (p := ⟨w.heap.size, 2, none⟩) (by simp) (.bool ((E : Int) == (s.size : Int)))
  have r3 := ((hw2.setCell (p := ⟨w.heap.size, 0, none⟩) (by simp) (.slice A1 P.length c1)).setCell (p := ⟨w.heap.size, 1, none⟩) (by simp) (.int .i64 (E : Int))).setCell (p := ⟨w.heap.size, 2, none⟩) (by simp) (.bool ((E : Int) == (s.size : Int)))
  generalize (((w1.alloc (.cells #[.slice A1 P.length c1, .int .i64 (E : Int), .int .i64 0] 85)).setCell ⟨w.heap.size, 0, none⟩ (.slice A1 P.length c1)).setCell ⟨w.heap.size, 1, none⟩ (.int .i64 (E : Int))).setCell ⟨w.heap.size, 2, none⟩ (.bool ((E : Int) == (s.size : Int))) = w9 at r1 r2 r3 ⊢
  have z0 := r1.cell (i := 0) rfl
  have z1 := r1.cell (i := 1) rfl
  have z2 := r1.cell (i := 2) rfl
  exact bodyPost_ret (v := sgmV (.slice A1 P.length c1) E s) (by simp [results, Tryd.results40, go_sem, z0, z1, z2]) rfl ⟨_, rfl, ownS_base r2 (by simp), r3⟩
set_option maxHeartbeats 2000000 in
theorem readSegment_bad (s : ByteArray) (n : Int) (w : World) (hs : s.size ≤ 20000) (h0 : 0 ≤ n) (h9 : n ≤ 900000) (h4 : n % 4 = 0) (hl : ¬ (frs s 0).length ≤ 4) (hH : Handle w) (hS : Seg w) :
    Calls Tryd.prog 40 #[.string s, .int .i64 n] w fun e w' => (∃ a : Addr, e = .panicked [{ v := .iface 149 (.pointer (some a)), recovered := false }]) ∧ Below w.heap.size w w' := by
  have hb0 : Below w.heap.size w (w.alloc (.cells #[.slice none 0 0, .int .i64 0, .bool false] 64)) := (Below.refl _ w).alloc (Nat.le_refl _) _
  have HI := Lib.hid (implFramesRead_any s _ hs (Handle.below hH hb0))
  have d4 : (n % 4 == 0) = true := by simp [h4]
  have H4 := Lib.hid h4
  clear h4
  generalize hE : endOf (frs s 0) = E at HI ⊢
  obtain ⟨P, HP⟩ : ∃ P, Hid ((frs s 0).map Prod.fst = P) := ⟨_, Lib.hid rfl⟩
  have hl' : 4 < P.length := by rw [← HP.out]; simpa using hl
  rw [HP.out] at HI
  have dl : decide ((P.length : Int) ≤ 4) = false := by simp; omega
  clear hl hE HP
  go_enter Tryd.func40, Tryd.ntmps40
  go_wp2_with (go_at_call 39; refine (must_yes _).mono ?_; rintro e w' ⟨rfl, rfl⟩)
  refine HI.out.mono ?_
  rintro e w1 ⟨v, rfl, hO, hb1⟩
  obtain ⟨A1, c1, rfl⟩ := ownS_some hO
  have hw1 := hb0.trans (hb1.mono hb0.size)
  have hw2 := hw1.alloc hw1.size (.cells #[.slice A1 P.length c1, .int .i64 (E : Int), .int .i64 0] 85)
  have k3 := Blk.fresh w1 85 [.slice A1 P.length c1, .int .i64 (E : Int), .int .i64 0]
  have x0 := k3.cell (i := 0) rfl
  obtain ⟨a, ha⟩ := hS.below hw2
  clear hb0 HI hb1 hO
  go_wp2_with (go_at_call 39; refine (must_no a _ ha).mono ?_; rintro e w' ⟨rfl, rfl⟩)
  have hB : Bad (.panicked [{ v := .iface 149 (.pointer (some a)), recovered := false }]) := ⟨a, rfl⟩
  exact ⟨rfl, ⟨a, rfl⟩, hw2⟩
/-- The numbers of a log. -/
theorem numbers_any (v : Value) (f m : Int) (w : World) (hf : (Lit.int .i64 f).wf = true) (hm : (Lit.int .i64 m).wf = true) :
    Calls Tryd.prog 38 #[segV v f m] w fun e w' => e = .returned (.bool (numOK f m)) ∧ Below w.heap.size w w' := by
  have a := wf_i64 hf
  have b := wf_i64 hm
  clear hf hm
  have hb0 : Below w.heap.size w (w.alloc (.cells #[v, .int .i64 f, .int .i64 m] 35)) := (Below.refl _ w).alloc (Nat.le_refl _) _
  cases hN : numOK f m with
  | true =>
    have h := numOK_iff.1 hN
    obtain ⟨h1, h2, h3, h4, h5, h6⟩ := h
    have d3 : (f % 4 == 0) = true := by simp [h3]
    have H3 := Lib.hid h3
    clear h3 hN
    go_enter Tryd.func38, Tryd.ntmps38
    go_wp2
    go_ret
    exact ⟨retB (by simp [h1, h2, h4, h5, h6]), hb0⟩
  | false =>
    have hn : ¬ (0 ≤ f ∧ f ≤ 900000 ∧ f % 4 = 0 ∧ 0 ≤ m ∧ m ≤ 60 ∧ f + m ≤ 900000) := fun h => by rw [numOK_iff.2 h] at hN; cases hN
    clear hN
    by_cases h1 : 0 ≤ f
    · by_cases h2 : f ≤ 900000
      · by_cases h3 : f % 4 = 0
        · have d3 : (f % 4 == 0) = true := by simp [h3]
          have H3 := Lib.hid h3
          by_cases h4 : 0 ≤ m
          · by_cases h5 : m ≤ 60
            · have h6 : ¬ f + m ≤ 900000 := fun h => hn ⟨h1, h2, h3, h4, h5, h⟩
              clear hn h3
              go_enter Tryd.func38, Tryd.ntmps38
              go_wp2
              go_ret
              exact ⟨retB (by simp [h1, h2, h4, h5, h6]), hb0⟩
            · clear hn h3
              go_enter Tryd.func38, Tryd.ntmps38
              go_wp2
              go_ret
              exact ⟨retB (by simp [h1, h2, h4, h5]), hb0⟩
          · clear hn h3
            go_enter Tryd.func38, Tryd.ntmps38
            go_wp2
            go_ret
            exact ⟨retB (by simp [h1, h2, h4]), hb0⟩
        · have d3 : (f % 4 == 0) = false := by simpa using h3
          clear hn h3
          go_enter Tryd.func38, Tryd.ntmps38
          go_wp2
          go_ret
          exact ⟨retB (by simp [h1, h2]), hb0⟩
      · clear hn
        go_enter Tryd.func38, Tryd.ntmps38
        go_wp2
        go_ret
        exact ⟨retB (by simp [h1, h2]), hb0⟩
    · clear hn
      go_enter Tryd.func38, Tryd.ntmps38
      go_wp2
      go_ret
      exact ⟨retB (by simp [h1]), hb0⟩
end Go.Proofs.YtebkblmejkkhfaaDoor

namespace Go.Proofs.YtebkblmejkkhfaaDoor
open Go.RowKit
set_option linter.unusedVariables false

set_option maxHeartbeats 1000000 in
theorem fileRight_any (f : Fil) (w : World) (hf : f.fits) : Calls Tryd.prog 52 #[f.val] w fun e w' => e = .returned (.bool (okF f)) ∧ Below w.heap.size w w' := by
  obtain ⟨s0, s1, k⟩ := f
  obtain ⟨q0, q1, q2, q3⟩ := hf
  simp only at q0 q1 q2 q3
  have q1' := q1
  unfold maxLen at q1
  unfold Fil.val
  simp only
  rcases Bool.eq_false_or_eq_true (nameB s0) with hN | hN
  · have NR : ∀ W, Calls Tryd.prog 62 #[.string s0] W fun e w' => e = .returned (.bool true) ∧ W = w' := fun W => by have := implNameRight_any s0 W q0; rw [hN] at this; exact this
    by_cases h1 : s1.size ≤ 3000
    · by_cases h2 : 0 ≤ k
      · by_cases h3 : k ≤ s1.size
        all_goals
          go_enter Tryd.func52, Tryd.ntmps52
          go_wp2_with (go_at_call 62; refine (NR _).mono ?_; rintro e w' ⟨rfl, rfl⟩)
          go_ret
          exact ⟨retB (by simp [okF, hN]; omega), (Below.refl _ _).alloc (Nat.le_refl _) _⟩
      · go_enter Tryd.func52, Tryd.ntmps52
        go_wp2_with (go_at_call 62; refine (NR _).mono ?_; rintro e w' ⟨rfl, rfl⟩)
        go_ret
        exact ⟨by simp [okF, hN]; omega, (Below.refl _ _).alloc (Nat.le_refl _) _⟩
    · go_enter Tryd.func52, Tryd.ntmps52
      go_wp2_with (go_at_call 62; refine (NR _).mono ?_; rintro e w' ⟨rfl, rfl⟩)
      go_ret
      exact ⟨by simp [okF, hN]; omega, (Below.refl _ _).alloc (Nat.le_refl _) _⟩
  · have NR : ∀ W, Calls Tryd.prog 62 #[.string s0] W fun e w' => e = .returned (.bool false) ∧ W = w' := fun W => by have := implNameRight_any s0 W q0; rw [hN] at this; exact this
    go_enter Tryd.func52, Tryd.ntmps52
    go_wp2_with (go_at_call 62; refine (NR _).mono ?_; rintro e w' ⟨rfl, rfl⟩)
    go_ret
    exact ⟨by simp [okF, hN], (Below.refl _ _).alloc (Nat.le_refl _) _⟩

set_option maxHeartbeats 4000000 in
set_option maxRecDepth 1000000 in
theorem implRight_any (A : Option Addr) (L : List Fil) (c : Nat) (w : World) (hL : Fls w w.heap.size A L) :
    Calls Tryd.prog 37 #[.agg #[.slice A L.length c]] w fun e w' => e = .returned (.bool (fsOK L)) ∧ Below w.heap.size w w' := by
  have hn := hL.1
  unfold maxLen at hn
  have hB0 := Blk.fresh w 33 [.slice A L.length c]
  by_cases h12 : L.length ≤ 12
  · go_enter Tryd.func37, Tryd.ntmps37
    go_wp2
    go_loopw [3, 4, 12] (fun _ _ i wr => ∃ k : Nat, k ≤ L.length ∧ i = .int .i64 k ∧ (∀ j (h : j < L.length), j < k → okIn L j h) ∧ Blk wr w.heap.size 33 [.slice A L.length c] ∧ Below w.heap.size w wr) (fun _ _ i _ => L.length - (intOf i).toNat)
    case atStart => exact ⟨0, by omega, rfl, fun j _ h => by omega, hB0, (Below.refl _ _).alloc (Nat.le_refl _) _⟩
    case round =>
      obtain ⟨k, hk, rfl, hok, hB, hb⟩ := hrel
      have b0 := hB.cell (i := 0) rfl
      by_cases hlt : k < L.length
      · obtain ⟨a, rfl, hab, c0, c1, c2, hff⟩ := (hL.below hb (Nat.le_refl _)).at k hlt
        have hW := Blk.fresh wr 56 [.string L[k].name, .string L[k].data, .int .i64 L[k].sync]
        have hB3 := hB.alloc (.cells #[.string L[k].name, .string L[k].data, .int .i64 L[k].sync] 56)
        have hb3 := hb.alloc hb.size (.cells #[.string L[k].name, .string L[k].data, .int .i64 L[k].sync] 56)
        have hp : ∀ q, (h : q + 1 = k) → (wr.alloc (.cells #[.string L[k].name, .string L[k].data, .int .i64 L[k].sync] 56)).cell? (a.add (q * 3)) = some (.string (L[q]'(by omega)).name) := by
          intro q h
          obtain ⟨a', e, _, h2, _⟩ := (hL.below hb3 (Nat.le_refl _)).at q (by omega)
          cases e
          exact h2
        go_wp2
        generalize wr.alloc (.cells #[.string L[k].name, .string L[k].data, .int .i64 L[k].sync] 56) = w3 at hW hB3 hb3 hp ⊢
        have x0 := hW.cell (i := 0) rfl
        have x1 := hW.cell (i := 1) rfl
        have x2 := hW.cell (i := 2) rfl
        have y0 := hB3.cell (i := 0) rfl
        clear c0 c1 c2 b0
        have hnot : ∀ e : okF L[k] = false, fsOK L = false := fun e => fsOK_at hlt (fun h => by rw [h.1] at e; cases e)
        obtain ⟨I, f, hf⟩ := class_of (fun W => Blk W wr.heap.size 56 [.string L[k].name, .string L[k].data, .int .i64 L[k].sync] ∧ Blk W w.heap.size 33 [.slice (some a) L.length c] ∧ Below w.heap.size w W)
        have g0 : ∀ s, (f s).cell? ⟨wr.heap.size, 0, none⟩ = some (.string L[k].name) := fun s => ((hf _).1 ⟨s, rfl⟩).1.cell rfl
        have g1 : ∀ s, (f s).cell? ⟨wr.heap.size, 1, none⟩ = some (.string L[k].data) := fun s => ((hf _).1 ⟨s, rfl⟩).1.cell rfl
        have g2 : ∀ s, (f s).cell? ⟨wr.heap.size, 2, none⟩ = some (.int .i64 L[k].sync) := fun s => ((hf _).1 ⟨s, rfl⟩).1.cell rfl
        have g3 : ∀ s, (f s).cell? ⟨w.heap.size, 0, none⟩ = some (.slice (some a) L.length c) := fun s => ((hf _).1 ⟨s, rfl⟩).2.1.cell rfl
        have g4 : ∀ s q, (h : q + 1 = k) → (f s).cell? (a.add (q * 3)) = some (.string (L[q]'(by omega)).name) := by
          intro s q h
          obtain ⟨a', e, _, h2, _⟩ := (hL.below ((hf _).1 ⟨s, rfl⟩).2.2 (Nat.le_refl _)).at q (by omega)
          cases e
          exact h2
        have g5 : ∃ s, w3.drew = f s := (hf _).2 ⟨hW.drew, hB3.drew, below_drew hb3⟩
        have g6 : ∀ s W', Below (f s).heap.size (f s) W' → ∃ s', W' = f s' := fun s W' h => by
          obtain ⟨h1, h2, h3⟩ := (hf _).1 ⟨s, rfl⟩
          exact (hf _).2 ⟨h1.below h h1.lt, h2.below h h2.lt, h3.trans (h.mono h3.size)⟩
        haveI : Nonempty I := ⟨g5.choose⟩
        have HF := Lib.hid hf
        clear hf x0 x1 x2 y0
        rcases Bool.eq_false_or_eq_true (okF L[k]) with hN | hN
        · have FR : ∀ W, Calls Tryd.prog 52 #[.agg #[.string L[k].name, .string L[k].data, .int .i64 L[k].sync]] W fun e w' => e = .returned (.bool true) ∧ Below W.heap.size W w' := fun W => by have := fileRight_any L[k] W hff; rw [hN] at this; exact this
          by_cases hk0 : 0 < k
          · obtain ⟨q, hq⟩ : ∃ q, q + 1 = k := ⟨k - 1, by omega⟩
            have p0 : ∀ s, (f s).cell? (a.add (q * 3)) = some (.string (L[q]'(by omega)).name) := fun s => g4 s q hq
            have hd : decide ((0 : Int) < (k : Int)) = true := by simp; omega
            have e1 : IntKind.i64.wrap ((k : Int) - 1) = (q : Int) := by rw [IntWalk.i64_in _ (by omega)]; omega
            have e2 : (q : Int) < (L.length : Int) := by omega
            have hql : q < L.length := by omega
            clear hp g4
            rcases Bool.eq_false_or_eq_true (Op.bytesLess L[q].name.toList L[k].name.toList) with hl | hl
            · skip
              refine wp_region_kept f (by kernel_rfl) (by kernel_rfl) g5 ?_
              repeat (first
                | go_big_quiet_skip
                | (go_big_quiet_want; go_big_quiet_op; first | go_big_quiet_on | (apply Exists.intro; refine ⟨fun s => ?_, ?_⟩; (go_at_call 52; refine (FR _).mono ?_; rintro e w4 ⟨rfl, hb4⟩; exact ⟨rfl, g6 _ _ hb4⟩); go_big_quiet_on)))
              refine wpQuiet_nil ?_
              intro w5 h5
              obtain ⟨_, hB5, hb5⟩ := (HF.out _).1 h5
              go_wp2
              refine ⟨⟨k + 1, by omega, by go_num, fun j hj hjk => ?_, hB5, hb5⟩, by simp [intOf]; omega⟩
              by_cases e : j = k
              · subst e
                exact ⟨hN, okIn_less hq hlt hql hl⟩
              · exact hok j hj (by omega)
            · have R := Lib.hid (fsOK_at hlt (not_okIn_less hq hlt hql hl))
              refine wp_region_kept f (by kernel_rfl) (by kernel_rfl) g5 ?_
              repeat (first
                | go_big_quiet_skip
                | (go_big_quiet_want; go_big_quiet_op; first | go_big_quiet_on | (apply Exists.intro; refine ⟨fun s => ?_, ?_⟩; (go_at_call 52; refine (FR _).mono ?_; rintro e w4 ⟨rfl, hb4⟩; exact ⟨rfl, g6 _ _ hb4⟩); go_big_quiet_on)))
              refine wpQuiet_nil ?_
              intro w5 h5
              obtain ⟨_, hB5, hb5⟩ := (HF.out _).1 h5
              go_wp2
              go_ret
              exact ⟨by rw [R.out]; rfl, hb5⟩
          · have hd : decide ((0 : Int) < (k : Int)) = false := by simp; omega
            clear hp g4
            refine wp_region_kept f (by kernel_rfl) (by kernel_rfl) g5 ?_
            repeat (first
              | go_big_quiet_skip
              | (go_big_quiet_want; go_big_quiet_op; first | go_big_quiet_on | (apply Exists.intro; refine ⟨fun s => ?_, ?_⟩; (go_at_call 52; refine (FR _).mono ?_; rintro e w4 ⟨rfl, hb4⟩; exact ⟨rfl, g6 _ _ hb4⟩); go_big_quiet_on)))
            refine wpQuiet_nil ?_
            intro w5 h5
            obtain ⟨_, hB5, hb5⟩ := (HF.out _).1 h5
            go_wp2
            refine ⟨⟨k + 1, by omega, by go_num, fun j hj hjk => ?_, hB5, hb5⟩, by simp [intOf]; omega⟩
            by_cases e : j = k
            · subst e
              exact ⟨hN, fun h => absurd h hk0⟩
            · exact hok j hj (by omega)
        · have FR : ∀ W, Calls Tryd.prog 52 #[.agg #[.string L[k].name, .string L[k].data, .int .i64 L[k].sync]] W fun e w' => e = .returned (.bool false) ∧ Below W.heap.size W w' := fun W => by have := fileRight_any L[k] W hff; rw [hN] at this; exact this
          have R := Lib.hid (hnot hN)
          refine wp_region_kept f (by kernel_rfl) (by kernel_rfl) g5 ?_
          repeat (first
            | go_big_quiet_skip
            | (go_big_quiet_want; go_big_quiet_op; first | go_big_quiet_on | (apply Exists.intro; refine ⟨fun s => ?_, ?_⟩; (go_at_call 52; refine (FR _).mono ?_; rintro e w4 ⟨rfl, hb4⟩; exact ⟨rfl, g6 _ _ hb4⟩); go_big_quiet_on)))
          refine wpQuiet_nil ?_
          intro w5 h5
          obtain ⟨_, hB5, hb5⟩ := (HF.out _).1 h5
          go_wp2
          go_ret
          exact ⟨by rw [R.out]; rfl, hb5⟩
      · obtain rfl : k = L.length := by omega
        have R := Lib.hid (fsOK_true h12 fun i h => hok i h h)
        go_wp2
        go_ret
        exact ⟨by rw [R.out]; rfl, hb⟩
  · have R := Lib.hid (fsOK_big h12)
    go_enter Tryd.func37, Tryd.ntmps37
    go_wp2
    go_ret
    exact ⟨by rw [R.out]; rfl, (Below.refl _ _).alloc (Nat.le_refl _) _⟩
end Go.Proofs.YtebkblmejkkhfaaDoor
