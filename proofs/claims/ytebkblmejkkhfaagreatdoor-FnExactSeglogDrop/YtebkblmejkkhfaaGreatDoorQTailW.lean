/- impl's parts of the segmented log: mustHold, readSegment, numbersRight. The contract of impl.FsRight. A region that draws its order: a head whose operations are quiet in a class of worlds, and a tail that comes in the text's order behind all of it (and may write, make memory or panic): one walk. -/
import Derived.Test.YtebkblmejkkhfaaGreatDoorFrCutW
import Derived.Test.YtebkblmejkkhfaaGreatDoorSgArgW
import Derived.Defers
import Derived.Recover
import Derived.Laws.AppendOwnNone
import Derived.WalkSmall
import Derived.Test.YtebkblmejkkhfaaGreatDoorFilRightW
import Derived.Test.YtebkblmejkkhfaaGreatDoorStrW
import Derived.StillTail
namespace Go.Proofs.YtebkblmejkkhfaaGreatDoor
open Go.RowKit
set_option linter.unusedVariables false
set_option linter.unusedSimpArgs false
set_option maxRecDepth 1000000

/-- The error of an invalid segment, as the program's text lays it. -/
def Seg (w : World) : Prop := ∃ a : Addr, w.cell? ⟨5, 0, none⟩ = some (.iface 249 (.pointer (some a)))
theorem Seg.below {w w' : World} (h : Seg w) (hb : Below w.heap.size w w') : Seg w' := by
  obtain ⟨a, ha⟩ := h
  exact ⟨a, by rw [hb.cell (p := ⟨5, 0, none⟩) (World.block_lt_of_cell? w _ ha)]; exact ha⟩
/-- What an invalid segment ends a call with. -/
def Bad (e : Ending) : Prop := ∃ a : Addr, e = .panicked [{ v := .iface 249 (.pointer (some a)), recovered := false }]

theorem must_yes (w : World) : Calls Tryz.prog 146 #[.bool true] w fun e w' => e = .returned (.tuple #[]) ∧ w = w' := by
  go_enter Tryz.func146, Tryz.ntmps146
  go_wp2
  go_end0
  exact ⟨rfl, rfl⟩
theorem must_no (a : Addr) (w : World) (h : w.cell? ⟨5, 0, none⟩ = some (.iface 249 (.pointer (some a)))) : Calls Tryz.prog 146 #[.bool false] w fun e w' => e = .panicked [{ v := .iface 249 (.pointer (some a)), recovered := false }] ∧ w = w' := by
  go_enter Tryz.func146, Tryz.ntmps146
  go_wp2
  exact ⟨rfl, rfl, rfl⟩
/-- What readSegment returns. -/
abbrev sgmV (v : Value) (E : Nat) (s : ByteArray) : Value := .agg #[v, .int .i64 (E : Int), .bool ((E : Int) == (s.size : Int))]
set_option maxHeartbeats 2000000 in
theorem readSegment_ok (s : ByteArray) (n : Int) (w : World) (hs : s.size ≤ 20000) (h0 : 0 ≤ n) (h9 : n ≤ 900000) (h4 : n % 4 = 0) (hl : (frs s 0).length ≤ 4) (hH : Handle w) :
    Calls Tryz.prog 147 #[.string s, .int .i64 n] w fun e w' => ∃ v, e = .returned (sgmV v (endOf (frs s 0)) s) ∧ OwnS w' w.heap.size v ((frs s 0).map Prod.fst) ∧ Below w.heap.size w w' := by
  have hb0 : Below w.heap.size w (w.alloc (.cells #[.slice none 0 0, .int .i64 0, .bool false] 153)) := (Below.refl _ w).alloc (Nat.le_refl _) _
  have k0 := Blk.fresh w 153 [.slice none 0 0, .int .i64 0, .bool false]
  have HI := Lib.hid (implFramesRead_any s _ hs (Handle.below hH hb0))
  have d4 : (n % 4 == 0) = true := by simp [h4]
  have H4 := Lib.hid h4
  clear h4
  generalize hE : endOf (frs s 0) = E at HI ⊢
  obtain ⟨P, HP⟩ : ∃ P, Hid ((frs s 0).map Prod.fst = P) := ⟨_, Lib.hid rfl⟩
  have hl' : P.length ≤ 4 := by rw [← HP.out]; simpa using hl
  rw [HP.out] at HI ⊢
  have dl : decide ((P.length : Int) ≤ 4) = true := by simp; omega
  clear hl hE HP
  go_enter Tryz.func147, Tryz.ntmps147
  go_wp2_with (go_at_call 146; refine (must_yes _).mono ?_; rintro e w' ⟨rfl, rfl⟩)
  refine HI.out.mono ?_
  rintro e w1 ⟨v, rfl, hO, hb1⟩
  obtain ⟨A1, c1, rfl⟩ := ownS_some hO
  have hw1 := hb0.trans (hb1.mono hb0.size)
  have k1 := k0.below hb1 k0.lt
  have hz := hb1.size
  simp only [World.size_alloc] at hz
  have k2 := k1.alloc (.cells #[.slice A1 P.length c1, .int .i64 (E : Int), .int .i64 0] 177)
  have hw2 := hw1.alloc hw1.size (.cells #[.slice A1 P.length c1, .int .i64 (E : Int), .int .i64 0] 177)
  have hO2 : OwnS (w1.alloc (.cells #[.slice A1 P.length c1, .int .i64 (E : Int), .int .i64 0] 177)) _ _ _ := World.ownsRow.alloc hO (.cells #[.slice A1 P.length c1, .int .i64 (E : Int), .int .i64 0] 177)
  have k3 := Blk.fresh w1 177 [.slice A1 P.length c1, .int .i64 (E : Int), .int .i64 0]
  have x0 := k3.cell (i := 0) rfl
  have x1 := k3.cell (i := 1) rfl
  have y0 := k2.cell (i := 0) rfl
  have y1 := k2.cell (i := 1) rfl
  have y2 := k2.cell (i := 2) rfl
  have f0 := k2.froz 0
  have f1 := k2.froz 1
  have f2 := k2.froz 2
  clear hb0 k0 HI hb1 hO
  go_wp2_with (go_at_call 146; refine (must_yes _).mono ?_; rintro e w' ⟨rfl, rfl⟩)
  have r1 := ((k2.put 0 (.slice A1 P.length c1)).put 1 (.int .i64 (E : Int))).put 2 (.bool ((E : Int) == (s.size : Int)))
  have r2 := row_far (row_far (row_far hO2 (p := ⟨w.heap.size, 0, none⟩) (by simp) (.slice A1 P.length c1)) (p := ⟨w.heap.size, 1, none⟩) (by simp) (.int .i64 (E : Int))) (p := ⟨w.heap.size, 2, none⟩) (by simp) (.bool ((E : Int) == (s.size : Int)))
  have r3 := ((hw2.setCell (p := ⟨w.heap.size, 0, none⟩) (by simp) (.slice A1 P.length c1)).setCell (p := ⟨w.heap.size, 1, none⟩) (by simp) (.int .i64 (E : Int))).setCell (p := ⟨w.heap.size, 2, none⟩) (by simp) (.bool ((E : Int) == (s.size : Int)))
  generalize (((w1.alloc (.cells #[.slice A1 P.length c1, .int .i64 (E : Int), .int .i64 0] 177)).setCell ⟨w.heap.size, 0, none⟩ (.slice A1 P.length c1)).setCell ⟨w.heap.size, 1, none⟩ (.int .i64 (E : Int))).setCell ⟨w.heap.size, 2, none⟩ (.bool ((E : Int) == (s.size : Int))) = w9 at r1 r2 r3 ⊢
  have z0 := r1.cell (i := 0) rfl
  have z1 := r1.cell (i := 1) rfl
  have z2 := r1.cell (i := 2) rfl
  exact bodyPost_ret (v := sgmV (.slice A1 P.length c1) E s) (by simp [results, Tryz.results147, go_sem, z0, z1, z2]) rfl ⟨_, rfl, ownS_base r2 (by simp), r3⟩
set_option maxHeartbeats 2000000 in
theorem readSegment_bad (s : ByteArray) (n : Int) (w : World) (hs : s.size ≤ 20000) (h0 : 0 ≤ n) (h9 : n ≤ 900000) (h4 : n % 4 = 0) (hl : ¬ (frs s 0).length ≤ 4) (hH : Handle w) (hS : Seg w) :
    Calls Tryz.prog 147 #[.string s, .int .i64 n] w fun e w' => (∃ a : Addr, e = .panicked [{ v := .iface 249 (.pointer (some a)), recovered := false }]) ∧ Below w.heap.size w w' := by
  have hb0 : Below w.heap.size w (w.alloc (.cells #[.slice none 0 0, .int .i64 0, .bool false] 153)) := (Below.refl _ w).alloc (Nat.le_refl _) _
  have HI := Lib.hid (implFramesRead_any s _ hs (Handle.below hH hb0))
  have d4 : (n % 4 == 0) = true := by simp [h4]
  have H4 := Lib.hid h4
  clear h4
  generalize hE : endOf (frs s 0) = E at HI ⊢
  obtain ⟨P, HP⟩ : ∃ P, Hid ((frs s 0).map Prod.fst = P) := ⟨_, Lib.hid rfl⟩
  have hl' : 4 < P.length := by rw [← HP.out]; simpa using hl
  rw [HP.out] at HI
  have dl : decide ((P.length : Int) ≤ 4) = false := by simp; omega
  clear hl hE HP
  go_enter Tryz.func147, Tryz.ntmps147
  go_wp2_with (go_at_call 146; refine (must_yes _).mono ?_; rintro e w' ⟨rfl, rfl⟩)
  refine HI.out.mono ?_
  rintro e w1 ⟨v, rfl, hO, hb1⟩
  obtain ⟨A1, c1, rfl⟩ := ownS_some hO
  have hw1 := hb0.trans (hb1.mono hb0.size)
  have hw2 := hw1.alloc hw1.size (.cells #[.slice A1 P.length c1, .int .i64 (E : Int), .int .i64 0] 177)
  have k3 := Blk.fresh w1 177 [.slice A1 P.length c1, .int .i64 (E : Int), .int .i64 0]
  have x0 := k3.cell (i := 0) rfl
  obtain ⟨a, ha⟩ := hS.below hw2
  clear hb0 HI hb1 hO
  go_wp2_with (go_at_call 146; refine (must_no a _ ha).mono ?_; rintro e w' ⟨rfl, rfl⟩)
  have hB : Bad (.panicked [{ v := .iface 249 (.pointer (some a)), recovered := false }]) := ⟨a, rfl⟩
  exact ⟨rfl, ⟨a, rfl⟩, hw2⟩
/-- The numbers of a log. -/
theorem numbers_any (v : Value) (f m : Int) (w : World) (hf : (Lit.int .i64 f).wf = true) (hm : (Lit.int .i64 m).wf = true) :
    Calls Tryz.prog 145 #[segV v f m] w fun e w' => e = .returned (.bool (numOK f m)) ∧ Below w.heap.size w w' := by
  have a := wf_i64 hf
  have b := wf_i64 hm
  clear hf hm
  have hb0 : Below w.heap.size w (w.alloc (.cells #[v, .int .i64 f, .int .i64 m] 61)) := (Below.refl _ w).alloc (Nat.le_refl _) _
  cases hN : numOK f m with
  | true =>
    have h := numOK_iff.1 hN
    obtain ⟨h1, h2, h3, h4, h5, h6⟩ := h
    have d3 : (f % 4 == 0) = true := by simp [h3]
    have H3 := Lib.hid h3
    clear h3 hN
    go_enter Tryz.func145, Tryz.ntmps145
    go_wp2
    go_ret
    exact ⟨retB (by simp [h1, h2, h4, h5, h6]), hb0⟩
  | false =>
    have hn : ¬ (0 ≤ f ∧ f ≤ 900000 ∧ f % 4 = 0 ∧ 0 ≤ m ∧ m ≤ 60 ∧ f + m ≤ 900000) := fun h => by rw [numOK_iff.2 h] at hN; cases hN
    clear hN
    by_cases h1 : 0 ≤ f
    · by_cases h2 : f ≤ 900000
      · by_cases h3 : f % 4 = 0
        · have d3 : (f % 4 == 0) = true := by simp [h3]
          have H3 := Lib.hid h3
          by_cases h4 : 0 ≤ m
          · by_cases h5 : m ≤ 60
            · have h6 : ¬ f + m ≤ 900000 := fun h => hn ⟨h1, h2, h3, h4, h5, h⟩
              clear hn h3
              go_enter Tryz.func145, Tryz.ntmps145
              go_wp2
              go_ret
              exact ⟨retB (by simp [h1, h2, h4, h5, h6]), hb0⟩
            · clear hn h3
              go_enter Tryz.func145, Tryz.ntmps145
              go_wp2
              go_ret
              exact ⟨retB (by simp [h1, h2, h4, h5]), hb0⟩
          · clear hn h3
            go_enter Tryz.func145, Tryz.ntmps145
            go_wp2
            go_ret
            exact ⟨retB (by simp [h1, h2, h4]), hb0⟩
        · have d3 : (f % 4 == 0) = false := by simpa using h3
          clear hn h3
          go_enter Tryz.func145, Tryz.ntmps145
          go_wp2
          go_ret
          exact ⟨retB (by simp [h1, h2]), hb0⟩
      · clear hn
        go_enter Tryz.func145, Tryz.ntmps145
        go_wp2
        go_ret
        exact ⟨retB (by simp [h1, h2]), hb0⟩
    · clear hn
      go_enter Tryz.func145, Tryz.ntmps145
      go_wp2
      go_ret
      exact ⟨retB (by simp [h1]), hb0⟩
end Go.Proofs.YtebkblmejkkhfaaGreatDoor

namespace Go.Proofs.YtebkblmejkkhfaaGreatDoor
open Go.RowKit
set_option linter.unusedVariables false

set_option maxHeartbeats 1000000 in
theorem fileRight_any (f : Fil) (w : World) (hf : f.fits) : Calls Tryz.prog 92 #[f.val] w fun e w' => e = .returned (.bool (okF f)) ∧ Below w.heap.size w w' := by
  obtain ⟨s0, s1, k⟩ := f
  obtain ⟨q0, q1, q2, q3⟩ := hf
  simp only at q0 q1 q2 q3
  have q1' := q1
  unfold maxLen at q1
  unfold Fil.val
  simp only
  rcases Bool.eq_false_or_eq_true (nameB s0) with hN | hN
  · have NR : ∀ W, Calls Tryz.prog 131 #[.string s0] W fun e w' => e = .returned (.bool true) ∧ W = w' := fun W => by have := implNameRight_any s0 W q0; rw [hN] at this; exact this
    by_cases h1 : s1.size ≤ 3000
    · by_cases h2 : 0 ≤ k
      · by_cases h3 : k ≤ s1.size
        all_goals
          go_enter Tryz.func92, Tryz.ntmps92
          go_wp2_with (go_at_call 131; refine (NR _).mono ?_; rintro e w' ⟨rfl, rfl⟩)
          go_ret
          exact ⟨retB (by simp [okF, hN]; omega), (Below.refl _ _).alloc (Nat.le_refl _) _⟩
      · go_enter Tryz.func92, Tryz.ntmps92
        go_wp2_with (go_at_call 131; refine (NR _).mono ?_; rintro e w' ⟨rfl, rfl⟩)
        go_ret
        exact ⟨by simp [okF, hN]; omega, (Below.refl _ _).alloc (Nat.le_refl _) _⟩
    · go_enter Tryz.func92, Tryz.ntmps92
      go_wp2_with (go_at_call 131; refine (NR _).mono ?_; rintro e w' ⟨rfl, rfl⟩)
      go_ret
      exact ⟨by simp [okF, hN]; omega, (Below.refl _ _).alloc (Nat.le_refl _) _⟩
  · have NR : ∀ W, Calls Tryz.prog 131 #[.string s0] W fun e w' => e = .returned (.bool false) ∧ W = w' := fun W => by have := implNameRight_any s0 W q0; rw [hN] at this; exact this
    go_enter Tryz.func92, Tryz.ntmps92
    go_wp2_with (go_at_call 131; refine (NR _).mono ?_; rintro e w' ⟨rfl, rfl⟩)
    go_ret
    exact ⟨by simp [okF, hN], (Below.refl _ _).alloc (Nat.le_refl _) _⟩

set_option maxHeartbeats 4000000 in
set_option maxRecDepth 1000000 in
theorem implRight_any (A : Option Addr) (L : List Fil) (c : Nat) (w : World) (hL : Fls w w.heap.size A L) :
    Calls Tryz.prog 23 #[.agg #[.slice A L.length c]] w fun e w' => e = .returned (.bool (fsOK L)) ∧ Below w.heap.size w w' := by
  have hn := hL.1
  unfold maxLen at hn
  have hB0 := Blk.fresh w 25 [.slice A L.length c]
  by_cases h12 : L.length ≤ 12
  · go_enter Tryz.func23, Tryz.ntmps23
    go_wp2
    go_loopw [3, 4, 12] (fun _ _ i wr => ∃ k : Nat, k ≤ L.length ∧ i = .int .i64 k ∧ (∀ j (h : j < L.length), j < k → okIn L j h) ∧ Blk wr w.heap.size 25 [.slice A L.length c] ∧ Below w.heap.size w wr) (fun _ _ i _ => L.length - (intOf i).toNat)
    case atStart => exact ⟨0, by omega, rfl, fun j _ h => by omega, hB0, (Below.refl _ _).alloc (Nat.le_refl _) _⟩
    case round =>
      obtain ⟨k, hk, rfl, hok, hB, hb⟩ := hrel
      have b0 := hB.cell (i := 0) rfl
      by_cases hlt : k < L.length
      · obtain ⟨a, rfl, hab, c0, c1, c2, hff⟩ := (hL.below hb (Nat.le_refl _)).at k hlt
        have hW := Blk.fresh wr 53 [.string L[k].name, .string L[k].data, .int .i64 L[k].sync]
        have hB3 := hB.alloc (.cells #[.string L[k].name, .string L[k].data, .int .i64 L[k].sync] 53)
        have hb3 := hb.alloc hb.size (.cells #[.string L[k].name, .string L[k].data, .int .i64 L[k].sync] 53)
        have hp : ∀ q, (h : q + 1 = k) → (wr.alloc (.cells #[.string L[k].name, .string L[k].data, .int .i64 L[k].sync] 53)).cell? (a.add (q * 3)) = some (.string (L[q]'(by omega)).name) := by
          intro q h
          obtain ⟨a', e, _, h2, _⟩ := (hL.below hb3 (Nat.le_refl _)).at q (by omega)
          cases e
          exact h2
        go_wp2
        generalize wr.alloc (.cells #[.string L[k].name, .string L[k].data, .int .i64 L[k].sync] 53) = w3 at hW hB3 hb3 hp ⊢
        have x0 := hW.cell (i := 0) rfl
        have x1 := hW.cell (i := 1) rfl
        have x2 := hW.cell (i := 2) rfl
        have y0 := hB3.cell (i := 0) rfl
        clear c0 c1 c2 b0
        have hnot : ∀ e : okF L[k] = false, fsOK L = false := fun e => fsOK_at hlt (fun h => by rw [h.1] at e; cases e)
        obtain ⟨I, f, hf⟩ := class_of (fun W => Blk W wr.heap.size 53 [.string L[k].name, .string L[k].data, .int .i64 L[k].sync] ∧ Blk W w.heap.size 25 [.slice (some a) L.length c] ∧ Below w.heap.size w W)
        have g0 : ∀ s, (f s).cell? ⟨wr.heap.size, 0, none⟩ = some (.string L[k].name) := fun s => ((hf _).1 ⟨s, rfl⟩).1.cell rfl
        have g1 : ∀ s, (f s).cell? ⟨wr.heap.size, 1, none⟩ = some (.string L[k].data) := fun s => ((hf _).1 ⟨s, rfl⟩).1.cell rfl
        have g2 : ∀ s, (f s).cell? ⟨wr.heap.size, 2, none⟩ = some (.int .i64 L[k].sync) := fun s => ((hf _).1 ⟨s, rfl⟩).1.cell rfl
        have g3 : ∀ s, (f s).cell? ⟨w.heap.size, 0, none⟩ = some (.slice (some a) L.length c) := fun s => ((hf _).1 ⟨s, rfl⟩).2.1.cell rfl
        have g4 : ∀ s q, (h : q + 1 = k) → (f s).cell? (a.add (q * 3)) = some (.string (L[q]'(by omega)).name) := by
          intro s q h
          obtain ⟨a', e, _, h2, _⟩ := (hL.below ((hf _).1 ⟨s, rfl⟩).2.2 (Nat.le_refl _)).at q (by omega)
          cases e
          exact h2
        have g5 : ∃ s, w3.drew = f s := (hf _).2 ⟨hW.drew, hB3.drew, below_drew hb3⟩
        have g6 : ∀ s W', Below (f s).heap.size (f s) W' → ∃ s', W' = f s' := fun s W' h => by
          obtain ⟨h1, h2, h3⟩ := (hf _).1 ⟨s, rfl⟩
          exact (hf _).2 ⟨h1.below h h1.lt, h2.below h h2.lt, h3.trans (h.mono h3.size)⟩
        haveI : Nonempty I := ⟨g5.choose⟩
        have HF := Lib.hid hf
        clear hf x0 x1 x2 y0
        rcases Bool.eq_false_or_eq_true (okF L[k]) with hN | hN
        · have FR : ∀ W, Calls Tryz.prog 92 #[.agg #[.string L[k].name, .string L[k].data, .int .i64 L[k].sync]] W fun e w' => e = .returned (.bool true) ∧ Below W.heap.size W w' := fun W => by have := fileRight_any L[k] W hff; rw [hN] at this; exact this
          by_cases hk0 : 0 < k
          · obtain ⟨q, hq⟩ : ∃ q, q + 1 = k := ⟨k - 1, by omega⟩
            have p0 : ∀ s, (f s).cell? (a.add (q * 3)) = some (.string (L[q]'(by omega)).name) := fun s => g4 s q hq
            have hd : decide ((0 : Int) < (k : Int)) = true := by simp; omega
            have e1 : IntKind.i64.wrap ((k : Int) - 1) = (q : Int) := by rw [IntWalk.i64_in _ (by omega)]; omega
            have e2 : (q : Int) < (L.length : Int) := by omega
            have hql : q < L.length := by omega
            clear hp g4
            rcases Bool.eq_false_or_eq_true (Op.bytesLess L[q].name.toList L[k].name.toList) with hl | hl
            · skip
              refine wp_region_kept f (by kernel_rfl) (by kernel_rfl) g5 ?_
              repeat (first
                | go_big_quiet_skip
                | (go_big_quiet_want; go_big_quiet_op; first | go_big_quiet_on | (apply Exists.intro; refine ⟨fun s => ?_, ?_⟩; (go_at_call 92; refine (FR _).mono ?_; rintro e w4 ⟨rfl, hb4⟩; exact ⟨rfl, g6 _ _ hb4⟩); go_big_quiet_on)))
              refine wpQuiet_nil ?_
              intro w5 h5
              obtain ⟨_, hB5, hb5⟩ := (HF.out _).1 h5
              go_wp2
              refine ⟨⟨k + 1, by omega, by go_num, fun j hj hjk => ?_, hB5, hb5⟩, by simp [intOf]; omega⟩
              by_cases e : j = k
              · subst e
                exact ⟨hN, okIn_less hq hlt hql hl⟩
              · exact hok j hj (by omega)
            · have R := Lib.hid (fsOK_at hlt (not_okIn_less hq hlt hql hl))
              refine wp_region_kept f (by kernel_rfl) (by kernel_rfl) g5 ?_
              repeat (first
                | go_big_quiet_skip
                | (go_big_quiet_want; go_big_quiet_op; first | go_big_quiet_on | (apply Exists.intro; refine ⟨fun s => ?_, ?_⟩; (go_at_call 92; refine (FR _).mono ?_; rintro e w4 ⟨rfl, hb4⟩; exact ⟨rfl, g6 _ _ hb4⟩); go_big_quiet_on)))
              refine wpQuiet_nil ?_
              intro w5 h5
              obtain ⟨_, hB5, hb5⟩ := (HF.out _).1 h5
              go_wp2
              go_ret
              exact ⟨by rw [R.out]; rfl, hb5⟩
          · have hd : decide ((0 : Int) < (k : Int)) = false := by simp; omega
            clear hp g4
            refine wp_region_kept f (by kernel_rfl) (by kernel_rfl) g5 ?_
            repeat (first
              | go_big_quiet_skip
              | (go_big_quiet_want; go_big_quiet_op; first | go_big_quiet_on | (apply Exists.intro; refine ⟨fun s => ?_, ?_⟩; (go_at_call 92; refine (FR _).mono ?_; rintro e w4 ⟨rfl, hb4⟩; exact ⟨rfl, g6 _ _ hb4⟩); go_big_quiet_on)))
            refine wpQuiet_nil ?_
            intro w5 h5
            obtain ⟨_, hB5, hb5⟩ := (HF.out _).1 h5
            go_wp2
            refine ⟨⟨k + 1, by omega, by go_num, fun j hj hjk => ?_, hB5, hb5⟩, by simp [intOf]; omega⟩
            by_cases e : j = k
            · subst e
              exact ⟨hN, fun h => absurd h hk0⟩
            · exact hok j hj (by omega)
        · have FR : ∀ W, Calls Tryz.prog 92 #[.agg #[.string L[k].name, .string L[k].data, .int .i64 L[k].sync]] W fun e w' => e = .returned (.bool false) ∧ Below W.heap.size W w' := fun W => by have := fileRight_any L[k] W hff; rw [hN] at this; exact this
          have R := Lib.hid (hnot hN)
          refine wp_region_kept f (by kernel_rfl) (by kernel_rfl) g5 ?_
          repeat (first
            | go_big_quiet_skip
            | (go_big_quiet_want; go_big_quiet_op; first | go_big_quiet_on | (apply Exists.intro; refine ⟨fun s => ?_, ?_⟩; (go_at_call 92; refine (FR _).mono ?_; rintro e w4 ⟨rfl, hb4⟩; exact ⟨rfl, g6 _ _ hb4⟩); go_big_quiet_on)))
          refine wpQuiet_nil ?_
          intro w5 h5
          obtain ⟨_, hB5, hb5⟩ := (HF.out _).1 h5
          go_wp2
          go_ret
          exact ⟨by rw [R.out]; rfl, hb5⟩
      · obtain rfl : k = L.length := by omega
        have R := Lib.hid (fsOK_true h12 fun i h => hok i h h)
        go_wp2
        go_ret
        exact ⟨by rw [R.out]; rfl, hb⟩
  · have R := Lib.hid (fsOK_big h12)
    go_enter Tryz.func23, Tryz.ntmps23
    go_wp2
    go_ret
    exact ⟨by rw [R.out]; rfl, (Below.refl _ _).alloc (Nat.le_refl _) _⟩
end Go.Proofs.YtebkblmejkkhfaaGreatDoor

namespace Go.Proofs.YtebkblmejkkhfaaGreatDoor
open Go.RowKit
set_option linter.unusedVariables false
section
variable {P : Program} {ops : Array Oper} {md : Region.Mode} {C : World → Prop}

/-- Whatever order the head is taken in. -/
def headAny (P : Program) (md : Region.Mode) (ops : Array Oper) (C : World → Prop) (n : Nat) (L : Array Bool → Act → Prop) : Nat → Array Bool → Act → Prop
  | 0, ls, a => L ls a
  | f + 1, ls, a => Region.ready md ops ls ≠ [] ∧ ∀ i ∈ Region.ready md ops ls, i < n ∧ qOp P ops C i (headAny P md ops C n L f (ls.setIfInBounds i true)) a
theorem any_of_headAny {n g : Nat} {L : Array Bool → Act → Prop} {Q : Exit → Act → World → Prop} (hL : ∀ ls a w, C w → L ls a → wpAny P md ops Q g ls a w) :
    ∀ (f : Nat) (ls : Array Bool) (a : Act) (w : World), C w → headAny P md ops C n L f ls a → wpAny P md ops Q (f + g) ls a w := by
  intro f
  induction f with
  | zero => intro ls a w hC h; rw [Nat.zero_add]; exact hL _ _ _ hC h
  | succ f ih =>
    intro ls a w hC h
    have e : f + 1 + g = (f + g) + 1 := by omega
    rw [e]
    exact ⟨fun h0 => absurd h0 h.1, fun i hi => wpOp_of_qOp hC (fun a' w' hw' h' => ih _ a' w' hw' h') (h.2 i hi).2⟩
theorem headAny_first {n i : Nat} {oi : Oper} {v : Value} {L : Array Bool → Act → Prop} (hi : ops[i]? = some oi) (hsel : ∀ (j : Nat) (o : Oper) cs b, ops[j]? = some o → o.op ≠ .select cs b)
    (hs : Region.sinkB md ops n = true) (hc : Region.chainB md ops n = true) (hn : n < ops.size) (hin : i < n) (hdone : ∀ ls a, L ls a → ∀ j ∈ Region.ready md ops ls, n ≤ j) :
    ∀ (f : Nat) (ls : Array Bool) (a : Act), HeadInv md ops n ls →
      (∀ j oj, ops[j]? = some oj → j ≠ i → ls.getD j true = false → (∀ e ∈ oj.after, Region.binds md e = true → e.on ≠ i) → oi.apart ops oj = true) →
      i ∈ Region.ready md ops ls → YieldsIn P ops C oi v a → headAny P md ops C n L f (ls.setIfInBounds i true) (a.put oi.dst v) → headAny P md ops C n L (f + 1) ls a := by
  intro f
  induction f with
  | zero =>
    intro ls a inv _ hr hy H
    have hun := (mem_ready.1 hr).1
    refine ⟨List.ne_nil_of_mem hr, fun j hj => ?_⟩
    have hjn : j < n := Nat.lt_of_not_le fun h => tail_waits hs hc hn inv _ i rfl hin hun j h hj
    refine ⟨hjn, ?_⟩
    by_cases hji : j = i
    · subst hji; exact hy.qOp hi H
    · exact absurd (hdone _ _ H j (ready_mono hj hji)) (by omega)
  | succ f ih =>
    intro ls a inv hfree hr hy H
    have hun := (mem_ready.1 hr).1
    refine ⟨List.ne_nil_of_mem hr, fun j hj => ?_⟩
    have hjn : j < n := Nat.lt_of_not_le fun h => tail_waits hs hc hn inv _ i rfl hin hun j h hj
    refine ⟨hjn, ?_⟩
    by_cases hji : j = i
    · subst hji; exact hy.qOp hi H
    · obtain ⟨hjun, oj, hoj, hall⟩ := mem_ready.1 hj
      have hnot : ∀ e ∈ oj.after, Region.binds md e = true → e.on ≠ i := fun e he hb heq => by
        have h1 := hall e he hb
        rw [heq, getD_both hun] at h1
        cases h1
      have h2 := qOp_put hoj (hfree j oj hoj hji hjun hnot) (fun cs b => hsel i oi cs b hi) (fun cs b => hsel j oj cs b hoj) hy (H.2 j (ready_mono hj hji)).2
      refine qOp_mono (fun a' h3 => ih (ls.setIfInBounds j true) a' (inv.set hj hjn) (fun k ok hk hki hun' hno => hfree k ok hk hki ?_ hno) (ready_mono hr (Ne.symm hji)) h3.1 ?_) h2
      · by_cases hjk : j = k
        · subst hjk; exact hjun
        · rw [getD_set_ne true hjk] at hun'; exact hun'
      · rw [Array.setIfInBounds_comm _ _ hji]
        exact h3.2
theorem headAny_lex {n g : Nat} {Lq : Act → Prop} (hsel : Region.noSelect ops = true) (hs : Region.sinkB md ops n = true) (hc : Region.chainB md ops n = true) (hn : n < ops.size) :
    ∀ (l : List Oper) (k : Nat) (ls : Array Bool) (a : Act), (∀ j, j < l.length → l[j]? = ops[k + j]?) → k + l.length = n → HeadInv md ops n ls →
    Region.lexHead md ops g l.length k ls = true → wpQuiet P ops C Lq l a → headAny P md ops C n (fun ls' a' => Region.seqB md ops g n ls' = true ∧ Lq a') l.length ls a := by
  intro l
  induction l with
  | nil =>
    intro k ls a _ hk _ hB h
    obtain rfl : k = n := by simpa using hk
    exact ⟨by simpa [Region.lexHead] using hB, h⟩
  | cons o l ih =>
    intro k ls a hl hk inv hB h
    have h0 : ops[k]? = some o := by simpa using (hl 0 (by simp)).symm
    simp only [List.length_cons, Region.lexHead, Bool.and_eq_true] at hB
    obtain ⟨⟨hr, hf⟩, hB'⟩ := hB
    simp only [List.length_cons] at hk
    have hr' : k ∈ Region.ready md ops ls := by simpa using hr
    have hst : qOp P ops C k (wpQuiet P ops C Lq l) a := by unfold qOp; simp only [h0]; exact h
    obtain ⟨v, hy, hK⟩ := yieldsIn_of_qOp h0 hst
    refine headAny_first h0 (Region.noSelect_spec hsel) hs hc hn (by omega) (fun ls' a' hL => seqB_ready hL.1) l.length ls a inv (Region.free_spec h0 hf) hr' hy (ih (k + 1) _ _ (fun j hj => ?_) (by omega) (inv.set hr' (by omega)) hB' hK)
    have := hl (j + 1) (by simp; omega)
    simpa [Nat.add_assoc, Nat.add_comm 1 j] using this
theorem wp_region_class_tail {id : Nat} {Q : Exit → Act → World → Prop} {a : Act} {w : World} {l : List Oper} (n : Nat) (hm : P.follows .mixedOrders = true) (hB : Region.lexTailB .any l.toArray n = true) (hC : C w.drew)
    (h : wpQuiet P l.toArray C (fun a' => ∀ w', C w' → wpList P l.toArray Q (l.drop n) a' w') (l.take n) a) : (Code.region id l.toArray true).wp P Q a w := by
  simp only [Region.lexTailB, Bool.and_eq_true, decide_eq_true_eq] at hB
  obtain ⟨⟨⟨⟨hsel, hn⟩, hs⟩, hc⟩, hlex⟩ := hB
  have hn' : n < l.length := by simpa using hn
  have htl : (l.take n).length = n := by simp; omega
  have hdl : (l.drop n).length = l.toArray.size - n := by simp
  have inv0 : HeadInv .any l.toArray n (Array.replicate l.toArray.size false) :=
    ⟨by simp, fun j oj _ hl => (by rw [getD_replicate_false] at hl; cases hl), fun t _ ht => getD_in (by simpa using ht) (getD_replicate_false _ _)⟩
  have H := headAny_lex (C := C) (md := .any) (g := l.toArray.size - n) hsel hs hc hn (l.take n) 0 _ a (fun j hj => by
    have hj' : j < n := by rw [htl] at hj; exact hj
    simp [hj']) (by simpa using htl) inv0 (by rw [htl]; exact hlex) h
  refine wp_region_any hm ?_
  have := any_of_headAny (Q := Q) (g := l.toArray.size - n) (fun ls a' w' hw' hL => by
    have := wpAny_of_seq (md := .any) (Q' := Q) (l.drop n) n ls a' w' (fun j => by simp [List.getElem?_drop]) (by rw [hdl]; exact hL.1) (hL.2 w' hw')
    rwa [hdl] at this) _ _ _ w.drew hC H
  rw [htl, show n + (l.toArray.size - n) = l.toArray.size by omega] at this
  exact this
end
end Go.Proofs.YtebkblmejkkhfaaGreatDoor
