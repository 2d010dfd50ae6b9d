/- spec.l05Right: whether a log is valid, and its texts. impl's parts of the segmented log: mustHold, readSegment, numbersRight. A region that draws its order: a head whose operations are quiet in a class of worlds, and a tail that comes in the text's order behind all of it (and may write, make memory or panic): one walk. -/
import Derived.Test.YtebkblmejkkhfaaGreatDoorLogSW
import Derived.Test.YtebkblmejkkhfaaGreatDoorSegMathW
import Derived.Test.YtebkblmejkkhfaaGreatDoorFrReadW
import Derived.Test.YtebkblmejkkhfaaGreatDoorSgMarkW
import Derived.Defers
import Derived.Recover
import Derived.Laws.AppendOwnNone
import Derived.WalkSmall
import Derived.Test.YtebkblmejkkhfaaGreatDoorMarkFW
import Derived.StillTail
namespace Go.Proofs.YtebkblmejkkhfaaGreatDoor
open Go.RowKit
set_option linter.unusedVariables false
set_option linter.unusedSimpArgs false
set_option maxRecDepth 1000000

/-- What l05Right answers. -/
def LogPostS (L : List Fil) (f m : Int) (w : World) (e : Ending) (w' : World) : Prop :=
  ∃ v, e = .returned (.tuple #[v, .bool (logB L f m)]) ∧ (logB L f m = true → OwnS w' w.heap.size v (allT L)) ∧ Below w.heap.size w w'
theorem logPostS_no {L : List Fil} {f m : Int} {w w' : World} {v : Value} (h : logB L f m = false) (hb : Below w.heap.size w w') : LogPostS L f m w (.returned (.tuple #[v, .bool false])) w' :=
  ⟨v, by rw [h], (fun e => by rw [h] at e; cases e), hb⟩
theorem logPostS_yes {L : List Fil} {f m : Int} {w w' : World} {v : Value} (h : logB L f m = true) (hO : OwnS w' w.heap.size v (allT L)) (hb : Below w.heap.size w w') : LogPostS L f m w (.returned (.tuple #[v, .bool true])) w' :=
  ⟨v, by rw [h], fun _ => hO, hb⟩
theorem logB_no {L : List Fil} {f m : Int} (h : ¬ (fsOK L = true ∧ numOK f m = true)) : logB L f m = false := by
  cases e : logB L f m with
  | false => rfl
  | true => exact absurd ⟨(logB_iff.1 e).1, (logB_iff.1 e).2.1⟩ h

set_option maxHeartbeats 8000000 in
theorem specLogR_any (A : Option Addr) (L : List Fil) (c : Nat) (f m : Int) (w : World) (hL : Fls w w.heap.size A L) (hf : (Lit.int .i64 f).wf = true) (hm : (Lit.int .i64 m).wf = true) :
    Calls Tryz.prog 115 #[segV (.slice A L.length c) f m] w (LogPostS L f m w) := by
  have hm64 := wf_i64 hm
  have hf64 := wf_i64 hf
  have hb0 : Below w.heap.size w (w.alloc (.cells #[.slice A L.length c, .int .i64 f, .int .i64 m] 61)) := (Below.refl _ _).alloc (Nat.le_refl _) _
  have k0 := Blk.fresh w 61 [.slice A L.length c, .int .i64 f, .int .i64 m]
  simp only [List.toArray] at k0
  have c0 := k0.cell (i := 0) rfl
  clear hf hm
  go_enter Tryz.func115, Tryz.ntmps115
  go_wp2_with (fail)
  generalize w.alloc (.cells #[.slice A L.length c, .int .i64 f, .int .i64 m] 61) = w1 at hb0 k0 c0 ⊢
  refine (specRight_any A L c w1 ((hL.below hb0 (Nat.le_refl _)).mono hb0.size)).mono ?_
  rintro e w2 ⟨rfl, hb2⟩
  have hw2 := hb0.trans (hb2.mono hb0.size)
  have q0 := k0.below hb2 k0.lt
  clear c0 k0 hb0 hb2
  have c0 := q0.cell (i := 0) rfl
  have c1 := q0.cell (i := 1) rfl
  have c2 := q0.cell (i := 2) rfl
  by_cases hok : fsOK L = true ∧ numOK f m = true
  · obtain ⟨hF, hN⟩ := hok
    obtain ⟨g1, g2, g3, g4, g5, g6⟩ := numOK_iff.1 hN
    have i1 : decide ((0 : Int) ≤ f ∧ f ≤ 900000) = true := by simp; omega
    have i2 : decide ((0 : Int) ≤ m ∧ m ≤ 60) = true := by simp; omega
    have d3 : (f % 4 != 0) = false := by simp [g3]
    have HG := Lib.hid (logB_spec hF hN)
    have HT := Lib.hid (fun W h => specTexts_any A L c f m W h hF hN)
    have I1 := Lib.hid i1
    have I2 := Lib.hid i2
    rw [hF]
    clear g3 i1 i2 hF hN
    go_wp2_with (go_at_call 93; refine (l03Is_seg _ _ _ _).mono ?_; rintro e w' ⟨rfl, rfl⟩; first | rw [I1.out] | rw [I2.out])
    refine (HT.out w2 ((hL.below hw2 (Nat.le_refl _)).mono hw2.size)).mono ?_
    rintro e w3 ⟨v, b, rfl, hiff, hown, hb3⟩
    have hw3 := hw2.trans (hb3.mono hw2.size)
    have q3 := q0.below hb3 q0.lt
    clear c0 c1 c2
    have c2 := q3.cell (i := 2) rfl
    have HIFF := Lib.hid hiff
    have HOWN := Lib.hid hown
    clear hiff hown
    cases b with
    | false =>
      have R : Hid (logB L f m = false) := Lib.hid (by
        cases e : logB L f m with
        | false => rfl
        | true => have := HIFF.out.2 ⟨(HG.out.1 e).1, (HG.out.1 e).2.1⟩; cases this)
      go_wp2_with (fail)
      go_quiet (fail)
      go_wp2
      exact bodyPost_ret (v := .tuple #[v, .bool false]) (by simp [results, Tryz.results115, go_sem]) rfl (logPostS_no R.out (below_drewN hw3 _))
    | true =>
      have hO := HOWN.out rfl
      obtain ⟨A3, d3', rfl⟩ := ownS_some hO
      by_cases hlen : ((allT L).length : Int) = m
      · have dl : (((allT L).length : Int) == m) = true := by simp [hlen]
        have R : Hid (logB L f m = true) := Lib.hid (HG.out.2 ⟨(HIFF.out.1 rfl).1, (HIFF.out.1 rfl).2, hlen⟩)
        clear hlen
        go_wp2_with (fail)
        go_quiet (fail)
        go_wp2
        exact bodyPost_ret (v := .tuple #[.slice A3 (allT L).length d3', .bool true]) (by simp [results, Tryz.results115, go_sem]) rfl (logPostS_yes R.out (ownS_base hO hw2.size) (below_drewN hw3 _))
      · have dl : (((allT L).length : Int) == m) = false := by simpa using hlen
        have R : Hid (logB L f m = false) := Lib.hid (by
          cases e : logB L f m with
          | false => rfl
          | true => exact absurd (HG.out.1 e).2.2 hlen)
        clear hlen
        go_wp2_with (fail)
        go_quiet (fail)
        go_wp2
        exact bodyPost_ret (v := .tuple #[.slice A3 (allT L).length d3', .bool false]) (by simp [results, Tryz.results115, go_sem]) rfl (logPostS_no R.out (below_drewN hw3 _))
  · have R := Lib.hid (logB_no hok)
    rcases Bool.eq_false_or_eq_true (fsOK L) with hF | hF
    · rw [hF]
      have hn : ¬ (0 ≤ f ∧ f ≤ 900000 ∧ f % 4 = 0 ∧ 0 ≤ m ∧ m ≤ 60 ∧ f + m ≤ 900000) := fun h => hok ⟨hF, numOK_iff.2 h⟩
      clear hok hF
      by_cases h1 : 0 ≤ f ∧ f ≤ 900000
      · have I1 := Lib.hid (show decide ((0 : Int) ≤ f ∧ f ≤ 900000) = true by simpa using h1)
        obtain ⟨h1, h1'⟩ := h1
        by_cases h3 : f % 4 = 0
        · have d3 : (f % 4 != 0) = false := by simp [h3]
          by_cases h4 : 0 ≤ m ∧ m ≤ 60
          · have I2 := Lib.hid (show decide ((0 : Int) ≤ m ∧ m ≤ 60) = true by simpa using h4)
            obtain ⟨h4, h5⟩ := h4
            have h6 : ¬ f + m ≤ 900000 := fun h => hn ⟨h1, h1', h3, h4, h5, h⟩
            clear hn h3
            go_wp2_with (go_at_call 93; refine (l03Is_seg _ _ _ _).mono ?_; rintro e w' ⟨rfl, rfl⟩; first | rw [I1.out] | rw [I2.out])
            exact bodyPost_ret (v := .tuple #[.slice none 0 0, .bool false]) (by simp [results, Tryz.results115, go_sem]) rfl (logPostS_no R.out hw2)
          · have I2 := Lib.hid (show decide ((0 : Int) ≤ m ∧ m ≤ 60) = false by simpa using h4)
            clear hn h3 h4
            go_wp2_with (go_at_call 93; refine (l03Is_seg _ _ _ _).mono ?_; rintro e w' ⟨rfl, rfl⟩; first | rw [I1.out] | rw [I2.out])
            exact bodyPost_ret (v := .tuple #[.slice none 0 0, .bool false]) (by simp [results, Tryz.results115, go_sem]) rfl (logPostS_no R.out hw2)
        · have d3 : (f % 4 != 0) = true := by simpa using h3
          clear hn h3
          go_wp2_with (go_at_call 93; refine (l03Is_seg _ _ _ _).mono ?_; rintro e w' ⟨rfl, rfl⟩; rw [I1.out])
          exact bodyPost_ret (v := .tuple #[.slice none 0 0, .bool false]) (by simp [results, Tryz.results115, go_sem]) rfl (logPostS_no R.out hw2)
      · have I1 := Lib.hid (show decide ((0 : Int) ≤ f ∧ f ≤ 900000) = false by simpa using h1)
        clear hn h1
        go_wp2_with (go_at_call 93; refine (l03Is_seg _ _ _ _).mono ?_; rintro e w' ⟨rfl, rfl⟩; rw [I1.out])
        exact bodyPost_ret (v := .tuple #[.slice none 0 0, .bool false]) (by simp [results, Tryz.results115, go_sem]) rfl (logPostS_no R.out hw2)
    · rw [hF]
      clear hok hF
      go_wp2
      exact bodyPost_ret (v := .tuple #[.slice none 0 0, .bool false]) (by simp [results, Tryz.results115, go_sem]) rfl (logPostS_no R.out hw2)
end Go.Proofs.YtebkblmejkkhfaaGreatDoor

namespace Go.Proofs.YtebkblmejkkhfaaGreatDoor
open Go.RowKit
set_option linter.unusedVariables false
set_option linter.unusedSimpArgs false
set_option maxRecDepth 1000000

/-- The error of an invalid segment, as the program's text lays it. -/
def Seg (w : World) : Prop := ∃ a : Addr, w.cell? ⟨5, 0, none⟩ = some (.iface 249 (.pointer (some a)))
theorem Seg.below {w w' : World} (h : Seg w) (hb : Below w.heap.size w w') : Seg w' := by
  obtain ⟨a, ha⟩ := h
  exact ⟨a, by rw [hb.cell (p := ⟨5, 0, none⟩) (World.block_lt_of_cell? w _ ha)]; exact ha⟩
/-- What an invalid segment ends a call with. -/
def Bad (e : Ending) : Prop := ∃ a : Addr, e = .panicked [{ v := .iface 249 (.pointer (some a)), recovered := false }]

theorem must_yes (w : World) : Calls Tryz.prog 146 #[.bool true] w fun e w' => e = .returned (.tuple #[]) ∧ w = w' := by
  go_enter Tryz.func146, Tryz.ntmps146
  go_wp2
  go_end0
  exact ⟨rfl, rfl⟩
theorem must_no (a : Addr) (w : World) (h : w.cell? ⟨5, 0, none⟩ = some (.iface 249 (.pointer (some a)))) : Calls Tryz.prog 146 #[.bool false] w fun e w' => e = .panicked [{ v := .iface 249 (.pointer (some a)), recovered := false }] ∧ w = w' := by
  go_enter Tryz.func146, Tryz.ntmps146
  go_wp2
  exact ⟨rfl, rfl, rfl⟩
/-- What readSegment returns. -/
abbrev sgmV (v : Value) (E : Nat) (s : ByteArray) : Value := .agg #[v, .int .i64 (E : Int), .bool ((E : Int) == (s.size : Int))]
set_option maxHeartbeats 2000000 in
theorem readSegment_ok (s : ByteArray) (n : Int) (w : World) (hs : s.size ≤ 20000) (h0 : 0 ≤ n) (h9 : n ≤ 900000) (h4 : n % 4 = 0) (hl : (frs s 0).length ≤ 4) (hH : Handle w) :
    Calls Tryz.prog 147 #[.string s, .int .i64 n] w fun e w' => ∃ v, e = .returned (sgmV v (endOf (frs s 0)) s) ∧ OwnS w' w.heap.size v ((frs s 0).map Prod.fst) ∧ Below w.heap.size w w' := by
  have hb0 : Below w.heap.size w (w.alloc (.cells #[.slice none 0 0, .int .i64 0, .bool false] 153)) := (Below.refl _ w).alloc (Nat.le_refl _) _
  have k0 := Blk.fresh w 153 [.slice none 0 0, .int .i64 0, .bool false]
  have HI := Lib.hid (implFramesRead_any s _ hs (Handle.below hH hb0))
  have d4 : (n % 4 == 0) = true := by simp [h4]
  have H4 := Lib.hid h4
  clear h4
  generalize hE : endOf (frs s 0) = E at HI ⊢
  obtain ⟨P, HP⟩ : ∃ P, Hid ((frs s 0).map Prod.fst = P) := ⟨_, Lib.hid rfl⟩
  have hl' : P.length ≤ 4 := by rw [← HP.out]; simpa using hl
  rw [HP.out] at HI ⊢
  have dl : decide ((P.length : Int) ≤ 4) = true := by simp; omega
  clear hl hE HP
  go_enter Tryz.func147, Tryz.ntmps147
  go_wp2_with (go_at_call 146; refine (must_yes _).mono ?_; rintro e w' ⟨rfl, rfl⟩)
  refine HI.out.mono ?_
  rintro e w1 ⟨v, rfl, hO, hb1⟩
  obtain ⟨A1, c1, rfl⟩ := ownS_some hO
  have hw1 := hb0.trans (hb1.mono hb0.size)
  have k1 := k0.below hb1 k0.lt
  have hz := hb1.size
  simp only [World.size_alloc] at hz
  have k2 := k1.alloc (.cells #[.slice A1 P.length c1, .int .i64 (E : Int), .int .i64 0] 177)
  have hw2 := hw1.alloc hw1.size (.cells #[.slice A1 P.length c1, .int .i64 (E : Int), .int .i64 0] 177)
  have hO2 : OwnS (w1.alloc (.cells #[.slice A1 P.length c1, .int .i64 (E : Int), .int .i64 0] 177)) _ _ _ := World.ownsRow.alloc hO (.cells #[.slice A1 P.length c1, .int .i64 (E : Int), .int .i64 0] 177)
  have k3 := Blk.fresh w1 177 [.slice A1 P.length c1, .int .i64 (E : Int), .int .i64 0]
  have x0 := k3.cell (i := 0) rfl
  have x1 := k3.cell (i := 1) rfl
  have y0 := k2.cell (i := 0) rfl
  have y1 := k2.cell (i := 1) rfl
  have y2 := k2.cell (i := 2) rfl
  have f0 := k2.froz 0
  have f1 := k2.froz 1
  have f2 := k2.froz 2
  clear hb0 k0 HI hb1 hO
  go_wp2_with (go_at_call 146; refine (must_yes _).mono ?_; rintro e w' ⟨rfl, rfl⟩)
  have r1 := ((k2.put 0 (.slice A1 P.length c1)).put 1 (.int .i64 (E : Int))).put 2 (.bool ((E : Int) == (s.size : Int)))
  have r2 := row_far (row_far (row_far hO2 (p := ⟨w.heap.size, 0, none⟩) (by simp) (.slice A1 P.length c1)) (p := ⟨w.heap.size, 1, none⟩) (by simp) (.int .i64 (E : Int))) (p := ⟨w.heap.size, 2, none⟩) (by simp) (.bool ((E : Int) == (s.size : Int)))
  have r3 := ((hw2.setCell (p := ⟨w.heap.size, 0, none⟩) (by simp) (.slice A1 P.length c1)).setCell (p := ⟨w.heap.size, 1, none⟩) (by simp) (.int .i64 (E : Int))).setCell (p := ⟨w.heap.size, 2, none⟩) (by simp) (.bool ((E : Int) == (s.size : Int)))
  generalize (((w1.alloc (.cells #[.slice A1 P.length c1, .int .i64 (E : Int), .int .i64 0] 177)).setCell ⟨w.heap.size, 0, none⟩ (.slice A1 P.length c1)).setCell ⟨w.heap.size, 1, none⟩ (.int .i64 (E : Int))).setCell ⟨w.heap.size, 2, none⟩ (.bool ((E : Int) == (s.size : Int))) = w9 at r1 r2 r3 ⊢
  have z0 := r1.cell (i := 0) rfl
  have z1 := r1.cell (i := 1) rfl
  have z2 := r1.cell (i := 2) rfl
  exact bodyPost_ret (v := sgmV (.slice A1 P.length c1) E s) (by simp [results, Tryz.results147, go_sem, z0, z1, z2]) rfl ⟨_, rfl, ownS_base r2 (by simp), r3⟩
set_option maxHeartbeats 2000000 in
theorem readSegment_bad (s : ByteArray) (n : Int) (w : World) (hs : s.size ≤ 20000) (h0 : 0 ≤ n) (h9 : n ≤ 900000) (h4 : n % 4 = 0) (hl : ¬ (frs s 0).length ≤ 4) (hH : Handle w) (hS : Seg w) :
    Calls Tryz.prog 147 #[.string s, .int .i64 n] w fun e w' => (∃ a : Addr, e = .panicked [{ v := .iface 249 (.pointer (some a)), recovered := false }]) ∧ Below w.heap.size w w' := by
  have hb0 : Below w.heap.size w (w.alloc (.cells #[.slice none 0 0, .int .i64 0, .bool false] 153)) := (Below.refl _ w).alloc (Nat.le_refl _) _
  have HI := Lib.hid (implFramesRead_any s _ hs (Handle.below hH hb0))
  have d4 : (n % 4 == 0) = true := by simp [h4]
  have H4 := Lib.hid h4
  clear h4
  generalize hE : endOf (frs s 0) = E at HI ⊢
  obtain ⟨P, HP⟩ : ∃ P, Hid ((frs s 0).map Prod.fst = P) := ⟨_, Lib.hid rfl⟩
  have hl' : 4 < P.length := by rw [← HP.out]; simpa using hl
  rw [HP.out] at HI
  have dl : decide ((P.length : Int) ≤ 4) = false := by simp; omega
  clear hl hE HP
  go_enter Tryz.func147, Tryz.ntmps147
  go_wp2_with (go_at_call 146; refine (must_yes _).mono ?_; rintro e w' ⟨rfl, rfl⟩)
  refine HI.out.mono ?_
  rintro e w1 ⟨v, rfl, hO, hb1⟩
  obtain ⟨A1, c1, rfl⟩ := ownS_some hO
  have hw1 := hb0.trans (hb1.mono hb0.size)
  have hw2 := hw1.alloc hw1.size (.cells #[.slice A1 P.length c1, .int .i64 (E : Int), .int .i64 0] 177)
  have k3 := Blk.fresh w1 177 [.slice A1 P.length c1, .int .i64 (E : Int), .int .i64 0]
  have x0 := k3.cell (i := 0) rfl
  obtain ⟨a, ha⟩ := hS.below hw2
  clear hb0 HI hb1 hO
  go_wp2_with (go_at_call 146; refine (must_no a _ ha).mono ?_; rintro e w' ⟨rfl, rfl⟩)
  have hB : Bad (.panicked [{ v := .iface 249 (.pointer (some a)), recovered := false }]) := ⟨a, rfl⟩
  exact ⟨rfl, ⟨a, rfl⟩, hw2⟩
/-- The numbers of a log. -/
theorem numbers_any (v : Value) (f m : Int) (w : World) (hf : (Lit.int .i64 f).wf = true) (hm : (Lit.int .i64 m).wf = true) :
    Calls Tryz.prog 145 #[segV v f m] w fun e w' => e = .returned (.bool (numOK f m)) ∧ Below w.heap.size w w' := by
  have a := wf_i64 hf
  have b := wf_i64 hm
  clear hf hm
  have hb0 : Below w.heap.size w (w.alloc (.cells #[v, .int .i64 f, .int .i64 m] 61)) := (Below.refl _ w).alloc (Nat.le_refl _) _
  cases hN : numOK f m with
  | true =>
    have h := numOK_iff.1 hN
    obtain ⟨h1, h2, h3, h4, h5, h6⟩ := h
    have d3 : (f % 4 == 0) = true := by simp [h3]
    have H3 := Lib.hid h3
    clear h3 hN
    go_enter Tryz.func145, Tryz.ntmps145
    go_wp2
    go_ret
    exact ⟨retB (by simp [h1, h2, h4, h5, h6]), hb0⟩
  | false =>
    have hn : ¬ (0 ≤ f ∧ f ≤ 900000 ∧ f % 4 = 0 ∧ 0 ≤ m ∧ m ≤ 60 ∧ f + m ≤ 900000) := fun h => by rw [numOK_iff.2 h] at hN; cases hN
    clear hN
    by_cases h1 : 0 ≤ f
    · by_cases h2 : f ≤ 900000
      · by_cases h3 : f % 4 = 0
        · have d3 : (f % 4 == 0) = true := by simp [h3]
          have H3 := Lib.hid h3
          by_cases h4 : 0 ≤ m
          · by_cases h5 : m ≤ 60
            · have h6 : ¬ f + m ≤ 900000 := fun h => hn ⟨h1, h2, h3, h4, h5, h⟩
              clear hn h3
              go_enter Tryz.func145, Tryz.ntmps145
              go_wp2
              go_ret
              exact ⟨retB (by simp [h1, h2, h4, h5, h6]), hb0⟩
            · clear hn h3
              go_enter Tryz.func145, Tryz.ntmps145
              go_wp2
              go_ret
              exact ⟨retB (by simp [h1, h2, h4, h5]), hb0⟩
          · clear hn h3
            go_enter Tryz.func145, Tryz.ntmps145
            go_wp2
            go_ret
            exact ⟨retB (by simp [h1, h2, h4]), hb0⟩
        · have d3 : (f % 4 == 0) = false := by simpa using h3
          clear hn h3
          go_enter Tryz.func145, Tryz.ntmps145
          go_wp2
          go_ret
          exact ⟨retB (by simp [h1, h2]), hb0⟩
      · clear hn
        go_enter Tryz.func145, Tryz.ntmps145
        go_wp2
        go_ret
        exact ⟨retB (by simp [h1, h2]), hb0⟩
    · clear hn
      go_enter Tryz.func145, Tryz.ntmps145
      go_wp2
      go_ret
      exact ⟨retB (by simp [h1]), hb0⟩
end Go.Proofs.YtebkblmejkkhfaaGreatDoor

namespace Go.Proofs.YtebkblmejkkhfaaGreatDoor
open Go.RowKit
set_option linter.unusedVariables false
section
variable {P : Program} {ops : Array Oper} {md : Region.Mode} {C : World → Prop}

/-- Whatever order the head is taken in. -/
def headAny (P : Program) (md : Region.Mode) (ops : Array Oper) (C : World → Prop) (n : Nat) (L : Array Bool → Act → Prop) : Nat → Array Bool → Act → Prop
  | 0, ls, a => L ls a
  | f + 1, ls, a => Region.ready md ops ls ≠ [] ∧ ∀ i ∈ Region.ready md ops ls, i < n ∧ qOp P ops C i (headAny P md ops C n L f (ls.setIfInBounds i true)) a
theorem any_of_headAny {n g : Nat} {L : Array Bool → Act → Prop} {Q : Exit → Act → World → Prop} (hL : ∀ ls a w, C w → L ls a → wpAny P md ops Q g ls a w) :
    ∀ (f : Nat) (ls : Array Bool) (a : Act) (w : World), C w → headAny P md ops C n L f ls a → wpAny P md ops Q (f + g) ls a w := by
  intro f
  induction f with
  | zero => intro ls a w hC h; rw [Nat.zero_add]; exact hL _ _ _ hC h
  | succ f ih =>
    intro ls a w hC h
    have e : f + 1 + g = (f + g) + 1 := by omega
    rw [e]
    exact ⟨fun h0 => absurd h0 h.1, fun i hi => wpOp_of_qOp hC (fun a' w' hw' h' => ih _ a' w' hw' h') (h.2 i hi).2⟩
theorem headAny_first {n i : Nat} {oi : Oper} {v : Value} {L : Array Bool → Act → Prop} (hi : ops[i]? = some oi) (hsel : ∀ (j : Nat) (o : Oper) cs b, ops[j]? = some o → o.op ≠ .select cs b)
    (hs : Region.sinkB md ops n = true) (hc : Region.chainB md ops n = true) (hn : n < ops.size) (hin : i < n) (hdone : ∀ ls a, L ls a → ∀ j ∈ Region.ready md ops ls, n ≤ j) :
    ∀ (f : Nat) (ls : Array Bool) (a : Act), HeadInv md ops n ls →
      (∀ j oj, ops[j]? = some oj → j ≠ i → ls.getD j true = false → (∀ e ∈ oj.after, Region.binds md e = true → e.on ≠ i) → oi.apart ops oj = true) →
      i ∈ Region.ready md ops ls → YieldsIn P ops C oi v a → headAny P md ops C n L f (ls.setIfInBounds i true) (a.put oi.dst v) → headAny P md ops C n L (f + 1) ls a := by
  intro f
  induction f with
  | zero =>
    intro ls a inv _ hr hy H
    have hun := (mem_ready.1 hr).1
    refine ⟨List.ne_nil_of_mem hr, fun j hj => ?_⟩
    have hjn : j < n := Nat.lt_of_not_le fun h => tail_waits hs hc hn inv _ i rfl hin hun j h hj
    refine ⟨hjn, ?_⟩
    by_cases hji : j = i
    · subst hji; exact hy.qOp hi H
    · exact absurd (hdone _ _ H j (ready_mono hj hji)) (by omega)
  | succ f ih =>
    intro ls a inv hfree hr hy H
    have hun := (mem_ready.1 hr).1
    refine ⟨List.ne_nil_of_mem hr, fun j hj => ?_⟩
    have hjn : j < n := Nat.lt_of_not_le fun h => tail_waits hs hc hn inv _ i rfl hin hun j h hj
    refine ⟨hjn, ?_⟩
    by_cases hji : j = i
    · subst hji; exact hy.qOp hi H
    · obtain ⟨hjun, oj, hoj, hall⟩ := mem_ready.1 hj
      have hnot : ∀ e ∈ oj.after, Region.binds md e = true → e.on ≠ i := fun e he hb heq => by
        have h1 := hall e he hb
        rw [heq, getD_both hun] at h1
        cases h1
      have h2 := qOp_put hoj (hfree j oj hoj hji hjun hnot) (fun cs b => hsel i oi cs b hi) (fun cs b => hsel j oj cs b hoj) hy (H.2 j (ready_mono hj hji)).2
      refine qOp_mono (fun a' h3 => ih (ls.setIfInBounds j true) a' (inv.set hj hjn) (fun k ok hk hki hun' hno => hfree k ok hk hki ?_ hno) (ready_mono hr (Ne.symm hji)) h3.1 ?_) h2
      · by_cases hjk : j = k
        · subst hjk; exact hjun
        · rw [getD_set_ne true hjk] at hun'; exact hun'
      · rw [Array.setIfInBounds_comm _ _ hji]
        exact h3.2
theorem headAny_lex {n g : Nat} {Lq : Act → Prop} (hsel : Region.noSelect ops = true) (hs : Region.sinkB md ops n = true) (hc : Region.chainB md ops n = true) (hn : n < ops.size) :
    ∀ (l : List Oper) (k : Nat) (ls : Array Bool) (a : Act), (∀ j, j < l.length → l[j]? = ops[k + j]?) → k + l.length = n → HeadInv md ops n ls →
    Region.lexHead md ops g l.length k ls = true → wpQuiet P ops C Lq l a → headAny P md ops C n (fun ls' a' => Region.seqB md ops g n ls' = true ∧ Lq a') l.length ls a := by
  intro l
  induction l with
  | nil =>
    intro k ls a _ hk _ hB h
    obtain rfl : k = n := by simpa using hk
    exact ⟨by simpa [Region.lexHead] using hB, h⟩
  | cons o l ih =>
    intro k ls a hl hk inv hB h
    have h0 : ops[k]? = some o := by simpa using (hl 0 (by simp)).symm
    simp only [List.length_cons, Region.lexHead, Bool.and_eq_true] at hB
    obtain ⟨⟨hr, hf⟩, hB'⟩ := hB
    simp only [List.length_cons] at hk
    have hr' : k ∈ Region.ready md ops ls := by simpa using hr
    have hst : qOp P ops C k (wpQuiet P ops C Lq l) a := by unfold qOp; simp only [h0]; exact h
    obtain ⟨v, hy, hK⟩ := yieldsIn_of_qOp h0 hst
    refine headAny_first h0 (Region.noSelect_spec hsel) hs hc hn (by omega) (fun ls' a' hL => seqB_ready hL.1) l.length ls a inv (Region.free_spec h0 hf) hr' hy (ih (k + 1) _ _ (fun j hj => ?_) (by omega) (inv.set hr' (by omega)) hB' hK)
    have := hl (j + 1) (by simp; omega)
    simpa [Nat.add_assoc, Nat.add_comm 1 j] using this
theorem wp_region_class_tail {id : Nat} {Q : Exit → Act → World → Prop} {a : Act} {w : World} {l : List Oper} (n : Nat) (hm : P.follows .mixedOrders = true) (hB : Region.lexTailB .any l.toArray n = true) (hC : C w.drew)
    (h : wpQuiet P l.toArray C (fun a' => ∀ w', C w' → wpList P l.toArray Q (l.drop n) a' w') (l.take n) a) : (Code.region id l.toArray true).wp P Q a w := by
  simp only [Region.lexTailB, Bool.and_eq_true, decide_eq_true_eq] at hB
  obtain ⟨⟨⟨⟨hsel, hn⟩, hs⟩, hc⟩, hlex⟩ := hB
  have hn' : n < l.length := by simpa using hn
  have htl : (l.take n).length = n := by simp; omega
  have hdl : (l.drop n).length = l.toArray.size - n := by simp
  have inv0 : HeadInv .any l.toArray n (Array.replicate l.toArray.size false) :=
    ⟨by simp, fun j oj _ hl => (by rw [getD_replicate_false] at hl; cases hl), fun t _ ht => getD_in (by simpa using ht) (getD_replicate_false _ _)⟩
  have H := headAny_lex (C := C) (md := .any) (g := l.toArray.size - n) hsel hs hc hn (l.take n) 0 _ a (fun j hj => by
    have hj' : j < n := by rw [htl] at hj; exact hj
    simp [hj']) (by simpa using htl) inv0 (by rw [htl]; exact hlex) h
  refine wp_region_any hm ?_
  have := any_of_headAny (Q := Q) (g := l.toArray.size - n) (fun ls a' w' hw' hL => by
    have := wpAny_of_seq (md := .any) (Q' := Q) (l.drop n) n ls a' w' (fun j => by simp [List.getElem?_drop]) (by rw [hdl]; exact hL.1) (hL.2 w' hw')
    rwa [hdl] at this) _ _ _ w.drew hC H
  rw [htl, show n + (l.toArray.size - n) = l.toArray.size by omega] at this
  exact this
end
end Go.Proofs.YtebkblmejkkhfaaGreatDoor
