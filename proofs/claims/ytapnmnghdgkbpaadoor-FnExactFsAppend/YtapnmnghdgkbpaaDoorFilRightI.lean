/- The contract of impl.FsRight. -/
import Derived.Test.YtapnmnghdgkbpaaDoorFilRight
import Derived.Test.YtapnmnghdgkbpaaDoorKept
namespace Go.Proofs.YtapnmnghdgkbpaaDoor
open Go.RowKit
set_option linter.unusedVariables false

set_option maxHeartbeats 1000000 in
theorem fileRight_any (f : Fil) (w : World) (hf : f.fits) : Calls Tryd.prog 134 #[f.val] w fun e w' => e = .returned (.bool (okF f)) ∧ Below w.heap.size w w' := by
  obtain ⟨s0, s1, k⟩ := f
  obtain ⟨q0, q1, q2, q3⟩ := hf
  simp only at q0 q1 q2 q3
  have q1' := q1
  unfold maxLen at q1
  unfold Fil.val
  simp only
  rcases Bool.eq_false_or_eq_true (nameB s0) with hN | hN
  · have NR : ∀ W, Calls Tryd.prog 125 #[.string s0] W fun e w' => e = .returned (.bool true) ∧ W = w' := fun W => by have := implNameRight_any s0 W q0; rw [hN] at this; exact this
    by_cases h1 : s1.size ≤ 3000
    · by_cases h2 : 0 ≤ k
      · by_cases h3 : k ≤ s1.size
        all_goals
          go_enter Tryd.func134, Tryd.ntmps134
          go_wp2_with (go_at_call 125; refine (NR _).mono ?_; rintro e w' ⟨rfl, rfl⟩)
          go_ret
          exact ⟨retB (by simp [okF, hN]; omega), (Below.refl _ _).alloc (Nat.le_refl _) _⟩
      · go_enter Tryd.func134, Tryd.ntmps134
        go_wp2_with (go_at_call 125; refine (NR _).mono ?_; rintro e w' ⟨rfl, rfl⟩)
        go_ret
        exact ⟨by simp [okF, hN]; omega, (Below.refl _ _).alloc (Nat.le_refl _) _⟩
    · go_enter Tryd.func134, Tryd.ntmps134
      go_wp2_with (go_at_call 125; refine (NR _).mono ?_; rintro e w' ⟨rfl, rfl⟩)
      go_ret
      exact ⟨by simp [okF, hN]; omega, (Below.refl _ _).alloc (Nat.le_refl _) _⟩
  · have NR : ∀ W, Calls Tryd.prog 125 #[.string s0] W fun e w' => e = .returned (.bool false) ∧ W = w' := fun W => by have := implNameRight_any s0 W q0; rw [hN] at this; exact this
    go_enter Tryd.func134, Tryd.ntmps134
    go_wp2_with (go_at_call 125; refine (NR _).mono ?_; rintro e w' ⟨rfl, rfl⟩)
    go_ret
    exact ⟨by simp [okF, hN], (Below.refl _ _).alloc (Nat.le_refl _) _⟩

set_option maxHeartbeats 4000000 in
set_option maxRecDepth 1000000 in
theorem implRight_any (A : Option Addr) (L : List Fil) (c : Nat) (w : World) (hL : Fls w w.heap.size A L) :
    Calls Tryd.prog 124 #[.agg #[.slice A L.length c]] w fun e w' => e = .returned (.bool (fsOK L)) ∧ Below w.heap.size w w' := by
  have hn := hL.1
  unfold maxLen at hn
  have hB0 := Blk.fresh w 50 [.slice A L.length c]
  by_cases h12 : L.length ≤ 12
  · go_enter Tryd.func124, Tryd.ntmps124
    go_wp2
    go_loopw [3, 4, 12] (fun _ _ i wr => ∃ k : Nat, k ≤ L.length ∧ i = .int .i64 k ∧ (∀ j (h : j < L.length), j < k → okIn L j h) ∧ Blk wr w.heap.size 50 [.slice A L.length c] ∧ Below w.heap.size w wr) (fun _ _ i _ => L.length - (intOf i).toNat)
    case atStart => exact ⟨0, by omega, rfl, fun j _ h => by omega, hB0, (Below.refl _ _).alloc (Nat.le_refl _) _⟩
    case round =>
      obtain ⟨k, hk, rfl, hok, hB, hb⟩ := hrel
      have b0 := hB.cell (i := 0) rfl
      by_cases hlt : k < L.length
      · obtain ⟨a, rfl, hab, c0, c1, c2, hff⟩ := (hL.below hb (Nat.le_refl _)).at k hlt
        have hW := Blk.fresh wr 84 [.string L[k].name, .string L[k].data, .int .i64 L[k].sync]
        have hB3 := hB.alloc (.cells #[.string L[k].name, .string L[k].data, .int .i64 L[k].sync] 84)
        have hb3 := hb.alloc hb.size (.cells #[.string L[k].name, .string L[k].data, .int .i64 L[k].sync] 84)
        have hp : ∀ q, (h : q + 1 = k) → (wr.alloc (.cells #[.string L[k].name, .string L[k].data, .int .i64 L[k].sync] 84)).cell? (a.add (q * 3)) = some (.string (L[q]'(by omega)).name) := by
          intro q h
          obtain ⟨a', e, _, h2, _⟩ := (hL.below hb3 (Nat.le_refl _)).at q (by omega)
          cases e
          exact h2
        go_wp2
        generalize wr.alloc (.cells #[.string L[k].name, .string L[k].data, .int .i64 L[k].sync] 84) = w3 at hW hB3 hb3 hp ⊢
        have x0 := hW.cell (i := 0) rfl
        have x1 := hW.cell (i := 1) rfl
        have x2 := hW.cell (i := 2) rfl
        have y0 := hB3.cell (i := 0) rfl
        clear c0 c1 c2 b0
        have hnot : ∀ e : okF L[k] = false, fsOK L = false := fun e => fsOK_at hlt (fun h => by rw [h.1] at e; cases e)
        obtain ⟨I, f, hf⟩ := class_of (fun W => Blk W wr.heap.size 84 [.string L[k].name, .string L[k].data, .int .i64 L[k].sync] ∧ Blk W w.heap.size 50 [.slice (some a) L.length c] ∧ Below w.heap.size w W)
        have g0 : ∀ s, (f s).cell? ⟨wr.heap.size, 0, none⟩ = some (.string L[k].name) := fun s => ((hf _).1 ⟨s, rfl⟩).1.cell rfl
        have g1 : ∀ s, (f s).cell? ⟨wr.heap.size, 1, none⟩ = some (.string L[k].data) := fun s => ((hf _).1 ⟨s, rfl⟩).1.cell rfl
        have g2 : ∀ s, (f s).cell? ⟨wr.heap.size, 2, none⟩ = some (.int .i64 L[k].sync) := fun s => ((hf _).1 ⟨s, rfl⟩).1.cell rfl
        have g3 : ∀ s, (f s).cell? ⟨w.heap.size, 0, none⟩ = some (.slice (some a) L.length c) := fun s => ((hf _).1 ⟨s, rfl⟩).2.1.cell rfl
        have g4 : ∀ s q, (h : q + 1 = k) → (f s).cell? (a.add (q * 3)) = some (.string (L[q]'(by omega)).name) := by
          intro s q h
          obtain ⟨a', e, _, h2, _⟩ := (hL.below ((hf _).1 ⟨s, rfl⟩).2.2 (Nat.le_refl _)).at q (by omega)
          cases e
          exact h2
        have g5 : ∃ s, w3.drew = f s := (hf _).2 ⟨hW.drew, hB3.drew, below_drew hb3⟩
        have g6 : ∀ s W', Below (f s).heap.size (f s) W' → ∃ s', W' = f s' := fun s W' h => by
          obtain ⟨h1, h2, h3⟩ := (hf _).1 ⟨s, rfl⟩
          exact (hf _).2 ⟨h1.below h h1.lt, h2.below h h2.lt, h3.trans (h.mono h3.size)⟩
        haveI : Nonempty I := ⟨g5.choose⟩
        have HF := Lib.hid hf
        clear hf x0 x1 x2 y0
        rcases Bool.eq_false_or_eq_true (okF L[k]) with hN | hN
        · have FR : ∀ W, Calls Tryd.prog 134 #[.agg #[.string L[k].name, .string L[k].data, .int .i64 L[k].sync]] W fun e w' => e = .returned (.bool true) ∧ Below W.heap.size W w' := fun W => by have := fileRight_any L[k] W hff; rw [hN] at this; exact this
          by_cases hk0 : 0 < k
          · obtain ⟨q, hq⟩ : ∃ q, q + 1 = k := ⟨k - 1, by omega⟩
            have p0 : ∀ s, (f s).cell? (a.add (q * 3)) = some (.string (L[q]'(by omega)).name) := fun s => g4 s q hq
            have hd : decide ((0 : Int) < (k : Int)) = true := by simp; omega
            have e1 : IntKind.i64.wrap ((k : Int) - 1) = (q : Int) := by rw [IntWalk.i64_in _ (by omega)]; omega
            have e2 : (q : Int) < (L.length : Int) := by omega
            have hql : q < L.length := by omega
            clear hp g4
            rcases Bool.eq_false_or_eq_true (Op.bytesLess L[q].name.toList L[k].name.toList) with hl | hl
            · skip
              refine wp_region_kept f (by kernel_rfl) (by kernel_rfl) g5 ?_
              repeat (first
                | go_big_quiet_skip
                | (go_big_quiet_want; go_big_quiet_op; first | go_big_quiet_on | (apply Exists.intro; refine ⟨fun s => ?_, ?_⟩; (go_at_call 134; refine (FR _).mono ?_; rintro e w4 ⟨rfl, hb4⟩; exact ⟨rfl, g6 _ _ hb4⟩); go_big_quiet_on)))
              refine wpQuiet_nil ?_
              intro w5 h5
              obtain ⟨_, hB5, hb5⟩ := (HF.out _).1 h5
              go_wp2
              refine ⟨⟨k + 1, by omega, by go_num, fun j hj hjk => ?_, hB5, hb5⟩, by simp [intOf]; omega⟩
              by_cases e : j = k
              · subst e
                exact ⟨hN, okIn_less hq hlt hql hl⟩
              · exact hok j hj (by omega)
            · have R := Lib.hid (fsOK_at hlt (not_okIn_less hq hlt hql hl))
              refine wp_region_kept f (by kernel_rfl) (by kernel_rfl) g5 ?_
              repeat (first
                | go_big_quiet_skip
                | (go_big_quiet_want; go_big_quiet_op; first | go_big_quiet_on | (apply Exists.intro; refine ⟨fun s => ?_, ?_⟩; (go_at_call 134; refine (FR _).mono ?_; rintro e w4 ⟨rfl, hb4⟩; exact ⟨rfl, g6 _ _ hb4⟩); go_big_quiet_on)))
              refine wpQuiet_nil ?_
              intro w5 h5
              obtain ⟨_, hB5, hb5⟩ := (HF.out _).1 h5
              go_wp2
              go_ret
              exact ⟨by rw [R.out]; rfl, hb5⟩
          · have hd : decide ((0 : Int) < (k : Int)) = false := by simp; omega
            clear hp g4
            refine wp_region_kept f (by kernel_rfl) (by kernel_rfl) g5 ?_
            repeat (first
              | go_big_quiet_skip
              | (go_big_quiet_want; go_big_quiet_op; first | go_big_quiet_on | (apply Exists.intro; refine ⟨fun s => ?_, ?_⟩; (go_at_call 134; refine (FR _).mono ?_; rintro e w4 ⟨rfl, hb4⟩; exact ⟨rfl, g6 _ _ hb4⟩); go_big_quiet_on)))
            refine wpQuiet_nil ?_
            intro w5 h5
            obtain ⟨_, hB5, hb5⟩ := (HF.out _).1 h5
            go_wp2
            refine ⟨⟨k + 1, by omega, by go_num, fun j hj hjk => ?_, hB5, hb5⟩, by simp [intOf]; omega⟩
            by_cases e : j = k
            · subst e
              exact ⟨hN, fun h => absurd h hk0⟩
            · exact hok j hj (by omega)
        · have FR : ∀ W, Calls Tryd.prog 134 #[.agg #[.string L[k].name, .string L[k].data, .int .i64 L[k].sync]] W fun e w' => e = .returned (.bool false) ∧ Below W.heap.size W w' := fun W => by have := fileRight_any L[k] W hff; rw [hN] at this; exact this
          have R := Lib.hid (hnot hN)
          refine wp_region_kept f (by kernel_rfl) (by kernel_rfl) g5 ?_
          repeat (first
            | go_big_quiet_skip
            | (go_big_quiet_want; go_big_quiet_op; first | go_big_quiet_on | (apply Exists.intro; refine ⟨fun s => ?_, ?_⟩; (go_at_call 134; refine (FR _).mono ?_; rintro e w4 ⟨rfl, hb4⟩; exact ⟨rfl, g6 _ _ hb4⟩); go_big_quiet_on)))
          refine wpQuiet_nil ?_
          intro w5 h5
          obtain ⟨_, hB5, hb5⟩ := (HF.out _).1 h5
          go_wp2
          go_ret
          exact ⟨by rw [R.out]; rfl, hb5⟩
      · obtain rfl : k = L.length := by omega
        have R := Lib.hid (fsOK_true h12 fun i h => hok i h h)
        go_wp2
        go_ret
        exact ⟨by rw [R.out]; rfl, hb⟩
  · have R := Lib.hid (fsOK_big h12)
    go_enter Tryd.func124, Tryd.ntmps124
    go_wp2
    go_ret
    exact ⟨by rw [R.out]; rfl, (Below.refl _ _).alloc (Nat.le_refl _) _⟩
end Go.Proofs.YtapnmnghdgkbpaaDoor
