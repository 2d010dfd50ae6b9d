/- The contracts of TopicEnd. The walk of the law on TopicRight. -/
import Derived.Test.YtjmmffhndecikaaTpRSW
import Derived.Test.YtjmmffhndecikaaTpToW
import Derived.Test.YtjmmffhndecikaaCloneW
import Derived.Test.YtjmmffhndecikaaTpArgW
import Derived.Deep.RegionHeld3
namespace Go.Proofs.Ytjmmffhndecikaa
open Go.RowKit
set_option linter.unusedVariables false
set_option maxRecDepth 1000000
/-- TopicEnd. -/
noncomputable def endT (t : Tpc) : Int := if topB t then t.base + t.held.length else 0
set_option maxHeartbeats 2000000 in
theorem specTopicEnd_any (t : Tpc) (A : Option Addr) (c : Nat) (B : Option Addr) (d : Nat) (w : World) (hf : t.fits) (hA : Strs w w.heap.size A t.held) (hB : Grs w w.heap.size B t.groups) :
    Calls Try.prog 21 #[topV t.name t.base (.slice A t.held.length c) (.slice B t.groups.length d)] w fun e w' => e = .returned (.int .i64 (endT t)) ∧ Below w.heap.size w w' := by
  have hK := Blk.fresh w 26 [.string t.name, .int .i64 t.base, .slice A t.held.length c, .slice B t.groups.length d]
  have hb0 := below_box w (.cells #[.string t.name, .int .i64 t.base, .slice A t.held.length c, .slice B t.groups.length d] 26)
  simp only [List.toArray] at hK
  have TR := Lib.hid (fun W (h : Below w.heap.size w W) => specTopicRight_any t A c B d W hf (hA.on h) (hB.on h))
  have HE : Hid (∀ r, topB t = r → endT t = if r then t.base + t.held.length else 0) := Lib.hid fun r h => by unfold endT; rw [h]
  have HO := Lib.hid (topB_iff (t := t))
  obtain ⟨nm, bs, H, G⟩ := t
  simp only at hK hb0 TR HE ⊢
  generalize endT ⟨nm, bs, H, G⟩ = E at HE ⊢
  rcases Bool.eq_false_or_eq_true (topB ⟨nm, bs, H, G⟩) with hT | hT
  · have ho := HO.out.1 hT
    have hbs := inB_true ho.2.1
    have hl := ho.2.2.1
    have hE := Lib.hid (HE.out _ hT)
    have EN := Lib.hid (l07End_any nm bs A H.length c (.slice B G.length d) (by simp only at hl; omega) hbs.1 hbs.2 rfl)
    rw [hT] at TR
    clear ho hl HO
    go_enter Try.func21, Try.ntmps21
    go_wp2_with (fail)
    generalize w.alloc (.cells #[.string nm, .int .i64 bs, .slice A H.length c, .slice B G.length d] 26) = w3 at hK hb0 ⊢
    refine (TR.out _ hb0).mono ?_
    rintro e w1 ⟨rfl, hb1⟩
    have k1 := hK.below hb1 hK.lt
    have c0 := k1.cell (i := 0) rfl
    have c1 := k1.cell (i := 1) rfl
    have c2 := k1.cell (i := 2) rfl
    have c3 := k1.cell (i := 3) rfl
    have hw1 := hb0.trans (hb1.mono hb0.size)
    go_wp2_with (go_at_call 59; refine (EN.out _).mono ?_; rintro e w2 ⟨rfl, hb2⟩)
    go_ret
    exact ⟨by rw [hE.out]; rfl, hw1.trans (hb2.mono hw1.size)⟩
  · rw [hT] at TR
    have hE := Lib.hid (HE.out _ hT)
    go_enter Try.func21, Try.ntmps21
    go_wp2_with (fail)
    generalize w.alloc (.cells #[.string nm, .int .i64 bs, .slice A H.length c, .slice B G.length d] 26) = w3 at hK hb0 ⊢
    refine (TR.out _ hb0).mono ?_
    rintro e w1 ⟨rfl, hb1⟩
    have hw1 := hb0.trans (hb1.mono hb0.size)
    go_wp2
    go_ret
    exact ⟨by rw [hE.out]; rfl, hw1⟩
set_option maxHeartbeats 2000000 in
theorem implTopicEnd_any (t : Tpc) (A : Option Addr) (c : Nat) (B : Option Addr) (d : Nat) (w : World) (hf : t.fits) (hA : Strs w w.heap.size A t.held) (hB : Grs w w.heap.size B t.groups) :
    Calls Try.prog 20 #[topV t.name t.base (.slice A t.held.length c) (.slice B t.groups.length d)] w fun e w' => e = .returned (.int .i64 (endT t)) ∧ Below w.heap.size w w' := by
  have hK := Blk.fresh w 26 [.string t.name, .int .i64 t.base, .slice A t.held.length c, .slice B t.groups.length d]
  have hb0 := below_box w (.cells #[.string t.name, .int .i64 t.base, .slice A t.held.length c, .slice B t.groups.length d] 26)
  simp only [List.toArray] at hK
  have TR := Lib.hid (fun W (h : Below w.heap.size w W) => implTopicRight_any t A c B d W hf (hA.on h) (hB.on h))
  have HE : Hid (∀ r, topB t = r → endT t = if r then t.base + t.held.length else 0) := Lib.hid fun r h => by unfold endT; rw [h]
  have HO := Lib.hid (topB_iff (t := t))
  obtain ⟨nm, bs, H, G⟩ := t
  simp only at hK hb0 TR HE ⊢
  generalize endT ⟨nm, bs, H, G⟩ = E at HE ⊢
  rcases Bool.eq_false_or_eq_true (topB ⟨nm, bs, H, G⟩) with hT | hT
  · have ho := HO.out.1 hT
    have hbs := inB_true ho.2.1
    have hl := ho.2.2.1
    have hE := Lib.hid (HE.out _ hT)
    have EN := Lib.hid (endOf_any nm bs A H.length c (.slice B G.length d) (by simp only at hl; omega) hbs.1 hbs.2 rfl)
    rw [hT] at TR
    clear ho hl HO
    go_enter Try.func20, Try.ntmps20
    go_wp2_with (fail)
    generalize w.alloc (.cells #[.string nm, .int .i64 bs, .slice A H.length c, .slice B G.length d] 26) = w3 at hK hb0 ⊢
    refine (TR.out _ hb0).mono ?_
    rintro e w1 ⟨rfl, hb1⟩
    have k1 := hK.below hb1 hK.lt
    have c0 := k1.cell (i := 0) rfl
    have c1 := k1.cell (i := 1) rfl
    have c2 := k1.cell (i := 2) rfl
    have c3 := k1.cell (i := 3) rfl
    have hw1 := hb0.trans (hb1.mono hb0.size)
    go_wp2_with (go_at_call 61; refine (EN.out _).mono ?_; rintro e w2 ⟨rfl, hb2⟩)
    go_ret
    exact ⟨by rw [hE.out]; rfl, hw1.trans (hb2.mono hw1.size)⟩
  · rw [hT] at TR
    have hE := Lib.hid (HE.out _ hT)
    go_enter Try.func20, Try.ntmps20
    go_wp2_with (fail)
    generalize w.alloc (.cells #[.string nm, .int .i64 bs, .slice A H.length c, .slice B G.length d] 26) = w3 at hK hb0 ⊢
    refine (TR.out _ hb0).mono ?_
    rintro e w1 ⟨rfl, hb1⟩
    have hw1 := hb0.trans (hb1.mono hb0.size)
    go_wp2
    go_ret
    exact ⟨by rw [hE.out]; rfl, hw1⟩
theorem bothTopicRight (t : Tpc) (hf : t.fits) (hs : t.small) : ∃ r : Bool,
    (∀ A c B d W, Strs W W.heap.size A t.held → Grs W W.heap.size B t.groups → t.held.length ≤ c → c ≤ maxLen → t.groups.length ≤ d → d ≤ maxLen → Calls Try.prog 23 #[topV t.name t.base (.slice A t.held.length c) (.slice B t.groups.length d)] W fun e w' => e = .returned (.bool r) ∧ Below W.heap.size W w') ∧
    (∀ A c B d W, Strs W W.heap.size A t.held → Grs W W.heap.size B t.groups → t.held.length ≤ c → c ≤ maxLen → t.groups.length ≤ d → d ≤ maxLen → Calls Try.prog 22 #[topV t.name t.base (.slice A t.held.length c) (.slice B t.groups.length d)] W fun e w' => e = .returned (.bool r) ∧ Below W.heap.size W w') :=
  ⟨topB t, fun A c B d W h1 h2 _ _ _ _ => specTopicRight_any t A c B d W hf h1 h2, fun A c B d W h1 h2 _ _ _ _ => implTopicRight_any t A c B d W hf h1 h2⟩
theorem bothTopicEnd (t : Tpc) (hf : t.fits) (hs : t.small) : ∃ r : Int,
    (∀ A c B d W, Strs W W.heap.size A t.held → Grs W W.heap.size B t.groups → t.held.length ≤ c → c ≤ maxLen → t.groups.length ≤ d → d ≤ maxLen → Calls Try.prog 21 #[topV t.name t.base (.slice A t.held.length c) (.slice B t.groups.length d)] W fun e w' => e = .returned (.int .i64 r) ∧ Below W.heap.size W w') ∧
    (∀ A c B d W, Strs W W.heap.size A t.held → Grs W W.heap.size B t.groups → t.held.length ≤ c → c ≤ maxLen → t.groups.length ≤ d → d ≤ maxLen → Calls Try.prog 20 #[topV t.name t.base (.slice A t.held.length c) (.slice B t.groups.length d)] W fun e w' => e = .returned (.int .i64 r) ∧ Below W.heap.size W w') :=
  ⟨endT t, fun A c B d W h1 h2 _ _ _ _ => specTopicEnd_any t A c B d W hf h1 h2, fun A c B d W h1 h2 _ _ _ _ => implTopicEnd_any t A c B d W hf h1 h2⟩
end Go.Proofs.Ytjmmffhndecikaa

namespace Go.Proofs.Ytjmmffhndecikaa
open Go.RowKit
set_option linter.unusedVariables false

set_option maxHeartbeats 8000000 in
set_option maxRecDepth 1000000 in
theorem lawTopicRight (t : Tpc) (A : Option Addr) (c : Nat) (B : Option Addr) (d : Nat) (w : World) (hf : t.fits) (hA : Strs w w.heap.size A t.held) (hB : Grs w w.heap.size B t.groups) :
    Calls Try.prog 7 #[topV t.name t.base (.slice A t.held.length c) (.slice B t.groups.length d)] w fun e w' => e = .returned (.bool true) ∧ Below w.heap.size w w' := by
  obtain ⟨nm, bs, H, G⟩ := t
  simp only at hA hB ⊢
  have HA : Hid (∀ W, Below w.heap.size w W → Strs W W.heap.size A H) := Lib.hid fun W h => hA.on h
  have HB : Hid (∀ W, Below w.heap.size w W → Grs W W.heap.size B G) := Lib.hid fun W h => hB.on h
  have hB0 := Blk.fresh w 51 [.string nm, .int .i64 bs, .slice A H.length c, .slice B G.length d]
  have hb0 : Below w.heap.size w (w.alloc (.cells #[.string nm, .int .i64 bs, .slice A H.length c, .slice B G.length d] 51)) := (Below.refl _ _).alloc (Nat.le_refl _) _
  have hz0 : (w.alloc (.cells #[.string nm, .int .i64 bs, .slice A H.length c, .slice B G.length d] 51)).heap.size = w.heap.size + 1 := by simp
  simp only [List.toArray] at hB0
  go_enter Try.func7, Try.ntmps7
  have q0 := hB0.cell (i := 0) rfl
  have q1 := hB0.cell (i := 1) rfl
  have q2 := hB0.cell (i := 2) rfl
  have q3 := hB0.cell (i := 3) rfl
  go_wp2_with (fail)
  clear q0 q1 q2 q3
  generalize w.alloc (.cells #[.string nm, .int .i64 bs, .slice A H.length c, .slice B G.length d] 51) = v0 at hB0 hb0 hz0 ⊢
  refine (szTopic_any ⟨nm, bs, H, G⟩ A c B d _ hf (HA.out _ hb0) (HB.out _ hb0)).mono ?_
  rintro e v1 ⟨r, rfl, r0, r1, hS, hb1⟩
  have hz1 := hb1.size
  have hB1 := hB0.below hb1 (by omega)
  have hw1 := hb0.trans (hb1.mono (by omega))
  clear hB0
  by_cases hr : r < 0
  · go_wp2
    go_ret
    exact ⟨rfl, hw1⟩
  · have hS' := hS (by omega)
    have hnH : H.length ≤ 1048576 := hS'.2.1.1
    have hnG : G.length ≤ 1048576 := hS'.2.2.1
    obtain ⟨r9, hsp, him⟩ := bothTopicRight ⟨nm, bs, H, G⟩ hf hS'
    have Sp := Lib.hid hsp
    have Im := Lib.hid him
    clear hsp him
    have chB0 := hB1.cell (i := 0) rfl
    have chB1 := hB1.cell (i := 1) rfl
    have chB2 := hB1.cell (i := 2) rfl
    have chB3 := hB1.cell (i := 3) rfl
    go_wp2_with (fail)
    refine (toTopic_any ⟨nm, bs, H, G⟩ A c B d _ hS' (HA.out _ hw1) (HB.out _ hw1)).mono ?_
    rintro e v2 ⟨g2, c2, h2, d2, rfl, TS2, TG2, _, hb2⟩
    have hz2 := hb2.size
    have hB2 := hB1.below hb2 hB1.lt
    have hw2 := hw1.trans (hb2.mono hw1.size)
    clear hB1
    clear chB0 chB1 chB2 chB3
    go_wp2_with (fail)
    refine (Sp.out _ _ _ _ _ TS2.strs TG2.grs (Rw.capL TS2).1 (Rw.capL TS2).2 (Rw.capL TG2).1 (Rw.capL TG2).2).mono ?_
    rintro e v3 ⟨rfl, hb3⟩
    have hz3 := hb3.size
    have hB3 := hB2.below hb3 hB2.lt
    have TS3 := TS2.below hb3
    have TG3 := TG2.below hb3
    have hw3 := hw2.trans (hb3.mono hw2.size)
    clear hB2 TS2 TG2
    clear TS3 TG3
    have chB0 := hB3.cell (i := 0) rfl
    have chB1 := hB3.cell (i := 1) rfl
    have chB2 := hB3.cell (i := 2) rfl
    have chB3 := hB3.cell (i := 3) rfl
    go_wp2_with (fail)
    refine (toTopic_any ⟨nm, bs, H, G⟩ A c B d _ hS' (HA.out _ hw3) (HB.out _ hw3)).mono ?_
    rintro e v4 ⟨g4, c4, h4, d4, rfl, XS4, XG4, _, hb4⟩
    have hz4 := hb4.size
    have hB4 := hB3.below hb4 hB3.lt
    have hw4 := hw3.trans (hb4.mono hw3.size)
    clear hB3
    clear chB0 chB1 chB2 chB3
    have hP5 := Blk.fresh v4 26 [.string nm, .int .i64 bs, .slice (some ⟨g4, 0, none⟩) H.length c4, .slice (some ⟨h4, 0, none⟩) G.length d4]
    replace hP5 : Blk (v4.alloc (.cells #[.string nm, .int .i64 bs, .slice (some ⟨g4, 0, none⟩) H.length c4, .slice (some ⟨h4, 0, none⟩) G.length d4] 26)) v4.heap.size 26 [.string nm, .int .i64 bs, .slice (some ⟨g4, 0, none⟩) H.length c4, .slice (some ⟨h4, 0, none⟩) G.length d4] := hP5
    have hb5 : Below v4.heap.size v4 (v4.alloc (.cells #[.string nm, .int .i64 bs, .slice (some ⟨g4, 0, none⟩) H.length c4, .slice (some ⟨h4, 0, none⟩) G.length d4] 26)) := (Below.refl _ _).alloc (Nat.le_refl _) _
    have hs5 : (v4.alloc (.cells #[.string nm, .int .i64 bs, .slice (some ⟨g4, 0, none⟩) H.length c4, .slice (some ⟨h4, 0, none⟩) G.length d4] 26)).heap.size = v4.heap.size + 1 := by simp
    have qq0 := hP5.cell (i := 0) rfl
    have qq1 := hP5.cell (i := 1) rfl
    have qq2 := hP5.cell (i := 2) rfl
    have qq3 := hP5.cell (i := 3) rfl
    go_wp2_with (fail)
    clear qq0 qq1 qq2 qq3
    generalize v4.alloc (.cells #[.string nm, .int .i64 bs, .slice (some ⟨g4, 0, none⟩) H.length c4, .slice (some ⟨h4, 0, none⟩) G.length d4] 26) = v5 at hP5 hb5 hs5 ⊢
    have hz5 := hb5.size
    have hB5 := hB4.below hb5 hB4.lt
    have XS5 := XS4.below hb5
    have XG5 := XG4.below hb5
    have hw5 := hw4.trans (hb5.mono hw4.size)
    clear hB4 XS4 XG4
    have chP0 := hP5.cell (i := 0) rfl
    have chP1 := hP5.cell (i := 1) rfl
    have chP2 := hP5.cell (i := 2) rfl
    have chP3 := hP5.cell (i := 3) rfl
    go_wp2_with (fail)
    refine (Im.out _ _ _ _ _ XS5.strs XG5.grs (Rw.capL XS5).1 (Rw.capL XS5).2 (Rw.capL XG5).1 (Rw.capL XG5).2).mono ?_
    rintro e v6 ⟨rfl, hb6⟩
    have hz6 := hb6.size
    have hB6 := hB5.below hb6 hB5.lt
    have hP6 := hP5.below hb6 hP5.lt
    have XS6 := XS5.below hb6
    have XG6 := XG5.below hb6
    have hw6 := hw5.trans (hb6.mono hw5.size)
    clear hB5 hP5 XS5 XG5
    clear chP0 chP1 chP2 chP3
    have chB0 := hB6.cell (i := 0) rfl
    have chB1 := hB6.cell (i := 1) rfl
    have chB2 := hB6.cell (i := 2) rfl
    have chB3 := hB6.cell (i := 3) rfl
    have chP0 := hP6.cell (i := 0) rfl
    have chP1 := hP6.cell (i := 1) rfl
    have chP2 := hP6.cell (i := 2) rfl
    have chP3 := hP6.cell (i := 3) rfl
    go_wp2_with (fail)
    have z0 : v6.drew.cell? ⟨w.heap.size, 0, none⟩ = some (.string nm) := chB0
    have z1 : v6.drew.cell? ⟨w.heap.size, 1, none⟩ = some (.int .i64 bs) := chB1
    have z2 : v6.drew.cell? ⟨w.heap.size, 2, none⟩ = some (.slice A H.length c) := chB2
    have z3 : v6.drew.cell? ⟨w.heap.size, 3, none⟩ = some (.slice B G.length d) := chB3
    have z4 : v6.drew.cell? ⟨v4.heap.size, 0, none⟩ = some (.string nm) := chP0
    have z5 : v6.drew.cell? ⟨v4.heap.size, 1, none⟩ = some (.int .i64 bs) := chP1
    have z6 : v6.drew.cell? ⟨v4.heap.size, 2, none⟩ = some (.slice (some ⟨g4, 0, none⟩) H.length c4) := chP2
    have z7 : v6.drew.cell? ⟨v4.heap.size, 3, none⟩ = some (.slice (some ⟨h4, 0, none⟩) G.length d4) := chP3
    have XSd : Rw v6.drew v3.heap.size v4.heap.size 9 1 (.slice (some ⟨g4, 0, none⟩) H.length c4) H.length (H.map Value.string) := XS6
    have XGd : Rw v6.drew v3.heap.size v4.heap.size 47 2 (.slice (some ⟨h4, 0, none⟩) G.length d4) G.length (gflat G) := XG6
    go_region_held3 (fun W => W.cell? ⟨w.heap.size, 0, none⟩ = some (.string nm) ∧ W.cell? ⟨w.heap.size, 1, none⟩ = some (.int .i64 bs) ∧ W.cell? ⟨w.heap.size, 2, none⟩ = some (.slice A H.length c) ∧ W.cell? ⟨w.heap.size, 3, none⟩ = some (.slice B G.length d) ∧ W.cell? ⟨v4.heap.size, 0, none⟩ = some (.string nm) ∧ W.cell? ⟨v4.heap.size, 1, none⟩ = some (.int .i64 bs) ∧ W.cell? ⟨v4.heap.size, 2, none⟩ = some (.slice (some ⟨g4, 0, none⟩) H.length c4) ∧ W.cell? ⟨v4.heap.size, 3, none⟩ = some (.slice (some ⟨h4, 0, none⟩) G.length d4))
      (first
        | with_reducible exact ⟨z0, z1, z2, z3, z4, z5, z6, z7⟩
        | with_reducible exact ⟨kept_cell hb7 z0, kept_cell hb7 z1, kept_cell hb7 z2, kept_cell hb7 z3, kept_cell hb7 z4, kept_cell hb7 z5, kept_cell hb7 z6, kept_cell hb7 z7⟩
        | with_reducible exact ⟨kept_cell hb8 (kept_cell hb7 z0), kept_cell hb8 (kept_cell hb7 z1), kept_cell hb8 (kept_cell hb7 z2), kept_cell hb8 (kept_cell hb7 z3), kept_cell hb8 (kept_cell hb7 z4), kept_cell hb8 (kept_cell hb7 z5), kept_cell hb8 (kept_cell hb7 z6), kept_cell hb8 (kept_cell hb7 z7)⟩)
      (first
        | (go_at_call 42; (with_reducible refine (toTopic_any ⟨nm, bs, H, G⟩ A c B d _ hS' (HA.out _ (below_drew hw6)) (HB.out _ (below_drew hw6))).mono ?_); rintro e v7 ⟨g7, c7, h7, d7, rfl, hF7, hG7, _, hb7⟩)
        | (go_at_call 43; (with_reducible refine (eqTopic_same nm bs _ _ _ _ H G _ _ _ _ v7 (XSd.below hb7).strs hF7.strs (XGd.below hb7).grs hG7.grs).mono ?_); rintro e v8 ⟨rfl, hb8⟩))
    have hbz : Below v6.heap.size v6 v8 := (below_drew (Below.refl _ v6)).trans ((hb7.trans (hb8.mono hb7.size)).mono (Nat.le_refl _))
    clear chB0 chB1 chB2 chB3 chP0 chP1 chP2 chP3
    clear z0 z1 z2 z3 z4 z5 z6 z7 XSd XGd hF7 hG7
    have hz8 := hbz.size
    have hB8 := hB6.below hbz hB6.lt
    have hP8 := hP6.below hbz hP6.lt
    have XS8 := XS6.below hbz
    have XG8 := XG6.below hbz
    have hw8 := hw6.trans (hbz.mono hw6.size)
    clear hB6 hP6 XS6 XG6
    go_wp2
    go_ret
    exact ⟨rfl, hw8⟩
end Go.Proofs.Ytjmmffhndecikaa
