/- The contracts of TopicEnd. -/
import Derived.Test.YtdehpdmgoaopfaaTpRS
import Derived.Test.YtdehpdmgoaopfaaTpSz
import Derived.Test.YtdehpdmgoaopfaaTpRT
namespace Go.Proofs.Ytdehpdmgoaopfaa
open Go.RowKit
set_option linter.unusedVariables false
set_option maxRecDepth 1000000
/-- TopicEnd. -/
noncomputable def endT (t : Tpc) : Int := if topB t then t.base + t.held.length else 0
set_option maxHeartbeats 2000000 in
theorem specTopicEnd_any (t : Tpc) (A : Option Addr) (c : Nat) (B : Option Addr) (d : Nat) (w : World) (hf : t.fits) (hA : Strs w w.heap.size A t.held) (hB : Grs w w.heap.size B t.groups) :
    Calls Try.prog 21 #[topV t.name t.base (.slice A t.held.length c) (.slice B t.groups.length d)] w fun e w' => e = .returned (.int .i64 (endT t)) ∧ Below w.heap.size w w' := by
  have hK := Blk.fresh w 26 [.string t.name, .int .i64 t.base, .slice A t.held.length c, .slice B t.groups.length d]
  have hb0 := below_box w (.cells #[.string t.name, .int .i64 t.base, .slice A t.held.length c, .slice B t.groups.length d] 26)
  simp only [List.toArray] at hK
  have TR := Lib.hid (fun W (h : Below w.heap.size w W) => specTopicRight_any t A c B d W hf (hA.on h) (hB.on h))
  have HE : Hid (∀ r, topB t = r → endT t = if r then t.base + t.held.length else 0) := Lib.hid fun r h => by unfold endT; rw [h]
  have HO := Lib.hid (topB_iff (t := t))
  obtain ⟨nm, bs, H, G⟩ := t
  simp only at hK hb0 TR HE ⊢
  generalize endT ⟨nm, bs, H, G⟩ = E at HE ⊢
  rcases Bool.eq_false_or_eq_true (topB ⟨nm, bs, H, G⟩) with hT | hT
  · have ho := HO.out.1 hT
    have hbs := inB_true ho.2.1
    have hl := ho.2.2.1
    have hE := Lib.hid (HE.out _ hT)
    have EN := Lib.hid (l07End_any nm bs A H.length c (.slice B G.length d) (by simp only at hl; omega) hbs.1 hbs.2 rfl)
    rw [hT] at TR
    clear ho hl HO
    go_enter Try.func21, Try.ntmps21
    go_wp2_with (fail)
    generalize w.alloc (.cells #[.string nm, .int .i64 bs, .slice A H.length c, .slice B G.length d] 26) = w3 at hK hb0 ⊢
    refine (TR.out _ hb0).mono ?_
    rintro e w1 ⟨rfl, hb1⟩
    have k1 := hK.below hb1 hK.lt
    have c0 := k1.cell (i := 0) rfl
    have c1 := k1.cell (i := 1) rfl
    have c2 := k1.cell (i := 2) rfl
    have c3 := k1.cell (i := 3) rfl
    have hw1 := hb0.trans (hb1.mono hb0.size)
    go_wp2_with (go_at_call 59; refine (EN.out _).mono ?_; rintro e w2 ⟨rfl, hb2⟩)
    go_ret
    exact ⟨by rw [hE.out]; rfl, hw1.trans (hb2.mono hw1.size)⟩
  · rw [hT] at TR
    have hE := Lib.hid (HE.out _ hT)
    go_enter Try.func21, Try.ntmps21
    go_wp2_with (fail)
    generalize w.alloc (.cells #[.string nm, .int .i64 bs, .slice A H.length c, .slice B G.length d] 26) = w3 at hK hb0 ⊢
    refine (TR.out _ hb0).mono ?_
    rintro e w1 ⟨rfl, hb1⟩
    have hw1 := hb0.trans (hb1.mono hb0.size)
    go_wp2
    go_ret
    exact ⟨by rw [hE.out]; rfl, hw1⟩
set_option maxHeartbeats 2000000 in
theorem implTopicEnd_any (t : Tpc) (A : Option Addr) (c : Nat) (B : Option Addr) (d : Nat) (w : World) (hf : t.fits) (hA : Strs w w.heap.size A t.held) (hB : Grs w w.heap.size B t.groups) :
    Calls Try.prog 20 #[topV t.name t.base (.slice A t.held.length c) (.slice B t.groups.length d)] w fun e w' => e = .returned (.int .i64 (endT t)) ∧ Below w.heap.size w w' := by
  have hK := Blk.fresh w 26 [.string t.name, .int .i64 t.base, .slice A t.held.length c, .slice B t.groups.length d]
  have hb0 := below_box w (.cells #[.string t.name, .int .i64 t.base, .slice A t.held.length c, .slice B t.groups.length d] 26)
  simp only [List.toArray] at hK
  have TR := Lib.hid (fun W (h : Below w.heap.size w W) => implTopicRight_any t A c B d W hf (hA.on h) (hB.on h))
  have HE : Hid (∀ r, topB t = r → endT t = if r then t.base + t.held.length else 0) := Lib.hid fun r h => by unfold endT; rw [h]
  have HO := Lib.hid (topB_iff (t := t))
  obtain ⟨nm, bs, H, G⟩ := t
  simp only at hK hb0 TR HE ⊢
  generalize endT ⟨nm, bs, H, G⟩ = E at HE ⊢
  rcases Bool.eq_false_or_eq_true (topB ⟨nm, bs, H, G⟩) with hT | hT
  · have ho := HO.out.1 hT
    have hbs := inB_true ho.2.1
    have hl := ho.2.2.1
    have hE := Lib.hid (HE.out _ hT)
    have EN := Lib.hid (endOf_any nm bs A H.length c (.slice B G.length d) (by simp only at hl; omega) hbs.1 hbs.2 rfl)
    rw [hT] at TR
    clear ho hl HO
    go_enter Try.func20, Try.ntmps20
    go_wp2_with (fail)
    generalize w.alloc (.cells #[.string nm, .int .i64 bs, .slice A H.length c, .slice B G.length d] 26) = w3 at hK hb0 ⊢
    refine (TR.out _ hb0).mono ?_
    rintro e w1 ⟨rfl, hb1⟩
    have k1 := hK.below hb1 hK.lt
    have c0 := k1.cell (i := 0) rfl
    have c1 := k1.cell (i := 1) rfl
    have c2 := k1.cell (i := 2) rfl
    have c3 := k1.cell (i := 3) rfl
    have hw1 := hb0.trans (hb1.mono hb0.size)
    go_wp2_with (go_at_call 61; refine (EN.out _).mono ?_; rintro e w2 ⟨rfl, hb2⟩)
    go_ret
    exact ⟨by rw [hE.out]; rfl, hw1.trans (hb2.mono hw1.size)⟩
  · rw [hT] at TR
    have hE := Lib.hid (HE.out _ hT)
    go_enter Try.func20, Try.ntmps20
    go_wp2_with (fail)
    generalize w.alloc (.cells #[.string nm, .int .i64 bs, .slice A H.length c, .slice B G.length d] 26) = w3 at hK hb0 ⊢
    refine (TR.out _ hb0).mono ?_
    rintro e w1 ⟨rfl, hb1⟩
    have hw1 := hb0.trans (hb1.mono hb0.size)
    go_wp2
    go_ret
    exact ⟨by rw [hE.out]; rfl, hw1⟩
theorem bothTopicRight (t : Tpc) (hf : t.fits) (hs : t.small) : ∃ r : Bool,
    (∀ A c B d W, Strs W W.heap.size A t.held → Grs W W.heap.size B t.groups → t.held.length ≤ c → c ≤ maxLen → t.groups.length ≤ d → d ≤ maxLen → Calls Try.prog 23 #[topV t.name t.base (.slice A t.held.length c) (.slice B t.groups.length d)] W fun e w' => e = .returned (.bool r) ∧ Below W.heap.size W w') ∧
    (∀ A c B d W, Strs W W.heap.size A t.held → Grs W W.heap.size B t.groups → t.held.length ≤ c → c ≤ maxLen → t.groups.length ≤ d → d ≤ maxLen → Calls Try.prog 22 #[topV t.name t.base (.slice A t.held.length c) (.slice B t.groups.length d)] W fun e w' => e = .returned (.bool r) ∧ Below W.heap.size W w') :=
  ⟨topB t, fun A c B d W h1 h2 _ _ _ _ => specTopicRight_any t A c B d W hf h1 h2, fun A c B d W h1 h2 _ _ _ _ => implTopicRight_any t A c B d W hf h1 h2⟩
theorem bothTopicEnd (t : Tpc) (hf : t.fits) (hs : t.small) : ∃ r : Int,
    (∀ A c B d W, Strs W W.heap.size A t.held → Grs W W.heap.size B t.groups → t.held.length ≤ c → c ≤ maxLen → t.groups.length ≤ d → d ≤ maxLen → Calls Try.prog 21 #[topV t.name t.base (.slice A t.held.length c) (.slice B t.groups.length d)] W fun e w' => e = .returned (.int .i64 r) ∧ Below W.heap.size W w') ∧
    (∀ A c B d W, Strs W W.heap.size A t.held → Grs W W.heap.size B t.groups → t.held.length ≤ c → c ≤ maxLen → t.groups.length ≤ d → d ≤ maxLen → Calls Try.prog 20 #[topV t.name t.base (.slice A t.held.length c) (.slice B t.groups.length d)] W fun e w' => e = .returned (.int .i64 r) ∧ Below W.heap.size W w') :=
  ⟨endT t, fun A c B d W h1 h2 _ _ _ _ => specTopicEnd_any t A c B d W hf h1 h2, fun A c B d W h1 h2 _ _ _ _ => implTopicEnd_any t A c B d W hf h1 h2⟩
end Go.Proofs.Ytdehpdmgoaopfaa
