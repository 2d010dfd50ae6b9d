/- Rows of strings as the laws on draws compare them; bytes below a call. What the promises' laws do with topics: lwGroups, lwTopic, lwTopics. The contract of tooLong. The contracts of TopicEnd. -/
import Derived.Test.YtjnbhppnchmeoaaStrArgW
import Derived.Test.YtjnbhppnchmeoaaDrawW
import Derived.Test.YtjnbhppnchmeoaaTpOpDW
import Derived.Test.YtjnbhppnchmeoaaTpPubSW
import Derived.Laws.StructEq
import Derived.Test.YtjnbhppnchmeoaaTpSzW
import Derived.Test.YtjnbhppnchmeoaaTpRTW
namespace Go.Proofs.Ytjnbhppnchmeoaa
open Go.RowKit
set_option linter.unusedVariables false
set_option maxRecDepth 1000000

theorem bts_below {w w' : World} {A : Option Addr} {n : Nat} (h : Bts w w.heap.size A n) (hb : Below w.heap.size w w') : Bts w' w'.heap.size A n :=
  ⟨h.1, fun i hi => by
    obtain ⟨a, x, e, h1, h2, h3⟩ := h.2 i hi
    refine ⟨a, x, e, Nat.lt_of_lt_of_le h1 hb.size, ?_, h3⟩
    rw [hb.cell (p := a.add i) (by rw [add_block]; exact h1)]; exact h2⟩

set_option maxHeartbeats 2000000 in
theorem lwTexts_same (A B : Option Addr) (L : List ByteArray) (c d : Nat) (w : World) (hA : Strs w w.heap.size A L) (hB : Strs w w.heap.size B L) :
    Calls Try.prog 19 #[.slice A L.length c, .slice B L.length d] w fun e w' => e = .returned (.bool true) ∧ ∃ n, w' = w.drewN n := by
  have hn := hA.1
  unfold maxLen at hn
  go_enter Try.func19, Try.ntmps19
  go_wp2
  go_loopw [5] (fun i wr => ∃ k m : Nat, k ≤ L.length ∧ i = .int .i64 k ∧ wr = w.drewN m) (fun i _ => L.length - (intOf i).toNat)
  case atStart => exact ⟨0, 0, by omega, rfl, rfl⟩
  case round =>
    obtain ⟨k, m, hk, rfl, rfl⟩ := hrel
    by_cases hlt : k < L.length
    · obtain ⟨a, rfl, hab, a0⟩ := hA.2 k hlt
      obtain ⟨b, rfl, hbb, b0⟩ := hB.2 k hlt
      have hlt' : (k : Int) < (L.length : Int) := by omega
      go_wp2
      go_quiet (fail)
      go_wp2
      exact ⟨⟨k + 1, _, by omega, by go_num, rfl⟩, by simp [intOf]; omega⟩
    · obtain rfl : k = L.length := by omega
      go_wp2
      go_ret
      exact ⟨rfl, m, rfl⟩
theorem lwTexts_n (A B : Option Addr) (L : List ByteArray) (n c d : Nat) (w : World) (hn : L.length = n) (hA : Strs w w.heap.size A L) (hB : Strs w w.heap.size B L) :
    Calls Try.prog 19 #[.slice A n c, .slice B n d] w fun e w' => e = .returned (.bool true) ∧ ∃ n, w' = w.drewN n := by subst hn; exact lwTexts_same A B L c d w hA hB

end Go.Proofs.Ytjnbhppnchmeoaa

namespace Go.Proofs.Ytjnbhppnchmeoaa
open Go.RowKit
set_option linter.unusedVariables false
set_option maxRecDepth 1000000

theorem eqGp (a : ByteArray) (z : Int) (w : World) : (Op.equalIn 10000 94 (.agg #[.string a, .int .i64 z]) (.agg #[.string a, .int .i64 z])).run Try.prog w = .ok true w := by
  have u2 := Try.underlying2
  have u9 := Try.underlying9
  have hS : Try.prog.underlying 94 = some (.struct (Try.prog.fieldsOf 94)) := by kernel_rfl
  have hp : Try.prog.stoodInHeld 94 = false := by kernel_rfl
  rw [show (10000 : Nat) = 9999 + 1 from rfl, run_equalIn_agg w 9999 94 _ _ hS hp]
  simp only [Program.fieldsOf, Try.underlying94]
  go_simp
set_option maxHeartbeats 2000000 in
theorem lwGroups_same (A B : Option Addr) (L : List Grp) (c d : Nat) (w : World) (hA : Grs w w.heap.size A L) (hB : Grs w w.heap.size B L) :
    Calls Try.prog 20 #[.slice A L.length c, .slice B L.length d] w fun e w' => e = .returned (.bool true) ∧ Below w.heap.size w w' := by
  have hn := hA.1
  unfold maxLen at hn
  have heg : Try.prog.eqGuardType Try.prog.depth 94 = false := by kernel_rfl
  go_enter Try.func20, Try.ntmps20
  go_wp2
  go_loopw [5] (fun i wr => ∃ k : Nat, k ≤ L.length ∧ i = .int .i64 k ∧ Below w.heap.size w wr) (fun i _ => L.length - (intOf i).toNat)
  case atStart => exact ⟨0, by omega, rfl, Below.refl _ _⟩
  case round =>
    obtain ⟨k, hk, rfl, hb⟩ := hrel
    by_cases hlt : k < L.length
    · have hlt' : (k : Int) < (L.length : Int) := by omega
      obtain ⟨a, rfl, hab, c0, c1⟩ := (hA.below hb (Nat.le_refl _)).at k hlt
      obtain ⟨a', rfl, hab', d0, d1⟩ := (hB.below hb (Nat.le_refl _)).at k hlt
      have hq := fun W => eqGp L[k].name L[k].acked W
      go_wp2
      go_quiet (fail)
      go_wp2
      exact ⟨⟨k + 1, by omega, by go_num, below_drewN hb _⟩, by simp [intOf]; omega⟩
    · obtain rfl : k = L.length := by omega
      go_wp2
      go_ret
      exact ⟨rfl, hb⟩
set_option maxHeartbeats 2000000 in
theorem lwTopic_same (t : Tpc) (A B C D : Option Addr) (a b c d : Nat) (w : World) (hA : Strs w w.heap.size A t.held) (hB : Grs w w.heap.size B t.groups) (hC : Strs w w.heap.size C t.held) (hD : Grs w w.heap.size D t.groups) :
    Calls Try.prog 57 #[topV t.name t.base (.slice A t.held.length a) (.slice B t.groups.length b), topV t.name t.base (.slice C t.held.length c) (.slice D t.groups.length d)] w fun e w' => e = .returned (.bool true) ∧ Below w.heap.size w w' := by
  obtain ⟨nm, bs, H, G⟩ := t
  simp only at hA hB hC hD ⊢
  have h0 := (Blk.fresh w 26 [.string nm, .int .i64 bs, .slice A H.length a, .slice B G.length b]).alloc (.cells #[.string nm, .int .i64 bs, .slice C H.length c, .slice D G.length d] 26)
  have h1 := Blk.fresh (w.alloc (.cells #[.string nm, .int .i64 bs, .slice A H.length a, .slice B G.length b] 26)) 26 [.string nm, .int .i64 bs, .slice C H.length c, .slice D G.length d]
  have hb0 : Below w.heap.size w ((w.alloc (.cells #[.string nm, .int .i64 bs, .slice A H.length a, .slice B G.length b] 26)).alloc (.cells #[.string nm, .int .i64 bs, .slice C H.length c, .slice D G.length d] 26)) := ((Below.refl _ w).alloc (Nat.le_refl _) _).alloc (by simp) _
  simp only [List.toArray, World.size_alloc] at h0 h1
  have LT := Lib.hid (fun W (h : Below w.heap.size w W) => lwTexts_n A C H H.length a c W rfl (hA.on h) (hC.on h))
  have LG := Lib.hid (fun W (h : Below w.heap.size w W) => lwGroups_same B D G b d W (hB.on h) (hD.on h))
  clear hA hB hC hD
  have x0 := h0.cell (i := 0) rfl
  have x1 := h0.cell (i := 1) rfl
  have x2 := h0.cell (i := 2) rfl
  have z0 := h1.cell (i := 0) rfl
  have z1 := h1.cell (i := 1) rfl
  have z2 := h1.cell (i := 2) rfl
  go_enter Try.func57, Try.ntmps57
  go_wp2_with (fail)
  clear x0 x1 x2 z0 z1 z2
  generalize (w.alloc (.cells #[.string nm, .int .i64 bs, .slice A H.length a, .slice B G.length b] 26)).alloc (.cells #[.string nm, .int .i64 bs, .slice C H.length c, .slice D G.length d] 26) = v0 at h0 h1 hb0 ⊢
  refine (LT.out _ hb0).mono ?_
  rintro e w1 ⟨rfl, m, rfl⟩
  have x3 := (h0.drewN m).cell (i := 3) rfl
  have z3 := (h1.drewN m).cell (i := 3) rfl
  have hb1 := below_drewN hb0 m
  go_wp2_with (fail)
  refine (LG.out _ hb1).mono ?_
  rintro e w2 ⟨rfl, hb2⟩
  go_wp2
  go_ret
  exact ⟨rfl, hb1.trans (hb2.mono hb1.size)⟩
set_option maxHeartbeats 4000000 in
theorem lwTopics_same (R : Ans) (A B C D S T : Option Addr) (a b c d x y : Nat) (w : World) (hA : Strs w w.heap.size A R.o.held) (hB : Grs w w.heap.size B R.o.groups) (hC : Strs w w.heap.size C R.o.held) (hD : Grs w w.heap.size D R.o.groups) (hS : Strs w w.heap.size S R.texts) (hT : Strs w w.heap.size T R.texts) (hok : R.code = 0 → topOK R.o) (hf : R.o.fits) :
    Calls Try.prog 13 #[outV R.o.name R.o.base (.slice A R.o.held.length a) (.slice B R.o.groups.length b) (.slice S R.texts.length x) R.n R.code, outV R.o.name R.o.base (.slice C R.o.held.length c) (.slice D R.o.groups.length d) (.slice T R.texts.length y) R.n R.code] w fun e w' => e = .returned (.bool true) ∧ Below w.heap.size w w' := by
  obtain ⟨t, N, n, co⟩ := R
  simp only at hA hB hC hD hS hT hok hf ⊢
  have LX := Lib.hid (fun W (h : Below w.heap.size w W) => lwTexts_n S T N N.length x y W rfl (hS.on h) (hT.on h))
  have LP := Lib.hid (fun W (h : Below w.heap.size w W) => lwTopic_same t A B C D a b c d W (hA.on h) (hB.on h) (hC.on h) (hD.on h))
  have TR := Lib.hid (fun W (h : Below w.heap.size w W) => specTopicRight_any t A a B b W hf (hA.on h) (hB.on h))
  clear hA hB hC hD hS hT
  have HK := Lib.hid (fun h : co = 0 => topB_true (hok h))
  obtain ⟨nm, bs, H, G⟩ := t
  simp only at LP TR HK ⊢
  have h0 := (Blk.fresh w 30 [.string nm, .int .i64 bs, .slice A H.length a, .slice B G.length b, .slice S N.length x, .int .i64 n, .int .i64 co]).alloc (.cells #[.string nm, .int .i64 bs, .slice C H.length c, .slice D G.length d, .slice T N.length y, .int .i64 n, .int .i64 co] 30)
  have h1 := Blk.fresh (w.alloc (.cells #[.string nm, .int .i64 bs, .slice A H.length a, .slice B G.length b, .slice S N.length x, .int .i64 n, .int .i64 co] 30)) 30 [.string nm, .int .i64 bs, .slice C H.length c, .slice D G.length d, .slice T N.length y, .int .i64 n, .int .i64 co]
  have hb0 : Below w.heap.size w ((w.alloc (.cells #[.string nm, .int .i64 bs, .slice A H.length a, .slice B G.length b, .slice S N.length x, .int .i64 n, .int .i64 co] 30)).alloc (.cells #[.string nm, .int .i64 bs, .slice C H.length c, .slice D G.length d, .slice T N.length y, .int .i64 n, .int .i64 co] 30)) := ((Below.refl _ w).alloc (Nat.le_refl _) _).alloc (by simp) _
  simp only [List.toArray, World.size_alloc] at h0 h1
  have x4 := h0.cell (i := 4) rfl
  have x5 := h0.cell (i := 5) rfl
  have x6 := h0.cell (i := 6) rfl
  have z4 := h1.cell (i := 4) rfl
  have z5 := h1.cell (i := 5) rfl
  have z6 := h1.cell (i := 6) rfl
  go_enter Try.func13, Try.ntmps13
  go_wp2_with (fail)
  clear x4 x5 x6 z4 z5 z6
  generalize (w.alloc (.cells #[.string nm, .int .i64 bs, .slice A H.length a, .slice B G.length b, .slice S N.length x, .int .i64 n, .int .i64 co] 30)).alloc (.cells #[.string nm, .int .i64 bs, .slice C H.length c, .slice D G.length d, .slice T N.length y, .int .i64 n, .int .i64 co] 30) = v0 at h0 h1 hb0 ⊢
  refine (LX.out _ hb0).mono ?_
  rintro e w1 ⟨rfl, m, rfl⟩
  have hb1 := below_drewN hb0 m
  replace h0 := h0.drewN m
  replace h1 := h1.drewN m
  have x0 := h0.cell (i := 0) rfl
  have x1 := h0.cell (i := 1) rfl
  have x2 := h0.cell (i := 2) rfl
  have x3 := h0.cell (i := 3) rfl
  have z0 := h1.cell (i := 0) rfl
  have z1 := h1.cell (i := 1) rfl
  have z2 := h1.cell (i := 2) rfl
  have z3 := h1.cell (i := 3) rfl
  go_wp2_with (fail)
  clear x0 x1 x2 x3 z0 z1 z2 z3
  refine (LP.out _ hb1).mono ?_
  rintro e w2 ⟨rfl, hb2⟩
  have hb3 := hb1.trans (hb2.mono hb1.size)
  replace h0 := h0.below hb2 h0.lt
  have x0 := h0.cell (i := 0) rfl
  have x1 := h0.cell (i := 1) rfl
  have x2 := h0.cell (i := 2) rfl
  have x3 := h0.cell (i := 3) rfl
  have x6 := h0.cell (i := 6) rfl
  by_cases hco : co = 0
  · have hc : (co != 0) = false := by simp [hco]
    have hT := HK.out hco
    rw [hT] at TR
    clear hco
    go_wp2_with (fail)
    refine (TR.out _ hb3).mono ?_
    rintro e w3 ⟨rfl, hb4⟩
    go_wp2
    go_ret
    exact ⟨rfl, hb3.trans (hb4.mono hb3.size)⟩
  · have hc : (co != 0) = true := by simp [hco]
    clear hco
    go_wp2
    go_ret
    exact ⟨rfl, hb3⟩
end Go.Proofs.Ytjnbhppnchmeoaa

namespace Go.Proofs.Ytjnbhppnchmeoaa
open Go.RowKit
set_option linter.unusedVariables false
theorem tooLong_any (s : ByteArray) (w : World) (hs : s.size ≤ maxLen) : Calls Try.prog 53 #[.string s] w fun e w' => e = .returned (.bool (decide (20000 < s.size))) ∧ w' = w := by
  unfold maxLen at hs
  go_enter Try.func53, Try.ntmps53
  go_wp2
  go_ret
  exact ⟨retB (by simp; omega), rfl⟩
end Go.Proofs.Ytjnbhppnchmeoaa

namespace Go.Proofs.Ytjnbhppnchmeoaa
open Go.RowKit
set_option linter.unusedVariables false
set_option maxRecDepth 1000000
/-- TopicEnd. -/
noncomputable def endT (t : Tpc) : Int := if topB t then t.base + t.held.length else 0
set_option maxHeartbeats 2000000 in
theorem specTopicEnd_any (t : Tpc) (A : Option Addr) (c : Nat) (B : Option Addr) (d : Nat) (w : World) (hf : t.fits) (hA : Strs w w.heap.size A t.held) (hB : Grs w w.heap.size B t.groups) :
    Calls Try.prog 16 #[topV t.name t.base (.slice A t.held.length c) (.slice B t.groups.length d)] w fun e w' => e = .returned (.int .i64 (endT t)) ∧ Below w.heap.size w w' := by
  have hK := Blk.fresh w 26 [.string t.name, .int .i64 t.base, .slice A t.held.length c, .slice B t.groups.length d]
  have hb0 := below_box w (.cells #[.string t.name, .int .i64 t.base, .slice A t.held.length c, .slice B t.groups.length d] 26)
  simp only [List.toArray] at hK
  have TR := Lib.hid (fun W (h : Below w.heap.size w W) => specTopicRight_any t A c B d W hf (hA.on h) (hB.on h))
  have HE : Hid (∀ r, topB t = r → endT t = if r then t.base + t.held.length else 0) := Lib.hid fun r h => by unfold endT; rw [h]
  have HO := Lib.hid (topB_iff (t := t))
  obtain ⟨nm, bs, H, G⟩ := t
  simp only at hK hb0 TR HE ⊢
  generalize endT ⟨nm, bs, H, G⟩ = E at HE ⊢
  rcases Bool.eq_false_or_eq_true (topB ⟨nm, bs, H, G⟩) with hT | hT
  · have ho := HO.out.1 hT
    have hbs := inB_true ho.2.1
    have hl := ho.2.2.1
    have hE := Lib.hid (HE.out _ hT)
    have EN := Lib.hid (l07End_any nm bs A H.length c (.slice B G.length d) (by simp only at hl; omega) hbs.1 hbs.2 rfl)
    rw [hT] at TR
    clear ho hl HO
    go_enter Try.func16, Try.ntmps16
    go_wp2_with (fail)
    generalize w.alloc (.cells #[.string nm, .int .i64 bs, .slice A H.length c, .slice B G.length d] 26) = w3 at hK hb0 ⊢
    refine (TR.out _ hb0).mono ?_
    rintro e w1 ⟨rfl, hb1⟩
    have k1 := hK.below hb1 hK.lt
    have c0 := k1.cell (i := 0) rfl
    have c1 := k1.cell (i := 1) rfl
    have c2 := k1.cell (i := 2) rfl
    have c3 := k1.cell (i := 3) rfl
    have hw1 := hb0.trans (hb1.mono hb0.size)
    go_wp2_with (go_at_call 60; refine (EN.out _).mono ?_; rintro e w2 ⟨rfl, hb2⟩)
    go_ret
    exact ⟨by rw [hE.out]; rfl, hw1.trans (hb2.mono hw1.size)⟩
  · rw [hT] at TR
    have hE := Lib.hid (HE.out _ hT)
    go_enter Try.func16, Try.ntmps16
    go_wp2_with (fail)
    generalize w.alloc (.cells #[.string nm, .int .i64 bs, .slice A H.length c, .slice B G.length d] 26) = w3 at hK hb0 ⊢
    refine (TR.out _ hb0).mono ?_
    rintro e w1 ⟨rfl, hb1⟩
    have hw1 := hb0.trans (hb1.mono hb0.size)
    go_wp2
    go_ret
    exact ⟨by rw [hE.out]; rfl, hw1⟩
set_option maxHeartbeats 2000000 in
theorem implTopicEnd_any (t : Tpc) (A : Option Addr) (c : Nat) (B : Option Addr) (d : Nat) (w : World) (hf : t.fits) (hA : Strs w w.heap.size A t.held) (hB : Grs w w.heap.size B t.groups) :
    Calls Try.prog 15 #[topV t.name t.base (.slice A t.held.length c) (.slice B t.groups.length d)] w fun e w' => e = .returned (.int .i64 (endT t)) ∧ Below w.heap.size w w' := by
  have hK := Blk.fresh w 26 [.string t.name, .int .i64 t.base, .slice A t.held.length c, .slice B t.groups.length d]
  have hb0 := below_box w (.cells #[.string t.name, .int .i64 t.base, .slice A t.held.length c, .slice B t.groups.length d] 26)
  simp only [List.toArray] at hK
  have TR := Lib.hid (fun W (h : Below w.heap.size w W) => implTopicRight_any t A c B d W hf (hA.on h) (hB.on h))
  have HE : Hid (∀ r, topB t = r → endT t = if r then t.base + t.held.length else 0) := Lib.hid fun r h => by unfold endT; rw [h]
  have HO := Lib.hid (topB_iff (t := t))
  obtain ⟨nm, bs, H, G⟩ := t
  simp only at hK hb0 TR HE ⊢
  generalize endT ⟨nm, bs, H, G⟩ = E at HE ⊢
  rcases Bool.eq_false_or_eq_true (topB ⟨nm, bs, H, G⟩) with hT | hT
  · have ho := HO.out.1 hT
    have hbs := inB_true ho.2.1
    have hl := ho.2.2.1
    have hE := Lib.hid (HE.out _ hT)
    have EN := Lib.hid (endOf_any nm bs A H.length c (.slice B G.length d) (by simp only at hl; omega) hbs.1 hbs.2 rfl)
    rw [hT] at TR
    clear ho hl HO
    go_enter Try.func15, Try.ntmps15
    go_wp2_with (fail)
    generalize w.alloc (.cells #[.string nm, .int .i64 bs, .slice A H.length c, .slice B G.length d] 26) = w3 at hK hb0 ⊢
    refine (TR.out _ hb0).mono ?_
    rintro e w1 ⟨rfl, hb1⟩
    have k1 := hK.below hb1 hK.lt
    have c0 := k1.cell (i := 0) rfl
    have c1 := k1.cell (i := 1) rfl
    have c2 := k1.cell (i := 2) rfl
    have c3 := k1.cell (i := 3) rfl
    have hw1 := hb0.trans (hb1.mono hb0.size)
    go_wp2_with (go_at_call 62; refine (EN.out _).mono ?_; rintro e w2 ⟨rfl, hb2⟩)
    go_ret
    exact ⟨by rw [hE.out]; rfl, hw1.trans (hb2.mono hw1.size)⟩
  · rw [hT] at TR
    have hE := Lib.hid (HE.out _ hT)
    go_enter Try.func15, Try.ntmps15
    go_wp2_with (fail)
    generalize w.alloc (.cells #[.string nm, .int .i64 bs, .slice A H.length c, .slice B G.length d] 26) = w3 at hK hb0 ⊢
    refine (TR.out _ hb0).mono ?_
    rintro e w1 ⟨rfl, hb1⟩
    have hw1 := hb0.trans (hb1.mono hb0.size)
    go_wp2
    go_ret
    exact ⟨by rw [hE.out]; rfl, hw1⟩
theorem bothTopicRight (t : Tpc) (hf : t.fits) (hs : t.small) : ∃ r : Bool,
    (∀ A c B d W, Strs W W.heap.size A t.held → Grs W W.heap.size B t.groups → t.held.length ≤ c → c ≤ maxLen → t.groups.length ≤ d → d ≤ maxLen → Calls Try.prog 18 #[topV t.name t.base (.slice A t.held.length c) (.slice B t.groups.length d)] W fun e w' => e = .returned (.bool r) ∧ Below W.heap.size W w') ∧
    (∀ A c B d W, Strs W W.heap.size A t.held → Grs W W.heap.size B t.groups → t.held.length ≤ c → c ≤ maxLen → t.groups.length ≤ d → d ≤ maxLen → Calls Try.prog 17 #[topV t.name t.base (.slice A t.held.length c) (.slice B t.groups.length d)] W fun e w' => e = .returned (.bool r) ∧ Below W.heap.size W w') :=
  ⟨topB t, fun A c B d W h1 h2 _ _ _ _ => specTopicRight_any t A c B d W hf h1 h2, fun A c B d W h1 h2 _ _ _ _ => implTopicRight_any t A c B d W hf h1 h2⟩
theorem bothTopicEnd (t : Tpc) (hf : t.fits) (hs : t.small) : ∃ r : Int,
    (∀ A c B d W, Strs W W.heap.size A t.held → Grs W W.heap.size B t.groups → t.held.length ≤ c → c ≤ maxLen → t.groups.length ≤ d → d ≤ maxLen → Calls Try.prog 16 #[topV t.name t.base (.slice A t.held.length c) (.slice B t.groups.length d)] W fun e w' => e = .returned (.int .i64 r) ∧ Below W.heap.size W w') ∧
    (∀ A c B d W, Strs W W.heap.size A t.held → Grs W W.heap.size B t.groups → t.held.length ≤ c → c ≤ maxLen → t.groups.length ≤ d → d ≤ maxLen → Calls Try.prog 15 #[topV t.name t.base (.slice A t.held.length c) (.slice B t.groups.length d)] W fun e w' => e = .returned (.int .i64 r) ∧ Below W.heap.size W w') :=
  ⟨endT t, fun A c B d W h1 h2 _ _ _ _ => specTopicEnd_any t A c B d W hf h1 h2, fun A c B d W h1 h2 _ _ _ _ => implTopicEnd_any t A c B d W hf h1 h2⟩
end Go.Proofs.Ytjnbhppnchmeoaa
