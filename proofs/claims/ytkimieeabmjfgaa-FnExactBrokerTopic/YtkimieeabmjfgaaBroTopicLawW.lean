/- BrokerTopic: both answer alike; the copy of a broker with all that is known of it. What the exact laws do with a TopicOut. The walk of the law on BrokerTopic. -/
import Derived.Test.YtkimieeabmjfgaaBrTopW
import Derived.Test.YtkimieeabmjfgaaBrMarkW
import Derived.Test.YtkimieeabmjfgaaBrToW
import Derived.Test.YtkimieeabmjfgaaRowW
import Derived.Deep.RegionHeld3
namespace Go.Proofs.Ytkimieeabmjfgaa
open Go.RowKit
set_option linter.unusedVariables false
set_option maxRecDepth 1000000
theorem toBroker_cp (b : Bro) (A : Option Addr) (c : Nat) (B : Option Addr) (d : Nat) (w : World) (hs : b.small) (hA : Tops w w.heap.size A b.topics) (hB : Rps w w.heap.size B b.replies) :
    Calls Try.prog 25 #[broV (.slice A b.topics.length c) (.slice B b.replies.length d)] w fun e w' => ∃ (g c' h d' : Nat) (M : List TC), e = .returned (broV (.slice (some ⟨g, 0, none⟩) b.topics.length c') (.slice (some ⟨h, 0, none⟩) b.replies.length d')) ∧
      M.map (·.t) = b.topics ∧ (w.heap.size ≤ g ∧ g < h ∧ h < w'.heap.size) ∧ Rw w' w.heap.size w'.heap.size 29 4 (.slice (some ⟨g, 0, none⟩) b.topics.length c') b.topics.length (tflat M) ∧ Lay w' (g + 1) M h ∧
      Rw w' w.heap.size w'.heap.size 53 3 (.slice (some ⟨h, 0, none⟩) b.replies.length d') b.replies.length (rflat b.replies) ∧ Tops w' w'.heap.size (some ⟨g, 0, none⟩) b.topics ∧ Rps w' w'.heap.size (some ⟨h, 0, none⟩) b.replies ∧ CapT w' (some ⟨g, 0, none⟩) b.topics ∧ Below w.heap.size w w' := by
  refine (toBroker_any b A c B d w hs hA hB).mono ?_
  rintro e w' ⟨g, c', h, d', M, rfl, hM, h1, h2, h3, h4, h5, h6, h7⟩
  have hl : M.length = b.topics.length := by rw [← hM, List.length_map]
  have ho : OwnT w' w.heap.size (.slice (some ⟨g, 0, none⟩) b.topics.length c') M := by unfold OwnT; rw [hl]; exact h4
  refine ⟨g, c', h, d', M, rfl, hM, ⟨h1, h2, h3⟩, Rw.of h4, h5, Rw.of h6, ?_, OwnR.rps (base := w.heap.size) (c := d') (n := b.replies.length) h6, ?_, h7⟩
  · rw [← hM]; exact OwnT.tops ho h5
  · rw [← hM]; exact OwnT.capT ho h5
theorem topOf_size (b : Bro) (s : ByteArray) : (topOf b s).held.length ≤ 20 ∧ (topOf b s).groups.length ≤ 4 := by
  rcases Bool.eq_false_or_eq_true (broB b) with hT | hT
  · by_cases hI : isT b.topics s = true
    · obtain ⟨hp, hn⟩ := isT_iff.1 hI
      rw [top_at hT hp hn]
      have := topSz (topB_iff.1 ((broB_iff.1 hT).1.2 _ hp).1)
      exact ⟨this.heldn, this.groupsn⟩
    · rw [top_none (by simpa using hI)]; simp [zeroTop]
  · rw [top_bad hT]; simp [zeroTop]
theorem bothBrokerTopic (b : Bro) (s : ByteArray) (hf : b.fits) (hS : b.small) (hs : s.size ≤ maxLen) : ∃ r : Tpc, r.held.length ≤ 20 ∧ r.groups.length ≤ 4 ∧
    (∀ A c B d W, Tops W W.heap.size A b.topics → Rps W W.heap.size B b.replies → CapT W A b.topics → Calls Try.prog 31 #[broV (.slice A b.topics.length c) (.slice B b.replies.length d), .string s] W fun e w' => FrT W w' e r) ∧
    (∀ A c B d W, Tops W W.heap.size A b.topics → Rps W W.heap.size B b.replies → Calls Try.prog 32 #[broV (.slice A b.topics.length c) (.slice B b.replies.length d), .string s] W fun e w' => FrT W w' e r) :=
  ⟨topOf b s, (topOf_size b s).1, (topOf_size b s).2, fun A c B d W h1 h2 h3 => specBrokerTopic_any b s A c B d W hf hs h1 h2 h3, fun A c B d W h1 h2 => implBrokerTopic_any b s A c B d W hf hs h1 h2⟩
end Go.Proofs.Ytkimieeabmjfgaa

namespace Go.Proofs.Ytkimieeabmjfgaa
open Go.RowKit
set_option linter.unusedVariables false
set_option maxRecDepth 1000000

/-- The value of a TopicOut. -/
abbrev outV (nm : ByteArray) (bs : Int) (h g t : Value) (n co : Int) : Value := .agg #[.string nm, .int .i64 bs, h, g, t, .int .i64 n, .int .i64 co]
/-- The texts that are fetched lie apart from the messages. -/
def Apart (A B : Option Addr) : Prop := ∀ a b, A = some a → B = some b → a.block ≠ b.block
theorem Apart.map {A B : Option Addr} (h : Apart A B) {a : Addr} (ha : A = some a) : A.map (·.block) ≠ B.map (·.block) := by
  subst ha
  cases B with
  | none => simp
  | some b => simpa using h a b rfl rfl
theorem Sl.apart {w w' : World} {lo hi : Nat} {t : TypeId} {A B : Option Addr} {xs ys : List Value} (h : Sl w lo hi t A xs) (hc : Wr w w' B ys) (ha : Apart A B) : Sl w' lo hi t A xs := by
  refine h.keep hc fun hx hy => ?_
  rcases h with h | ⟨g, off, cs, h1, _⟩
  · exact absurd h hx
  · exact ha.map h1
theorem Apart.symm {A B : Option Addr} (h : Apart A B) : Apart B A := fun a b ha hb e => h b a hb ha e.symm
theorem Wr.below {w w1 w2 : World} {A : Option Addr} {xs : List Value} (hb : Below w.heap.size w w1) (h : Wr w1 w2 A xs) : Wr w w2 A xs := by
  obtain ⟨row, hg, hr⟩ := h
  exact ⟨row, ⟨hg.os.trans hb.os, hg.tape.trans hb.tape, hg.output.trans hb.output, Nat.le_trans hb.size hg.size, fun k hk hne => (hg.block k (by have := hb.size; omega) hne).trans (hb.block k hk)⟩, hr⟩
set_option maxHeartbeats 2000000 in
theorem eqTopicOut_same (nm : ByteArray) (bs : Int) (A B C D S T : Option Addr) (H : List ByteArray) (G : List Grp) (N : List ByteArray) (n co : Int) (a b c d x y : Nat) (w : World) (hA : Strs w w.heap.size A H) (hC : Strs w w.heap.size C H) (hB : Grs w w.heap.size B G) (hD : Grs w w.heap.size D G) (hS : Strs w w.heap.size S N) (hT : Strs w w.heap.size T N) :
    Calls Try.prog 14 #[outV nm bs (.slice A H.length a) (.slice B G.length b) (.slice S N.length x) n co, outV nm bs (.slice C H.length c) (.slice D G.length d) (.slice T N.length y) n co] w fun e w' => e = .returned (.bool true) ∧ Below w.heap.size w w' := by
  have h0 := (Blk.fresh w 31 [.string nm, .int .i64 bs, .slice A H.length a, .slice B G.length b, .slice S N.length x, .int .i64 n, .int .i64 co]).alloc (.cells #[.string nm, .int .i64 bs, .slice C H.length c, .slice D G.length d, .slice T N.length y, .int .i64 n, .int .i64 co] 31)
  have h1 := Blk.fresh (w.alloc (.cells #[.string nm, .int .i64 bs, .slice A H.length a, .slice B G.length b, .slice S N.length x, .int .i64 n, .int .i64 co] 31)) 31 [.string nm, .int .i64 bs, .slice C H.length c, .slice D G.length d, .slice T N.length y, .int .i64 n, .int .i64 co]
  have hb0 : Below w.heap.size w ((w.alloc (.cells #[.string nm, .int .i64 bs, .slice A H.length a, .slice B G.length b, .slice S N.length x, .int .i64 n, .int .i64 co] 31)).alloc (.cells #[.string nm, .int .i64 bs, .slice C H.length c, .slice D G.length d, .slice T N.length y, .int .i64 n, .int .i64 co] 31)) := ((Below.refl _ w).alloc (Nat.le_refl _) _).alloc (by simp) _
  simp only [List.toArray, World.size_alloc] at h0 h1
  have HE := Lib.hid (eqTopic_same nm bs A B C D H G a b c d _ (hA.on hb0) (hC.on hb0) (hB.on hb0) (hD.on hb0))
  have HT := Lib.hid (fun W (h : Below w.heap.size w W) => eqStringS_same S T N x y W (hS.on h) (hT.on h))
  go_enter Try.func14, Try.ntmps14
  go_wp2_with (fail)
  refine HE.out.mono ?_
  rintro e w1 ⟨rfl, hb1⟩
  clear HE
  have g0 := h0.below hb1 h0.lt
  have g1 := h1.below hb1 h1.lt
  have hw1 := hb0.trans (hb1.mono hb0.size)
  clear h0 h1 hb0 hb1
  have k3 := g0.cell (i := 4) rfl
  have l3 := g1.cell (i := 4) rfl
  go_wp2_with (fail)
  refine (HT.out _ hw1).mono ?_
  rintro e w2 ⟨rfl, hb2⟩
  have p0 := g0.below hb2 g0.lt
  have p1 := g1.below hb2 g1.lt
  have k5 := p0.cell (i := 5) rfl
  have l5 := p1.cell (i := 5) rfl
  have k6 := p0.cell (i := 6) rfl
  have l6 := p1.cell (i := 6) rfl
  clear k3 l3
  go_wp2
  go_ret
  exact ⟨rfl, hw1.trans (hb2.mono hw1.size)⟩
set_option maxHeartbeats 2000000 in
theorem markTopic_sl (nm : ByteArray) (bs : Int) (A : Option Addr) (H : List ByteArray) (c : Nat) (B : Option Addr) (G : List Grp) (d lo hi k : Nat) (w : World) (h : Sl w lo hi 9 A (H.map Value.string)) (h2 : Sl w lo hi 68 B (gflat G)) (h0 : 1 ≤ k) (h1 : k + H.length + 2 * G.length ≤ 4000000) :
    Calls Try.prog 16 #[topV nm bs (.slice A H.length c) (.slice B G.length d), .int .i64 k] w fun e w' => e = .returned (.int .i64 ((k + H.length + 2 * G.length : Nat) : Int)) ∧
      Sl w' lo hi 9 A ((markN H.length k).map Value.string) ∧ Sl w' lo hi 68 B (gflat (markG G.length (k + H.length))) ∧ (∀ t' C zs, t' ≠ 68 → Sl w lo hi t' C zs → Apart C A → Sl w' lo hi t' C zs) ∧ Chg w w' lo hi := by
  have hb0 : Below w.heap.size w (w.alloc (.cells #[.string nm, .int .i64 bs, .slice A H.length c, .slice B G.length d] 29)) := (Below.refl _ w).alloc (Nat.le_refl _) _
  have k0 := Blk.fresh w 29 [.string nm, .int .i64 bs, .slice A H.length c, .slice B G.length d]
  have HK : Hid (∀ t' C zs, Sl w lo hi t' C zs → Sl (w.alloc (.cells #[.string nm, .int .i64 bs, .slice A H.length c, .slice B G.length d] 29)) lo hi t' C zs) := Lib.hid fun t' C zs q => q.below hb0
  have q1 := h.below hb0
  have q2 := h2.below hb0
  simp only [List.toArray] at k0
  obtain ⟨j, HJ⟩ : ∃ j, Hid (k + H.length = j) := ⟨_, Lib.hid rfl⟩
  have hj : 1 ≤ j ∧ j + 2 * G.length ≤ 4000000 := by have := HJ.out; omega
  have hkl : k + H.length ≤ 4000000 := by omega
  rw [HJ.out]
  have hxb : ∀ row, (∀ q, row = some q → (H.map Value.string) ≠ [] ∧ A.map (·.block) = some q) → row ≠ some w.heap.size := by
    intro row hr e
    obtain ⟨hx, hy⟩ := hr _ e
    rcases h with h | ⟨g, off, cs, e1, _, e3, _⟩
    · exact hx h
    · rw [e1] at hy
      have := e3.lt
      simp at hy
      omega
  clear h1
  go_enter Try.func16, Try.ntmps16
  go_wp2_with (fail)
  generalize w.alloc (.cells #[.string nm, .int .i64 bs, .slice A H.length c, .slice B G.length d] 29) = v0 at hb0 k0 HK q1 q2 ⊢
  have MS := markStringS_sl A H c lo hi k v0 q1 h0 hkl
  rw [HJ.out] at MS
  refine MS.mono ?_
  rintro e w1 ⟨rfl, hX, hr, hc⟩
  have q3 := q2.keep hr (q2.differ q1 (by decide))
  have k1 : Blk w1 w.heap.size 29 [.string nm, .int .i64 bs, .slice A H.length c, .slice B G.length d] := by
    obtain ⟨row, hg, hrr⟩ := hr
    exact k0.grown hg (fun e => hxb row hrr e.symm)
  have c3 := k1.cell (i := 3) rfl
  have MG := Lib.hid (markGroupS_sl B G d lo hi j w1 q3 hj.1 hj.2)
  clear MS hxb
  go_wp2_with (fail)
  refine MG.out.mono ?_
  rintro e w2 ⟨rfl, hY, hr2, hc2⟩
  have hX2 := hX.keep hr2 (hX.differ q3 (by decide))
  clear c3
  go_wp2
  go_ret
  refine ⟨rfl, hX2, hY, fun t' C zs ht hz ha => ?_, Chg.after hb0 (hc.trans hc2)⟩
  have z1 := (HK.out t' C zs hz).apart hr ha
  exact z1.keep hr2 (z1.differ q3 ht)
set_option maxHeartbeats 2000000 in
theorem heldTopic_any (nm : ByteArray) (bs : Int) (A : Option Addr) (n c : Nat) (B : Option Addr) (m d k : Nat) (w : World) (hA : Strs w w.heap.size A (markN n k)) (hB : Grs w w.heap.size B (markG m (k + n))) (h0 : 1 ≤ k) (h1 : k + n + 2 * m ≤ 4000000) :
    Calls Try.prog 34 #[topV nm bs (.slice A n c) (.slice B m d), .int .i64 k] w fun e w' => e = .returned (.int .i64 ((k + n + 2 * m : Nat) : Int)) ∧ Below w.heap.size w w' := by
  have hb0 : Below w.heap.size w (w.alloc (.cells #[.string nm, .int .i64 bs, .slice A n c, .slice B m d] 29)) := (Below.refl _ w).alloc (Nat.le_refl _) _
  have k0 := Blk.fresh w 29 [.string nm, .int .i64 bs, .slice A n c, .slice B m d]
  simp only [List.toArray] at k0
  obtain ⟨j, HJ⟩ : ∃ j, Hid (k + n = j) := ⟨_, Lib.hid rfl⟩
  have HS := heldStringS_any A n c k _ (hA.on hb0) h0 (by omega)
  rw [HJ.out] at HS hB ⊢
  have hj : 1 ≤ j ∧ j + 2 * m ≤ 4000000 := by have := HJ.out; omega
  have hj' : ¬ ((j : Int) < 0) := by omega
  have hjm : ¬ (((j + 2 * m : Nat) : Int) < 0) := by omega
  have HSH := Lib.hid HS
  have HT := Lib.hid (fun W (h : Below w.heap.size w W) => heldGroupS_any B m d j W (hB.on h) hj.1 hj.2)
  clear HS h1
  go_enter Try.func34, Try.ntmps34
  go_wp2_with (fail)
  refine HSH.out.mono ?_
  rintro e w1 ⟨rfl, hb1⟩
  have hw1 := hb0.trans (hb1.mono hb0.size)
  have k1 := k0.below hb1 k0.lt
  have k3 := k1.cell (i := 3) rfl
  clear HSH
  go_wp2_with (fail)
  refine (HT.out _ hw1).mono ?_
  rintro e w2 ⟨rfl, hb2⟩
  go_wp2
  go_ret
  exact ⟨rfl, hw1.trans (hb2.mono hw1.size)⟩
set_option maxHeartbeats 2000000 in
theorem markTopicOut_sl (nm : ByteArray) (bs : Int) (A : Option Addr) (H : List ByteArray) (c : Nat) (B : Option Addr) (G : List Grp) (d : Nat) (T : Option Addr) (N : List ByteArray) (x : Nat) (n co : Int) (lo hi k : Nat) (w : World) (h : Sl w lo hi 9 A (H.map Value.string)) (h2 : Sl w lo hi 68 B (gflat G)) (h3 : Sl w lo hi 9 T (N.map Value.string)) (ha : Apart A T) (h0 : 1 ≤ k) (h1 : k + H.length + 2 * G.length + N.length ≤ 4000000) (hhi : hi ≤ w.heap.size) :
    Calls Try.prog 17 #[outV nm bs (.slice A H.length c) (.slice B G.length d) (.slice T N.length x) n co, .int .i64 k] w fun e w' => e = .returned (.int .i64 ((k + H.length + 2 * G.length + N.length : Nat) : Int)) ∧
      Sl w' lo hi 9 A ((markN H.length k).map Value.string) ∧ Sl w' lo hi 68 B (gflat (markG G.length (k + H.length))) ∧ Sl w' lo hi 9 T ((markN N.length (k + H.length + 2 * G.length)).map Value.string) ∧ Chg w w' lo hi := by
  have hb0 : Below w.heap.size w (w.alloc (.cells #[.string nm, .int .i64 bs, .slice A H.length c, .slice B G.length d, .slice T N.length x, .int .i64 n, .int .i64 co] 31)) := (Below.refl _ w).alloc (Nat.le_refl _) _
  have k0 := Blk.fresh w 31 [.string nm, .int .i64 bs, .slice A H.length c, .slice B G.length d, .slice T N.length x, .int .i64 n, .int .i64 co]
  simp only [List.toArray] at k0
  have q1 := h.below hb0
  have q2 := h2.below hb0
  have q3 := h3.below hb0
  obtain ⟨j, HJ⟩ : ∃ j, Hid (k + H.length + 2 * G.length = j) := ⟨_, Lib.hid rfl⟩
  have hj : 1 ≤ j ∧ j + N.length ≤ 4000000 := by have := HJ.out; omega
  have hkl : k + H.length + 2 * G.length ≤ 4000000 := by omega
  have MT := markTopic_sl nm bs A H c B G d lo hi k _ q1 q2 h0 hkl
  rw [HJ.out] at MT ⊢
  have MH := Lib.hid MT
  clear MT h1
  go_enter Try.func17, Try.ntmps17
  go_wp2_with (fail)
  refine MH.out.mono ?_
  rintro e w1 ⟨rfl, hX, hY, hO, hc⟩
  have z3 := hO _ _ _ (by decide) q3 ha.symm
  have k1 := k0.offC hc (by omega)
  have hc1 := Chg.after hb0 hc
  have c3 := k1.cell (i := 4) rfl
  clear MH hO hb0
  go_wp2_with (fail)
  refine (markStringS_sl T N x lo hi j w1 z3 hj.1 hj.2).mono ?_
  rintro e w2 ⟨rfl, hZ, hr2, hc2⟩
  have hX2 := hX.apart hr2 ha
  have hY2 := hY.keep hr2 (hY.differ z3 (by decide))
  clear c3
  go_wp2
  go_ret
  exact ⟨rfl, hX2, hY2, hZ, hc1.trans hc2⟩
set_option maxHeartbeats 2000000 in
theorem heldTopicOut_any (nm : ByteArray) (bs : Int) (A : Option Addr) (n c : Nat) (B : Option Addr) (m d : Nat) (T : Option Addr) (p x : Nat) (nn co : Int) (k : Nat) (w : World) (hA : Strs w w.heap.size A (markN n k)) (hB : Grs w w.heap.size B (markG m (k + n))) (hT : Strs w w.heap.size T (markN p (k + n + 2 * m))) (h0 : 1 ≤ k) (h1 : k + n + 2 * m + p ≤ 4000000) :
    Calls Try.prog 18 #[outV nm bs (.slice A n c) (.slice B m d) (.slice T p x) nn co, .int .i64 k] w fun e w' => e = .returned (.int .i64 ((k + n + 2 * m + p : Nat) : Int)) ∧ Below w.heap.size w w' := by
  have hb0 : Below w.heap.size w (w.alloc (.cells #[.string nm, .int .i64 bs, .slice A n c, .slice B m d, .slice T p x, .int .i64 nn, .int .i64 co] 31)) := (Below.refl _ w).alloc (Nat.le_refl _) _
  have k0 := Blk.fresh w 31 [.string nm, .int .i64 bs, .slice A n c, .slice B m d, .slice T p x, .int .i64 nn, .int .i64 co]
  simp only [List.toArray] at k0
  obtain ⟨j, HJ⟩ : ∃ j, Hid (k + n + 2 * m = j) := ⟨_, Lib.hid rfl⟩
  have HM := heldTopic_any nm bs A n c B m d k _ (hA.on hb0) (hB.on hb0) h0 (by omega)
  rw [HJ.out] at HM hT ⊢
  have hj : 1 ≤ j ∧ j + p ≤ 4000000 := by have := HJ.out; omega
  have hj' : ¬ ((j : Int) < 0) := by omega
  have hjp : ¬ (((j + p : Nat) : Int) < 0) := by omega
  have HMH := Lib.hid HM
  have HT := Lib.hid (fun W (h : Below w.heap.size w W) => heldStringS_any T p x j W (hT.on h) hj.1 hj.2)
  clear HM h1
  go_enter Try.func18, Try.ntmps18
  go_wp2_with (fail)
  refine HMH.out.mono ?_
  rintro e w1 ⟨rfl, hb1⟩
  have hw1 := hb0.trans (hb1.mono hb0.size)
  have k1 := k0.below hb1 k0.lt
  have k3 := k1.cell (i := 4) rfl
  clear HMH
  go_wp2_with (fail)
  refine (HT.out _ hw1).mono ?_
  rintro e w2 ⟨rfl, hb2⟩
  go_wp2
  go_ret
  exact ⟨rfl, hw1.trans (hb2.mono hw1.size)⟩
end Go.Proofs.Ytkimieeabmjfgaa

namespace Go.Proofs.Ytkimieeabmjfgaa
open Go.RowKit
set_option linter.unusedVariables false

set_option maxHeartbeats 8000000 in
set_option maxRecDepth 1000000 in
theorem lawBrokerTopic (b : Bro) (A : Option Addr) (c : Nat) (B : Option Addr) (d : Nat) (nm : ByteArray) (w : World) (hf : b.fits) (hA : Tops w w.heap.size A b.topics) (hB : Rps w w.heap.size B b.replies) (hnm : nm.size ≤ maxLen) :
    Calls Try.prog 8 #[broV (.slice A b.topics.length c) (.slice B b.replies.length d), .string nm] w fun e w' => e = .returned (.bool true) ∧ Below w.heap.size w w' := by
  obtain ⟨T, R⟩ := b
  simp only at hA hB ⊢
  have HA : Hid (∀ W, Below w.heap.size w W → Tops W W.heap.size A T) := Lib.hid fun W h => hA.on h
  have HB : Hid (∀ W, Below w.heap.size w W → Rps W W.heap.size B R) := Lib.hid fun W h => hB.on h
  have hB0 := Blk.fresh w 42 [.slice A T.length c, .slice B R.length d]
  have hb0 : Below w.heap.size w (w.alloc (.cells #[.slice A T.length c, .slice B R.length d] 42)) := (Below.refl _ _).alloc (Nat.le_refl _) _
  have hz0 : (w.alloc (.cells #[.slice A T.length c, .slice B R.length d] 42)).heap.size = w.heap.size + 1 := by simp
  simp only [List.toArray] at hB0
  by_cases hbignm : 1048576 < nm.size
  · have hbig' : (1048576 : Int) < (nm.size : Int) := by omega
    have hmx := hnm
    unfold maxLen at hmx
    go_enter Try.func8, Try.ntmps8
    go_wp2
    go_ret
    exact ⟨rfl, hb0⟩
  have hbignm' : ¬ (1048576 : Int) < (nm.size : Int) := by omega
  go_enter Try.func8, Try.ntmps8
  have q0 := hB0.cell (i := 0) rfl
  have q1 := hB0.cell (i := 1) rfl
  go_wp2_with (fail)
  clear q0 q1
  generalize w.alloc (.cells #[.slice A T.length c, .slice B R.length d] 42) = v0 at hB0 hb0 hz0 ⊢
  refine (szBroker_w ⟨T, R⟩ A c B d _ hf (HA.out _ hb0) (HB.out _ hb0)).mono ?_
  rintro e v1 ⟨r, rfl, r0, r1, hS, hb1⟩
  have hz1 := hb1.size
  have hB1 := hB0.below hb1 (by omega)
  have hw1 := hb0.trans (hb1.mono (by omega))
  clear hB0
  by_cases hr : r < 0
  · go_wp2
    go_ret
    exact ⟨rfl, hw1⟩
  · obtain ⟨hS', hcn⟩ := hS (by omega)
    have hcnt : (⟨T, R⟩ : Bro).count ≤ 1048576 := by omega
    have hnH : T.length ≤ 1048576 := hS'.1.1
    have hnG : R.length ≤ 1048576 := hS'.2.1
    obtain ⟨r9, hOH, hOG, hsp, him⟩ := bothBrokerTopic ⟨T, R⟩ nm hf hS' hnm
    have Sp := Lib.hid hsp
    have Im := Lib.hid him
    clear hsp him hcn
    obtain ⟨onm, obs, OH, OG⟩ := r9
    simp only at hOH hOG
    have hOH' : OH.length ≤ maxLen := by unfold maxLen; omega
    have hOG' : OG.length ≤ maxLen := by unfold maxLen; omega
    obtain ⟨m3, Hm3⟩ : ∃ m, Hid (1 + OH.length + 2 * OG.length = m) := ⟨_, Lib.hid rfl⟩
    have hm3 : 1 ≤ m3 ∧ m3 ≤ 100 := by have := Hm3.out; omega
    have chB0 := hB1.cell (i := 0) rfl
    have chB1 := hB1.cell (i := 1) rfl
    go_wp2_with (fail)
    refine (toBroker_cp ⟨T, R⟩ A c B d _ hS' (HA.out _ hw1) (HB.out _ hw1)).mono ?_
    rintro e v2 ⟨g2, c2, h2, d2, M2, rfl, hM2, hx2, TT2, TL2, TR2, TS2, TG2, TC2, hb2⟩
    have HM2 := Lib.hid hM2
    clear hM2
    have hz2 := hb2.size
    have hB2 := hB1.below hb2 hB1.lt
    have hw2 := hw1.trans (hb2.mono hw1.size)
    clear hB1
    clear chB0 chB1
    clear TT2 TL2 TR2
    go_wp2_with (fail)
    refine (Sp.out _ _ _ _ _ TS2 TG2 TC2).mono ?_
    rintro e v3 ⟨A3, a3, B3, b3, rfl, Rs3, Rg3, hb3⟩
    clear TC2
    have hz3 := hb3.size
    have hB3 := hB2.below hb3 hB2.lt
    have TS3 := TS2.on hb3
    have TG3 := TG2.on hb3
    have hw3 := hw2.trans (hb3.mono hw2.size)
    clear hB2 TS2 TG2
    clear TS3 TG3 
    have RS3 := (OwnS.strs (n := OH.length) Rs3).2
    have RG3 := OwnG.grs (n := OG.length) Rg3
    clear Rs3 Rg3
    have hS_4 := Blk.fresh v3 29 [.string onm, .int .i64 obs, .slice A3 OH.length a3, .slice B3 OG.length b3]
    replace hS_4 : Blk (v3.alloc (.cells #[.string onm, .int .i64 obs, .slice A3 OH.length a3, .slice B3 OG.length b3] 29)) v3.heap.size 29 [.string onm, .int .i64 obs, .slice A3 OH.length a3, .slice B3 OG.length b3] := hS_4
    have hb4 : Below v3.heap.size v3 (v3.alloc (.cells #[.string onm, .int .i64 obs, .slice A3 OH.length a3, .slice B3 OG.length b3] 29)) := (Below.refl _ _).alloc (Nat.le_refl _) _
    have hs4 : (v3.alloc (.cells #[.string onm, .int .i64 obs, .slice A3 OH.length a3, .slice B3 OG.length b3] 29)).heap.size = v3.heap.size + 1 := by simp
    have qhB0 := (hB3.below hb4 hB3.lt).cell (i := 0) rfl
    have qhB1 := (hB3.below hb4 hB3.lt).cell (i := 1) rfl
    have qq0 := hS_4.cell (i := 0) rfl
    have qq1 := hS_4.cell (i := 1) rfl
    have qq2 := hS_4.cell (i := 2) rfl
    have qq3 := hS_4.cell (i := 3) rfl
    go_wp2_with (fail)
    clear qhB0 qhB1 qq0 qq1 qq2 qq3
    generalize v3.alloc (.cells #[.string onm, .int .i64 obs, .slice A3 OH.length a3, .slice B3 OG.length b3] 29) = v4 at hS_4 hb4 hs4 ⊢
    have hz4 := hb4.size
    have hB4 := hB3.below hb4 hB3.lt
    have RS4 := RS3.below hb4 (by omega)
    have RG4 := RG3.below hb4 (by omega)
    have hw4 := hw3.trans (hb4.mono hw3.size)
    clear hB3 RS3 RG3
    have chB0 := hB4.cell (i := 0) rfl
    have chB1 := hB4.cell (i := 1) rfl
    go_wp2_with (fail)
    refine (toBroker_cp ⟨T, R⟩ A c B d _ hS' (HA.out _ hw4) (HB.out _ hw4)).mono ?_
    rintro e v5 ⟨g5, c5, h5, d5, M5, rfl, hM5, hx5, XT5, XL5, XR5, XS5, XG5, XC5, hb5⟩
    have HM5 := Lib.hid hM5
    clear hM5
    have hz5 := hb5.size
    have hB5 := hB4.below hb5 hB4.lt
    have hS_5 := hS_4.below hb5 hS_4.lt
    have RS5 := RS4.below hb5 (by omega)
    have RG5 := RG4.below hb5 (by omega)
    have hw5 := hw4.trans (hb5.mono hw4.size)
    clear hB4 hS_4 RS4 RG4
    clear chB0 chB1
    clear XC5
    have hP6 := Blk.fresh v5 48 [.slice (some ⟨g5, 0, none⟩) T.length c5, .slice (some ⟨h5, 0, none⟩) R.length d5]
    replace hP6 : Blk (v5.alloc (.cells #[.slice (some ⟨g5, 0, none⟩) T.length c5, .slice (some ⟨h5, 0, none⟩) R.length d5] 48)) v5.heap.size 48 [.slice (some ⟨g5, 0, none⟩) T.length c5, .slice (some ⟨h5, 0, none⟩) R.length d5] := hP6
    have hb6 : Below v5.heap.size v5 (v5.alloc (.cells #[.slice (some ⟨g5, 0, none⟩) T.length c5, .slice (some ⟨h5, 0, none⟩) R.length d5] 48)) := (Below.refl _ _).alloc (Nat.le_refl _) _
    have hs6 : (v5.alloc (.cells #[.slice (some ⟨g5, 0, none⟩) T.length c5, .slice (some ⟨h5, 0, none⟩) R.length d5] 48)).heap.size = v5.heap.size + 1 := by simp
    have qq0 := hP6.cell (i := 0) rfl
    have qq1 := hP6.cell (i := 1) rfl
    go_wp2_with (fail)
    clear qq0 qq1
    generalize v5.alloc (.cells #[.slice (some ⟨g5, 0, none⟩) T.length c5, .slice (some ⟨h5, 0, none⟩) R.length d5] 48) = v6 at hP6 hb6 hs6 ⊢
    have hz6 := hb6.size
    have hB6 := hB5.below hb6 hB5.lt
    have hS_6 := hS_5.below hb6 hS_5.lt
    have XT6 := XT5.below hb6
    have XL6 := XL5.below hb6
    have XR6 := XR5.below hb6
    have XS6 := XS5.on hb6
    have XG6 := XG5.on hb6
    have RS6 := RS5.below hb6 (by omega)
    have RG6 := RG5.below hb6 (by omega)
    have hw6 := hw5.trans (hb6.mono hw5.size)
    clear hB5 hS_5 XT5 XL5 XR5 XS5 XG5 RS5 RG5
    have chP0 := hP6.cell (i := 0) rfl
    have chP1 := hP6.cell (i := 1) rfl
    go_wp2_with (fail)
    refine (Im.out _ _ _ _ _ XS6 XG6).mono ?_
    rintro e v7 ⟨A7, a7, B7, b7, rfl, Gs7, Gg7, hb7⟩
    have hz7 := hb7.size
    have hB7 := hB6.below hb7 hB6.lt
    have hS_7 := hS_6.below hb7 hS_6.lt
    have hP7 := hP6.below hb7 hP6.lt
    have XT7 := XT6.below hb7
    have XL7 := XL6.below hb7
    have XR7 := XR6.below hb7
    have XS7 := XS6.on hb7
    have XG7 := XG6.on hb7
    have RS7 := RS6.below hb7 (by omega)
    have RG7 := RG6.below hb7 (by omega)
    have hw7 := hw6.trans (hb7.mono hw6.size)
    clear hB6 hS_6 hP6 XT6 XL6 XR6 XS6 XG6 RS6 RG6
    clear chP0 chP1
    have GS7 := Sl.of_own Gs7 rfl
    have GG7 := Sl.of_own Gg7 rfl
    clear Gs7 Gg7
    have hQ8 := Blk.fresh v7 29 [.string onm, .int .i64 obs, .slice A7 OH.length a7, .slice B7 OG.length b7]
    replace hQ8 : Blk (v7.alloc (.cells #[.string onm, .int .i64 obs, .slice A7 OH.length a7, .slice B7 OG.length b7] 29)) v7.heap.size 29 [.string onm, .int .i64 obs, .slice A7 OH.length a7, .slice B7 OG.length b7] := hQ8
    have hb8 : Below v7.heap.size v7 (v7.alloc (.cells #[.string onm, .int .i64 obs, .slice A7 OH.length a7, .slice B7 OG.length b7] 29)) := (Below.refl _ _).alloc (Nat.le_refl _) _
    have hs8 : (v7.alloc (.cells #[.string onm, .int .i64 obs, .slice A7 OH.length a7, .slice B7 OG.length b7] 29)).heap.size = v7.heap.size + 1 := by simp
    have qhS_0 := (hS_7.below hb8 hS_7.lt).cell (i := 0) rfl
    have qhS_1 := (hS_7.below hb8 hS_7.lt).cell (i := 1) rfl
    have qhS_2 := (hS_7.below hb8 hS_7.lt).cell (i := 2) rfl
    have qhS_3 := (hS_7.below hb8 hS_7.lt).cell (i := 3) rfl
    have qq0 := hQ8.cell (i := 0) rfl
    have qq1 := hQ8.cell (i := 1) rfl
    have qq2 := hQ8.cell (i := 2) rfl
    have qq3 := hQ8.cell (i := 3) rfl
    go_wp2_with (fail)
    clear qhS_0 qhS_1 qhS_2 qhS_3 qq0 qq1 qq2 qq3
    generalize v7.alloc (.cells #[.string onm, .int .i64 obs, .slice A7 OH.length a7, .slice B7 OG.length b7] 29) = v8 at hQ8 hb8 hs8 ⊢
    have hz8 := hb8.size
    have hB8 := hB7.below hb8 hB7.lt
    have hS_8 := hS_7.below hb8 hS_7.lt
    have hP8 := hP7.below hb8 hP7.lt
    have XT8 := XT7.below hb8
    have XL8 := XL7.below hb8
    have XR8 := XR7.below hb8
    have XS8 := XS7.on hb8
    have XG8 := XG7.on hb8
    have RS8 := RS7.below hb8 (by omega)
    have RG8 := RG7.below hb8 (by omega)
    have GS8 := GS7.below hb8
    have GG8 := GG7.below hb8
    have hw8 := hw7.trans (hb8.mono hw7.size)
    clear hB7 hS_7 hP7 XT7 XL7 XR7 XS7 XG7 RS7 RG7 GS7 GG7
    have chQ0 := hQ8.cell (i := 0) rfl
    have chQ1 := hQ8.cell (i := 1) rfl
    have chQ2 := hQ8.cell (i := 2) rfl
    have chQ3 := hQ8.cell (i := 3) rfl
    have chS_0 := hS_8.cell (i := 0) rfl
    have chS_1 := hS_8.cell (i := 1) rfl
    have chS_2 := hS_8.cell (i := 2) rfl
    have chS_3 := hS_8.cell (i := 3) rfl
    go_wp2_with (fail)
    refine (eqTopic_same onm obs _ _ _ _ OH OG _ _ _ _ _ (GS8.strs hOH') (RS8.mono' (by omega)) (GG8.grs hOG') (RG8.mono (by omega))).mono ?_
    rintro e v9 ⟨rfl, hb9⟩
    have hz9 := hb9.size
    have hB9 := hB8.below hb9 hB8.lt
    have hS_9 := hS_8.below hb9 hS_8.lt
    have hP9 := hP8.below hb9 hP8.lt
    have hQ9 := hQ8.below hb9 hQ8.lt
    have XT9 := XT8.below hb9
    have XL9 := XL8.below hb9
    have XR9 := XR8.below hb9
    have XS9 := XS8.on hb9
    have XG9 := XG8.on hb9
    have RS9 := RS8.below hb9 (by omega)
    have RG9 := RG8.below hb9 (by omega)
    have GS9 := GS8.below hb9
    have GG9 := GG8.below hb9
    have hw9 := hw8.trans (hb9.mono hw8.size)
    clear hB8 hS_8 hP8 hQ8 XT8 XL8 XR8 XS8 XG8 RS8 RG8 GS8 GG8
    clear chQ0 chQ1 chQ2 chQ3 chS_0 chS_1 chS_2 chS_3
    have chB0 := hB9.cell (i := 0) rfl
    have chB1 := hB9.cell (i := 1) rfl
    have chP0 := hP9.cell (i := 0) rfl
    have chP1 := hP9.cell (i := 1) rfl
    go_wp2_with (fail)
    have z0 : v9.drew.cell? ⟨w.heap.size, 0, none⟩ = some (.slice A T.length c) := chB0
    have z1 : v9.drew.cell? ⟨w.heap.size, 1, none⟩ = some (.slice B R.length d) := chB1
    have z2 : v9.drew.cell? ⟨v5.heap.size, 0, none⟩ = some (.slice (some ⟨g5, 0, none⟩) T.length c5) := chP0
    have z3 : v9.drew.cell? ⟨v5.heap.size, 1, none⟩ = some (.slice (some ⟨h5, 0, none⟩) R.length d5) := chP1
    have XSd : Tops v9.drew v9.drew.heap.size (some ⟨g5, 0, none⟩) T := XS9
    have XGd : Rps v9.drew v9.drew.heap.size (some ⟨h5, 0, none⟩) R := XG9
    go_region_held3 (fun W => W.cell? ⟨w.heap.size, 0, none⟩ = some (.slice A T.length c) ∧ W.cell? ⟨w.heap.size, 1, none⟩ = some (.slice B R.length d) ∧ W.cell? ⟨v5.heap.size, 0, none⟩ = some (.slice (some ⟨g5, 0, none⟩) T.length c5) ∧ W.cell? ⟨v5.heap.size, 1, none⟩ = some (.slice (some ⟨h5, 0, none⟩) R.length d5))
      (first
        | with_reducible exact ⟨z0, z1, z2, z3⟩
        | with_reducible exact ⟨kept_cell hb10 z0, kept_cell hb10 z1, kept_cell hb10 z2, kept_cell hb10 z3⟩
        | with_reducible exact ⟨kept_cell hb11 (kept_cell hb10 z0), kept_cell hb11 (kept_cell hb10 z1), kept_cell hb11 (kept_cell hb10 z2), kept_cell hb11 (kept_cell hb10 z3)⟩)
      (first
        | (go_at_call 25; (with_reducible refine (toBroker_rd ⟨T, R⟩ A c B d _ hS' (HA.out _ (below_drew hw9)) (HB.out _ (below_drew hw9))).mono ?_); rintro e v10 ⟨g10, c10, h10, d10, rfl, hF10, hG10, hb10⟩)
        | (go_at_call 27; (with_reducible refine (eqBroker_same _ _ _ _ T R _ _ _ _ v10 (XSd.on hb10) hF10 (XGd.on hb10) hG10).mono ?_); rintro e v11 ⟨rfl, hb11⟩))
    have hbz : Below v9.heap.size v9 v11 := (below_drew (Below.refl _ v9)).trans ((hb10.trans (hb11.mono hb10.size)).mono (Nat.le_refl _))
    clear chB0 chB1 chP0 chP1
    clear z0 z1 z2 z3 XSd XGd hF10 hG10
    have hz11 := hbz.size
    have hB11 := hB9.below hbz hB9.lt
    have hS_11 := hS_9.below hbz hS_9.lt
    have hP11 := hP9.below hbz hP9.lt
    have hQ11 := hQ9.below hbz hQ9.lt
    have XT11 := XT9.below hbz
    have XL11 := XL9.below hbz
    have XR11 := XR9.below hbz
    have XS11 := XS9.on hbz
    have XG11 := XG9.on hbz
    have RS11 := RS9.below hbz (by omega)
    have RG11 := RG9.below hbz (by omega)
    have GS11 := GS9.below hbz
    have GG11 := GG9.below hbz
    have hw11 := hw9.trans (hbz.mono hw9.size)
    clear hB9 hS_9 hP9 hQ9 XT9 XL9 XR9 XS9 XG9 RS9 RG9 GS9 GG9
    clear XS11 XG11 
    have chP0 := hP11.cell (i := 0) rfl
    have chP1 := hP11.cell (i := 1) rfl
    have MX := markBroker_any T R M5 g5 c5 h5 d5 _ _ HM5.out hx5.2.1 XT11.1 XL11 XR11.1 hcnt
    clear XT11 XL11 XR11
    go_wp2_with (fail)
    refine MX.mono ?_
    rintro e v12 ⟨m1, rfl, hm1, hc12⟩
    clear MX
    have hz12 := hc12.size
    have hB12 := hB11.offC hc12 (by omega)
    have hS_12 := hS_11.offC hc12 (by omega)
    have hP12 := hP11.offC hc12 (by omega)
    have hQ12 := hQ11.offC hc12 (by omega)
    have RS12 := RS11.offC hc12 (by omega) (by omega)
    have RG12 := RG11.offC hc12 (by omega) (by omega)
    have GS12 := GS11.offC hc12 (by omega)
    have GG12 := GG11.offC hc12 (by omega)
    have hw12 := below_offC hw11 hc12 (by omega) (Nat.le_refl _)
    clear hB11 hS_11 hP11 hQ11 RS11 RG11 GS11 GG11
    clear chP0 chP1
    have hlast : ¬ ((m1 : Int) < 0) := by omega
    have chQ0 := hQ12.cell (i := 0) rfl
    have chQ1 := hQ12.cell (i := 1) rfl
    have chQ2 := hQ12.cell (i := 2) rfl
    have chQ3 := hQ12.cell (i := 3) rfl
    have chS_0 := hS_12.cell (i := 0) rfl
    have chS_1 := hS_12.cell (i := 1) rfl
    have chS_2 := hS_12.cell (i := 2) rfl
    have chS_3 := hS_12.cell (i := 3) rfl
    go_wp2_with (fail)
    refine (eqTopic_same onm obs _ _ _ _ OH OG _ _ _ _ _ (GS12.strs hOH') (RS12.mono' (by omega)) (GG12.grs hOG') (RG12.mono (by omega))).mono ?_
    rintro e v13 ⟨rfl, hb13⟩
    have hz13 := hb13.size
    have hB13 := hB12.below hb13 hB12.lt
    have hS_13 := hS_12.below hb13 hS_12.lt
    have hP13 := hP12.below hb13 hP12.lt
    have hQ13 := hQ12.below hb13 hQ12.lt
    have RS13 := RS12.below hb13 (by omega)
    have RG13 := RG12.below hb13 (by omega)
    have GS13 := GS12.below hb13
    have GG13 := GG12.below hb13
    have hw13 := hw12.trans (hb13.mono hw12.size)
    clear hB12 hS_12 hP12 hQ12 RS12 RG12 GS12 GG12
    clear chQ0 chQ1 chQ2 chQ3 chS_0 chS_1 chS_2 chS_3
    clear hlast
    have chQ0 := hQ13.cell (i := 0) rfl
    have chQ1 := hQ13.cell (i := 1) rfl
    have chQ2 := hQ13.cell (i := 2) rfl
    have chQ3 := hQ13.cell (i := 3) rfl
    have MG := markTopic_sl onm obs _ OH a7 _ OG b7 _ _ 1 _ GS13 GG13 (by omega) (by omega)
    rw [Hm3.out] at MG
    clear GS13 GG13
    go_wp2_with (fail)
    refine MG.mono ?_
    rintro e v14 ⟨rfl, GS14, GG14, _, hc14⟩
    clear MG
    have hz14 := hc14.size
    have hB14 := hB13.offC hc14 (by omega)
    have hS_14 := hS_13.offC hc14 (by omega)
    have hP14 := hP13.offC hc14 (by omega)
    have hQ14 := hQ13.offC hc14 (by omega)
    have RS14 := RS13.offC hc14 (by omega) (by omega)
    have RG14 := RG13.offC hc14 (by omega) (by omega)
    have hw14 := below_offC hw13 hc14 (by omega) (Nat.le_refl _)
    clear hB13 hS_13 hP13 hQ13 RS13 RG13
    clear chQ0 chQ1 chQ2 chQ3
    have hlast : ¬ ((m3 : Int) < 0) := by omega
    have chQ0 := hQ14.cell (i := 0) rfl
    have chQ1 := hQ14.cell (i := 1) rfl
    have chQ2 := hQ14.cell (i := 2) rfl
    have chQ3 := hQ14.cell (i := 3) rfl
    have HD := heldTopic_any onm obs _ OH.length a7 _ OG.length b7 1 _ (GS14.strs (by rw [markN_len]; exact hOH')) (GG14.grs (by rw [markG_len]; exact hOG')) (by omega) (by omega)
    rw [Hm3.out] at HD
    go_wp2_with (fail)
    refine (HD).mono ?_
    rintro e v15 ⟨rfl, hb15⟩
    have hz15 := hb15.size
    have hB15 := hB14.below hb15 hB14.lt
    have hS_15 := hS_14.below hb15 hS_14.lt
    have hP15 := hP14.below hb15 hP14.lt
    have hQ15 := hQ14.below hb15 hQ14.lt
    have RS15 := RS14.below hb15 (by omega)
    have RG15 := RG14.below hb15 (by omega)
    have GS15 := GS14.below hb15
    have GG15 := GG14.below hb15
    have hw15 := hw14.trans (hb15.mono hw14.size)
    clear hB14 hS_14 hP14 hQ14 RS14 RG14 GS14 GG14
    clear chQ0 chQ1 chQ2 chQ3
    clear HD
    have chB0 := hB15.cell (i := 0) rfl
    have chB1 := hB15.cell (i := 1) rfl
    go_wp2_with (fail)
    refine (toBroker_cp ⟨T, R⟩ A c B d _ hS' (HA.out _ hw15) (HB.out _ hw15)).mono ?_
    rintro e v16 ⟨g16, c16, h16, d16, M16, rfl, hM16, hx16, YT16, YL16, YR16, YS16, YG16, YC16, hb16⟩
    have HM16 := Lib.hid hM16
    clear hM16
    have hz16 := hb16.size
    have hB16 := hB15.below hb16 hB15.lt
    have hS_16 := hS_15.below hb16 hS_15.lt
    have hP16 := hP15.below hb16 hP15.lt
    have hQ16 := hQ15.below hb16 hQ15.lt
    have RS16 := RS15.below hb16 (by omega)
    have RG16 := RG15.below hb16 (by omega)
    have GS16 := GS15.below hb16
    have GG16 := GG15.below hb16
    have hw16 := hw15.trans (hb16.mono hw15.size)
    clear hB15 hS_15 hP15 hQ15 RS15 RG15 GS15 GG15
    clear chB0 chB1
    clear YT16 YL16 YR16
    go_wp2_with (fail)
    refine (Im.out _ _ _ _ _ YS16 YG16).mono ?_
    rintro e v17 ⟨A17, a17, B17, b17, rfl, Vs17, Vg17, hb17⟩
    clear YC16
    have hz17 := hb17.size
    have hB17 := hB16.below hb17 hB16.lt
    have hS_17 := hS_16.below hb17 hS_16.lt
    have hP17 := hP16.below hb17 hP16.lt
    have hQ17 := hQ16.below hb17 hQ16.lt
    have YS17 := YS16.on hb17
    have YG17 := YG16.on hb17
    have RS17 := RS16.below hb17 (by omega)
    have RG17 := RG16.below hb17 (by omega)
    have GS17 := GS16.below hb17
    have GG17 := GG16.below hb17
    have hw17 := hw16.trans (hb17.mono hw16.size)
    clear hB16 hS_16 hP16 hQ16 YS16 YG16 RS16 RG16 GS16 GG16
    clear YS17 YG17 
    have VS17 := Sl.of_own Vs17 rfl
    have VG17 := Sl.of_own Vg17 rfl
    clear Vs17 Vg17
    have hV18 := Blk.fresh v17 29 [.string onm, .int .i64 obs, .slice A17 OH.length a17, .slice B17 OG.length b17]
    replace hV18 : Blk (v17.alloc (.cells #[.string onm, .int .i64 obs, .slice A17 OH.length a17, .slice B17 OG.length b17] 29)) v17.heap.size 29 [.string onm, .int .i64 obs, .slice A17 OH.length a17, .slice B17 OG.length b17] := hV18
    have hb18 : Below v17.heap.size v17 (v17.alloc (.cells #[.string onm, .int .i64 obs, .slice A17 OH.length a17, .slice B17 OG.length b17] 29)) := (Below.refl _ _).alloc (Nat.le_refl _) _
    have hs18 : (v17.alloc (.cells #[.string onm, .int .i64 obs, .slice A17 OH.length a17, .slice B17 OG.length b17] 29)).heap.size = v17.heap.size + 1 := by simp
    have qhS_0 := (hS_17.below hb18 hS_17.lt).cell (i := 0) rfl
    have qhS_1 := (hS_17.below hb18 hS_17.lt).cell (i := 1) rfl
    have qhS_2 := (hS_17.below hb18 hS_17.lt).cell (i := 2) rfl
    have qhS_3 := (hS_17.below hb18 hS_17.lt).cell (i := 3) rfl
    have qq0 := hV18.cell (i := 0) rfl
    have qq1 := hV18.cell (i := 1) rfl
    have qq2 := hV18.cell (i := 2) rfl
    have qq3 := hV18.cell (i := 3) rfl
    go_wp2_with (fail)
    clear qhS_0 qhS_1 qhS_2 qhS_3 qq0 qq1 qq2 qq3
    generalize v17.alloc (.cells #[.string onm, .int .i64 obs, .slice A17 OH.length a17, .slice B17 OG.length b17] 29) = v18 at hV18 hb18 hs18 ⊢
    have hz18 := hb18.size
    have hB18 := hB17.below hb18 hB17.lt
    have hS_18 := hS_17.below hb18 hS_17.lt
    have hP18 := hP17.below hb18 hP17.lt
    have hQ18 := hQ17.below hb18 hQ17.lt
    have RS18 := RS17.below hb18 (by omega)
    have RG18 := RG17.below hb18 (by omega)
    have GS18 := GS17.below hb18
    have GG18 := GG17.below hb18
    have VS18 := VS17.below hb18
    have VG18 := VG17.below hb18
    have hw18 := hw17.trans (hb18.mono hw17.size)
    clear hB17 hS_17 hP17 hQ17 RS17 RG17 GS17 GG17 VS17 VG17
    have chV0 := hV18.cell (i := 0) rfl
    have chV1 := hV18.cell (i := 1) rfl
    have chV2 := hV18.cell (i := 2) rfl
    have chV3 := hV18.cell (i := 3) rfl
    have chS_0 := hS_18.cell (i := 0) rfl
    have chS_1 := hS_18.cell (i := 1) rfl
    have chS_2 := hS_18.cell (i := 2) rfl
    have chS_3 := hS_18.cell (i := 3) rfl
    go_wp2_with (fail)
    refine (eqTopic_same onm obs _ _ _ _ OH OG _ _ _ _ _ (VS18.strs hOH') (RS18.mono' (by omega)) (VG18.grs hOG') (RG18.mono (by omega))).mono ?_
    rintro e v19 ⟨rfl, hb19⟩
    have hz19 := hb19.size
    have hB19 := hB18.below hb19 hB18.lt
    have hS_19 := hS_18.below hb19 hS_18.lt
    have hP19 := hP18.below hb19 hP18.lt
    have hQ19 := hQ18.below hb19 hQ18.lt
    have hV19 := hV18.below hb19 hV18.lt
    have RS19 := RS18.below hb19 (by omega)
    have RG19 := RG18.below hb19 (by omega)
    have GS19 := GS18.below hb19
    have GG19 := GG18.below hb19
    have VS19 := VS18.below hb19
    have VG19 := VG18.below hb19
    have hw19 := hw18.trans (hb19.mono hw18.size)
    clear hB18 hS_18 hP18 hQ18 hV18 RS18 RG18 GS18 GG18 VS18 VG18
    clear chV0 chV1 chV2 chV3 chS_0 chS_1 chS_2 chS_3
    have chQ0 := hQ19.cell (i := 0) rfl
    have chQ1 := hQ19.cell (i := 1) rfl
    have chQ2 := hQ19.cell (i := 2) rfl
    have chQ3 := hQ19.cell (i := 3) rfl
    have HD := heldTopic_any onm obs _ OH.length a7 _ OG.length b7 1 _ (GS19.strs (by rw [markN_len]; exact hOH')) (GG19.grs (by rw [markG_len]; exact hOG')) (by omega) (by omega)
    rw [Hm3.out] at HD
    go_wp2_with (fail)
    refine (HD).mono ?_
    rintro e v20 ⟨rfl, hb20⟩
    have hz20 := hb20.size
    have hB20 := hB19.below hb20 hB19.lt
    have hS_20 := hS_19.below hb20 hS_19.lt
    have hP20 := hP19.below hb20 hP19.lt
    have hQ20 := hQ19.below hb20 hQ19.lt
    have hV20 := hV19.below hb20 hV19.lt
    have RS20 := RS19.below hb20 (by omega)
    have RG20 := RG19.below hb20 (by omega)
    have GS20 := GS19.below hb20
    have GG20 := GG19.below hb20
    have VS20 := VS19.below hb20
    have VG20 := VG19.below hb20
    have hw20 := hw19.trans (hb20.mono hw19.size)
    clear hB19 hS_19 hP19 hQ19 hV19 RS19 RG19 GS19 GG19 VS19 VG19
    clear chQ0 chQ1 chQ2 chQ3
    clear HD
    go_wp2
    go_ret
    exact ⟨rfl, hw20⟩
end Go.Proofs.Ytkimieeabmjfgaa
