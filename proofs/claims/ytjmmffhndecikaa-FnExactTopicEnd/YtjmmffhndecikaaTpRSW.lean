/- What the exact laws do with a TopicOut. What the changes of a topic answer: the specification and the program. The method run of topicWork, with publish. The contract of spec.TopicRight. -/
import Derived.Test.YtjmmffhndecikaaTpToW
import Derived.Test.YtjmmffhndecikaaTpCopyW
import Derived.Test.YtjmmffhndecikaaCloneW
import Derived.Test.YtjmmffhndecikaaTpRIW
import Derived.BigQuiet
namespace Go.Proofs.Ytjmmffhndecikaa
open Go.RowKit
set_option linter.unusedVariables false
set_option maxRecDepth 1000000

/-- The value of a TopicOut. -/
abbrev outV (nm : ByteArray) (bs : Int) (h g t : Value) (n co : Int) : Value := .agg #[.string nm, .int .i64 bs, h, g, t, .int .i64 n, .int .i64 co]
/-- The texts that are fetched lie apart from the messages. -/
def Apart (A B : Option Addr) : Prop := ∀ a b, A = some a → B = some b → a.block ≠ b.block
theorem Apart.map {A B : Option Addr} (h : Apart A B) {a : Addr} (ha : A = some a) : A.map (·.block) ≠ B.map (·.block) := by
  subst ha
  cases B with
  | none => simp
  | some b => simpa using h a b rfl rfl
theorem Sl.apart {w w' : World} {lo hi : Nat} {t : TypeId} {A B : Option Addr} {xs ys : List Value} (h : Sl w lo hi t A xs) (hc : Wr w w' B ys) (ha : Apart A B) : Sl w' lo hi t A xs := by
  refine h.keep hc fun hx hy => ?_
  rcases h with h | ⟨g, off, cs, h1, _⟩
  · exact absurd h hx
  · exact ha.map h1
theorem Apart.symm {A B : Option Addr} (h : Apart A B) : Apart B A := fun a b ha hb e => h b a hb ha e.symm
theorem Wr.below {w w1 w2 : World} {A : Option Addr} {xs : List Value} (hb : Below w.heap.size w w1) (h : Wr w1 w2 A xs) : Wr w w2 A xs := by
  obtain ⟨row, hg, hr⟩ := h
  exact ⟨row, ⟨hg.os.trans hb.os, hg.tape.trans hb.tape, hg.output.trans hb.output, Nat.le_trans hb.size hg.size, fun k hk hne => (hg.block k (by have := hb.size; omega) hne).trans (hb.block k hk)⟩, hr⟩
set_option maxHeartbeats 2000000 in
theorem eqTopicOut_same (nm : ByteArray) (bs : Int) (A B C D S T : Option Addr) (H : List ByteArray) (G : List Grp) (N : List ByteArray) (n co : Int) (a b c d x y : Nat) (w : World) (hA : Strs w w.heap.size A H) (hC : Strs w w.heap.size C H) (hB : Grs w w.heap.size B G) (hD : Grs w w.heap.size D G) (hS : Strs w w.heap.size S N) (hT : Strs w w.heap.size T N) :
    Calls Try.prog 44 #[outV nm bs (.slice A H.length a) (.slice B G.length b) (.slice S N.length x) n co, outV nm bs (.slice C H.length c) (.slice D G.length d) (.slice T N.length y) n co] w fun e w' => e = .returned (.bool true) ∧ Below w.heap.size w w' := by
  have h0 := (Blk.fresh w 30 [.string nm, .int .i64 bs, .slice A H.length a, .slice B G.length b, .slice S N.length x, .int .i64 n, .int .i64 co]).alloc (.cells #[.string nm, .int .i64 bs, .slice C H.length c, .slice D G.length d, .slice T N.length y, .int .i64 n, .int .i64 co] 30)
  have h1 := Blk.fresh (w.alloc (.cells #[.string nm, .int .i64 bs, .slice A H.length a, .slice B G.length b, .slice S N.length x, .int .i64 n, .int .i64 co] 30)) 30 [.string nm, .int .i64 bs, .slice C H.length c, .slice D G.length d, .slice T N.length y, .int .i64 n, .int .i64 co]
  have hb0 : Below w.heap.size w ((w.alloc (.cells #[.string nm, .int .i64 bs, .slice A H.length a, .slice B G.length b, .slice S N.length x, .int .i64 n, .int .i64 co] 30)).alloc (.cells #[.string nm, .int .i64 bs, .slice C H.length c, .slice D G.length d, .slice T N.length y, .int .i64 n, .int .i64 co] 30)) := ((Below.refl _ w).alloc (Nat.le_refl _) _).alloc (by simp) _
  simp only [List.toArray, World.size_alloc] at h0 h1
  have HE := Lib.hid (eqTopic_same nm bs A B C D H G a b c d _ (hA.on hb0) (hC.on hb0) (hB.on hb0) (hD.on hb0))
  have HT := Lib.hid (fun W (h : Below w.heap.size w W) => eqStringS_same S T N x y W (hS.on h) (hT.on h))
  go_enter Try.func44, Try.ntmps44
  go_wp2_with (fail)
  refine HE.out.mono ?_
  rintro e w1 ⟨rfl, hb1⟩
  clear HE
  have g0 := h0.below hb1 h0.lt
  have g1 := h1.below hb1 h1.lt
  have hw1 := hb0.trans (hb1.mono hb0.size)
  clear h0 h1 hb0 hb1
  have k3 := g0.cell (i := 4) rfl
  have l3 := g1.cell (i := 4) rfl
  go_wp2_with (fail)
  refine (HT.out _ hw1).mono ?_
  rintro e w2 ⟨rfl, hb2⟩
  have p0 := g0.below hb2 g0.lt
  have p1 := g1.below hb2 g1.lt
  have k5 := p0.cell (i := 5) rfl
  have l5 := p1.cell (i := 5) rfl
  have k6 := p0.cell (i := 6) rfl
  have l6 := p1.cell (i := 6) rfl
  clear k3 l3
  go_wp2
  go_ret
  exact ⟨rfl, hw1.trans (hb2.mono hw1.size)⟩
set_option maxHeartbeats 2000000 in
theorem markTopic_sl (nm : ByteArray) (bs : Int) (A : Option Addr) (H : List ByteArray) (c : Nat) (B : Option Addr) (G : List Grp) (d lo hi k : Nat) (w : World) (h : Sl w lo hi 9 A (H.map Value.string)) (h2 : Sl w lo hi 47 B (gflat G)) (h0 : 1 ≤ k) (h1 : k + H.length + 2 * G.length ≤ 4000000) :
    Calls Try.prog 45 #[topV nm bs (.slice A H.length c) (.slice B G.length d), .int .i64 k] w fun e w' => e = .returned (.int .i64 ((k + H.length + 2 * G.length : Nat) : Int)) ∧
      Sl w' lo hi 9 A ((markN H.length k).map Value.string) ∧ Sl w' lo hi 47 B (gflat (markG G.length (k + H.length))) ∧ (∀ t' C zs, t' ≠ 47 → Sl w lo hi t' C zs → Apart C A → Sl w' lo hi t' C zs) ∧ Chg w w' lo hi := by
  have hb0 : Below w.heap.size w (w.alloc (.cells #[.string nm, .int .i64 bs, .slice A H.length c, .slice B G.length d] 26)) := (Below.refl _ w).alloc (Nat.le_refl _) _
  have k0 := Blk.fresh w 26 [.string nm, .int .i64 bs, .slice A H.length c, .slice B G.length d]
  have HK : Hid (∀ t' C zs, Sl w lo hi t' C zs → Sl (w.alloc (.cells #[.string nm, .int .i64 bs, .slice A H.length c, .slice B G.length d] 26)) lo hi t' C zs) := Lib.hid fun t' C zs q => q.below hb0
  have q1 := h.below hb0
  have q2 := h2.below hb0
  simp only [List.toArray] at k0
  obtain ⟨j, HJ⟩ : ∃ j, Hid (k + H.length = j) := ⟨_, Lib.hid rfl⟩
  have hj : 1 ≤ j ∧ j + 2 * G.length ≤ 4000000 := by have := HJ.out; omega
  have hkl : k + H.length ≤ 4000000 := by omega
  rw [HJ.out]
  have hxb : ∀ row, (∀ q, row = some q → (H.map Value.string) ≠ [] ∧ A.map (·.block) = some q) → row ≠ some w.heap.size := by
    intro row hr e
    obtain ⟨hx, hy⟩ := hr _ e
    rcases h with h | ⟨g, off, cs, e1, _, e3, _⟩
    · exact hx h
    · rw [e1] at hy
      have := e3.lt
      simp at hy
      omega
  clear h1
  go_enter Try.func45, Try.ntmps45
  go_wp2_with (fail)
  generalize w.alloc (.cells #[.string nm, .int .i64 bs, .slice A H.length c, .slice B G.length d] 26) = v0 at hb0 k0 HK q1 q2 ⊢
  have MS := markStringS_sl A H c lo hi k v0 q1 h0 hkl
  rw [HJ.out] at MS
  refine MS.mono ?_
  rintro e w1 ⟨rfl, hX, hr, hc⟩
  have q3 := q2.keep hr (q2.differ q1 (by decide))
  have k1 : Blk w1 w.heap.size 26 [.string nm, .int .i64 bs, .slice A H.length c, .slice B G.length d] := by
    obtain ⟨row, hg, hrr⟩ := hr
    exact k0.grown hg (fun e => hxb row hrr e.symm)
  have c3 := k1.cell (i := 3) rfl
  have MG := Lib.hid (markGroupS_sl B G d lo hi j w1 q3 hj.1 hj.2)
  clear MS hxb
  go_wp2_with (fail)
  refine MG.out.mono ?_
  rintro e w2 ⟨rfl, hY, hr2, hc2⟩
  have hX2 := hX.keep hr2 (hX.differ q3 (by decide))
  clear c3
  go_wp2
  go_ret
  refine ⟨rfl, hX2, hY, fun t' C zs ht hz ha => ?_, Chg.after hb0 (hc.trans hc2)⟩
  have z1 := (HK.out t' C zs hz).apart hr ha
  exact z1.keep hr2 (z1.differ q3 ht)
set_option maxHeartbeats 2000000 in
theorem heldTopic_any (nm : ByteArray) (bs : Int) (A : Option Addr) (n c : Nat) (B : Option Addr) (m d k : Nat) (w : World) (hA : Strs w w.heap.size A (markN n k)) (hB : Grs w w.heap.size B (markG m (k + n))) (h0 : 1 ≤ k) (h1 : k + n + 2 * m ≤ 4000000) :
    Calls Try.prog 89 #[topV nm bs (.slice A n c) (.slice B m d), .int .i64 k] w fun e w' => e = .returned (.int .i64 ((k + n + 2 * m : Nat) : Int)) ∧ Below w.heap.size w w' := by
  have hb0 : Below w.heap.size w (w.alloc (.cells #[.string nm, .int .i64 bs, .slice A n c, .slice B m d] 26)) := (Below.refl _ w).alloc (Nat.le_refl _) _
  have k0 := Blk.fresh w 26 [.string nm, .int .i64 bs, .slice A n c, .slice B m d]
  simp only [List.toArray] at k0
  obtain ⟨j, HJ⟩ : ∃ j, Hid (k + n = j) := ⟨_, Lib.hid rfl⟩
  have HS := heldStringS_any A n c k _ (hA.on hb0) h0 (by omega)
  rw [HJ.out] at HS hB ⊢
  have hj : 1 ≤ j ∧ j + 2 * m ≤ 4000000 := by have := HJ.out; omega
  have hj' : ¬ ((j : Int) < 0) := by omega
  have hjm : ¬ (((j + 2 * m : Nat) : Int) < 0) := by omega
  have HSH := Lib.hid HS
  have HT := Lib.hid (fun W (h : Below w.heap.size w W) => heldGroupS_any B m d j W (hB.on h) hj.1 hj.2)
  clear HS h1
  go_enter Try.func89, Try.ntmps89
  go_wp2_with (fail)
  refine HSH.out.mono ?_
  rintro e w1 ⟨rfl, hb1⟩
  have hw1 := hb0.trans (hb1.mono hb0.size)
  have k1 := k0.below hb1 k0.lt
  have k3 := k1.cell (i := 3) rfl
  clear HSH
  go_wp2_with (fail)
  refine (HT.out _ hw1).mono ?_
  rintro e w2 ⟨rfl, hb2⟩
  go_wp2
  go_ret
  exact ⟨rfl, hw1.trans (hb2.mono hw1.size)⟩
set_option maxHeartbeats 2000000 in
theorem markTopicOut_sl (nm : ByteArray) (bs : Int) (A : Option Addr) (H : List ByteArray) (c : Nat) (B : Option Addr) (G : List Grp) (d : Nat) (T : Option Addr) (N : List ByteArray) (x : Nat) (n co : Int) (lo hi k : Nat) (w : World) (h : Sl w lo hi 9 A (H.map Value.string)) (h2 : Sl w lo hi 47 B (gflat G)) (h3 : Sl w lo hi 9 T (N.map Value.string)) (ha : Apart A T) (h0 : 1 ≤ k) (h1 : k + H.length + 2 * G.length + N.length ≤ 4000000) (hhi : hi ≤ w.heap.size) :
    Calls Try.prog 46 #[outV nm bs (.slice A H.length c) (.slice B G.length d) (.slice T N.length x) n co, .int .i64 k] w fun e w' => e = .returned (.int .i64 ((k + H.length + 2 * G.length + N.length : Nat) : Int)) ∧
      Sl w' lo hi 9 A ((markN H.length k).map Value.string) ∧ Sl w' lo hi 47 B (gflat (markG G.length (k + H.length))) ∧ Sl w' lo hi 9 T ((markN N.length (k + H.length + 2 * G.length)).map Value.string) ∧ Chg w w' lo hi := by
  have hb0 : Below w.heap.size w (w.alloc (.cells #[.string nm, .int .i64 bs, .slice A H.length c, .slice B G.length d, .slice T N.length x, .int .i64 n, .int .i64 co] 30)) := (Below.refl _ w).alloc (Nat.le_refl _) _
  have k0 := Blk.fresh w 30 [.string nm, .int .i64 bs, .slice A H.length c, .slice B G.length d, .slice T N.length x, .int .i64 n, .int .i64 co]
  simp only [List.toArray] at k0
  have q1 := h.below hb0
  have q2 := h2.below hb0
  have q3 := h3.below hb0
  obtain ⟨j, HJ⟩ : ∃ j, Hid (k + H.length + 2 * G.length = j) := ⟨_, Lib.hid rfl⟩
  have hj : 1 ≤ j ∧ j + N.length ≤ 4000000 := by have := HJ.out; omega
  have hkl : k + H.length + 2 * G.length ≤ 4000000 := by omega
  have MT := markTopic_sl nm bs A H c B G d lo hi k _ q1 q2 h0 hkl
  rw [HJ.out] at MT ⊢
  have MH := Lib.hid MT
  clear MT h1
  go_enter Try.func46, Try.ntmps46
  go_wp2_with (fail)
  refine MH.out.mono ?_
  rintro e w1 ⟨rfl, hX, hY, hO, hc⟩
  have z3 := hO _ _ _ (by decide) q3 ha.symm
  have k1 := k0.offC hc (by omega)
  have hc1 := Chg.after hb0 hc
  have c3 := k1.cell (i := 4) rfl
  clear MH hO hb0
  go_wp2_with (fail)
  refine (markStringS_sl T N x lo hi j w1 z3 hj.1 hj.2).mono ?_
  rintro e w2 ⟨rfl, hZ, hr2, hc2⟩
  have hX2 := hX.apart hr2 ha
  have hY2 := hY.keep hr2 (hY.differ z3 (by decide))
  clear c3
  go_wp2
  go_ret
  exact ⟨rfl, hX2, hY2, hZ, hc1.trans hc2⟩
set_option maxHeartbeats 2000000 in
theorem heldTopicOut_any (nm : ByteArray) (bs : Int) (A : Option Addr) (n c : Nat) (B : Option Addr) (m d : Nat) (T : Option Addr) (p x : Nat) (nn co : Int) (k : Nat) (w : World) (hA : Strs w w.heap.size A (markN n k)) (hB : Grs w w.heap.size B (markG m (k + n))) (hT : Strs w w.heap.size T (markN p (k + n + 2 * m))) (h0 : 1 ≤ k) (h1 : k + n + 2 * m + p ≤ 4000000) :
    Calls Try.prog 47 #[outV nm bs (.slice A n c) (.slice B m d) (.slice T p x) nn co, .int .i64 k] w fun e w' => e = .returned (.int .i64 ((k + n + 2 * m + p : Nat) : Int)) ∧ Below w.heap.size w w' := by
  have hb0 : Below w.heap.size w (w.alloc (.cells #[.string nm, .int .i64 bs, .slice A n c, .slice B m d, .slice T p x, .int .i64 nn, .int .i64 co] 30)) := (Below.refl _ w).alloc (Nat.le_refl _) _
  have k0 := Blk.fresh w 30 [.string nm, .int .i64 bs, .slice A n c, .slice B m d, .slice T p x, .int .i64 nn, .int .i64 co]
  simp only [List.toArray] at k0
  obtain ⟨j, HJ⟩ : ∃ j, Hid (k + n + 2 * m = j) := ⟨_, Lib.hid rfl⟩
  have HM := heldTopic_any nm bs A n c B m d k _ (hA.on hb0) (hB.on hb0) h0 (by omega)
  rw [HJ.out] at HM hT ⊢
  have hj : 1 ≤ j ∧ j + p ≤ 4000000 := by have := HJ.out; omega
  have hj' : ¬ ((j : Int) < 0) := by omega
  have hjp : ¬ (((j + p : Nat) : Int) < 0) := by omega
  have HMH := Lib.hid HM
  have HT := Lib.hid (fun W (h : Below w.heap.size w W) => heldStringS_any T p x j W (hT.on h) hj.1 hj.2)
  clear HM h1
  go_enter Try.func47, Try.ntmps47
  go_wp2_with (fail)
  refine HMH.out.mono ?_
  rintro e w1 ⟨rfl, hb1⟩
  have hw1 := hb0.trans (hb1.mono hb0.size)
  have k1 := k0.below hb1 k0.lt
  have k3 := k1.cell (i := 4) rfl
  clear HMH
  go_wp2_with (fail)
  refine (HT.out _ hw1).mono ?_
  rintro e w2 ⟨rfl, hb2⟩
  go_wp2
  go_ret
  exact ⟨rfl, hw1.trans (hb2.mono hw1.size)⟩
end Go.Proofs.Ytjmmffhndecikaa

namespace Go.Proofs.Ytjmmffhndecikaa
open Go.RowKit
set_option linter.unusedVariables false
set_option maxRecDepth 1000000

/-- An answer: a topic, texts, a number, a code. -/
structure Ans where
  o : Tpc
  texts : List ByteArray
  n : Int
  code : Int
def ill (c : Int) : Ans := ⟨⟨⟨#[]⟩, 0, [], []⟩, [], 0, c⟩
/-- What the specification answers: rows that can be read. -/
def SpO (W w' : World) (e : Ending) (R : Ans) : Prop :=
  ∃ A a B b T x, e = .returned (outV R.o.name R.o.base (.slice A R.o.held.length a) (.slice B R.o.groups.length b) (.slice T R.texts.length x) R.n R.code) ∧ Strs w' w'.heap.size A R.o.held ∧ Grs w' w'.heap.size B R.o.groups ∧ Strs w' w'.heap.size T R.texts ∧ Cap A R.o.held.length a ∧ Cap B R.o.groups.length b ∧ Below W.heap.size W w'
/-- What the program answers: rows of its own. -/
def ImO (W w' : World) (e : Ending) (R : Ans) : Prop :=
  ∃ A a B b T x, e = .returned (outV R.o.name R.o.base (.slice A R.o.held.length a) (.slice B R.o.groups.length b) (.slice T R.texts.length x) R.n R.code) ∧ Sl w' W.heap.size w'.heap.size 9 A (R.o.held.map Value.string) ∧ Sl w' W.heap.size w'.heap.size 47 B (gflat R.o.groups) ∧ Sl w' W.heap.size w'.heap.size 9 T (R.texts.map Value.string) ∧ Apart A T ∧ Cap A R.o.held.length a ∧ Cap B R.o.groups.length b ∧ Below W.heap.size W w'
theorem strs_nil (w : World) (B : Nat) (A : Option Addr) : Strs w B A [] := ⟨by simp [maxLen], fun i h => absurd h (by simp)⟩
theorem grs_nil (w : World) (B : Nat) (A : Option Addr) : Grs w B A [] := ⟨by simp [maxLen], fun i h => absurd h (by simp)⟩
theorem cap_nil : Cap none 0 0 := ⟨fun _ => rfl, Nat.le_refl _, by simp [maxLen]⟩
abbrev illV (c : Int) : Value := outV ⟨#[]⟩ 0 (.slice none 0 0) (.slice none 0 0) (.slice none 0 0) 0 c
theorem SpO.ill {W w' : World} {c : Int} (h : Below W.heap.size W w') : SpO W w' (.returned (illV c)) (ill c) :=
  ⟨none, 0, none, 0, none, 0, rfl, strs_nil _ _ _, grs_nil _ _ _, strs_nil _ _ _, cap_nil, cap_nil, h⟩
theorem ImO.ill {W w' : World} {c : Int} (h : Below W.heap.size W w') : ImO W w' (.returned (illV c)) (ill c) :=
  ⟨none, 0, none, 0, none, 0, rfl, .inl rfl, .inl rfl, .inl rfl, (fun a b h => by cases h), cap_nil, cap_nil, h⟩
theorem l07Ill_any (c : Int) (w : World) : Calls Try.prog 57 #[.int .i64 c] w fun e w' => e = .returned (illV c) ∧ Below w.heap.size w w' := by
  go_enter Try.func57, Try.ntmps57
  go_wp2
  exact bodyPost_ret (v := illV c) (by simp [results, Try.results57, go_sem]) rfl ⟨rfl, below_box _ _⟩
end Go.Proofs.Ytjmmffhndecikaa

namespace Go.Proofs.Ytjmmffhndecikaa
open Go.RowKit Go.Deep
set_option linter.unusedVariables false
set_option maxRecDepth 1000000
/-- What run answers: rows made from lo on; blocks below lo are as they were. -/
def RunO (lo : Nat) (W w' : World) (e : Ending) (R : Ans) : Prop :=
  ∃ A a B b T x, e = .returned (outV R.o.name R.o.base (.slice A R.o.held.length a) (.slice B R.o.groups.length b) (.slice T R.texts.length x) R.n R.code) ∧ Sl w' lo w'.heap.size 9 A (R.o.held.map Value.string) ∧ Sl w' lo w'.heap.size 47 B (gflat R.o.groups) ∧ Sl w' lo w'.heap.size 9 T (R.texts.map Value.string) ∧ Apart A T ∧ Cap A R.o.held.length a ∧ Cap B R.o.groups.length b ∧ Below lo W w'
/-- Answers that lay there lie there still. -/
def Kp (w W : World) (p : Nat) : Prop := ∀ g cs, g ≠ p → Blk w g 30 cs → Blk W g 30 cs
theorem Kp.refl (w : World) (p : Nat) : Kp w w p := fun g cs _ h => h
theorem Kp.alloc {w W : World} {p : Nat} (h : Kp w W p) (o : Obj) : Kp w (W.alloc o) p := fun g cs hg hb => (h g cs hg hb).alloc o
theorem Kp.below {w W W' : World} {p : Nat} (h : Kp w W p) (hb : Below W.heap.size W W') : Kp w W' p := fun g cs hg hk => (h g cs hg hk).below hb (h g cs hg hk).lt
theorem Kp.put {w W : World} {p : Nat} (h : Kp w W p) (q : Addr) (hq : q.block = p ∨ w.heap.size ≤ q.block) (v : Value) : Kp w (W.setCell q v) p := fun g cs hg hk => (h g cs hg hk).far (by have := hk.lt; rcases hq with hq | hq <;> omega) v
theorem Kp.then {w W W' : World} {p : Nat} (h : Kp w W p) (hk : ∀ g cs, g ≠ p → Blk W g 30 cs → Blk W' g 30 cs) : Kp w W' p := fun g cs hg hb => hk g cs hg (h g cs hg hb)
theorem RunO.ill {lo : Nat} {W w' : World} {c : Int} (h : Below lo W w') : RunO lo W w' (.returned (illV c)) (ill c) :=
  ⟨none, 0, none, 0, none, 0, rfl, .inl rfl, .inl rfl, .inl rfl, (fun a b h => by cases h), cap_nil, cap_nil, h⟩
/-- TopicPublish behind the tests of its arguments. -/
noncomputable def pubR (t : Tpc) (s : ByteArray) (r : Bool) : Ans :=
  if (topB t && r) = false then ill 1 else if fullB t = true then ill 9 else ⟨⟨t.name, t.base, t.held ++ [s], t.groups⟩, [], t.base + t.held.length, 0⟩
theorem run_end {lo : Nat} {w w9 : World} {nm : ByteArray} {s : ByteArray} {bs : Int} {H : List ByteArray} {G : List Grp} {E B : Option Addr} {c b : Nat} {R : Ans} (h : R = ⟨⟨nm, bs, H ++ [s], G⟩, [], bs + H.length, 0⟩) (hS : OwnS w9 lo (.slice E (H ++ [s]).length c) (H ++ [s])) (hG : OwnG w9 lo (.slice B G.length b) G) (hb : Below lo w w9) :
    RunO lo w w9 (.returned (outV nm bs (.slice E (H.length + 1) c) (.slice B G.length b) (.slice none 0 0) (bs + H.length) 0)) R := by
  subst h
  have e : (H ++ [s]).length = H.length + 1 := by simp
  rw [← e]
  exact ⟨E, c, B, b, none, 0, rfl, Sl.of_own hS rfl, Sl.of_own hG rfl, .inl rfl, (fun a b h h2 => by cases h2), Cap.own hS, Cap.own hG, hb⟩
set_option maxHeartbeats 8000000 in
theorem runPub_any (t : Tpc) (s : ByteArray) (r : Bool) (lo p : Nat) (A : Option Addr) (c : Nat) (B : Option Addr) (d : Nat) (w : World) (hf : t.fits) (hsm : t.small) (hs : s.size ≤ 1048576) (hA : Strs w w.heap.size A t.held) (hB : Grs w w.heap.size B t.groups) (hp : lo ≤ p) (P : Blk w p 69 [.string ⟨#[]⟩, .int .i64 0, .slice none 0 0, .slice none 0 0, .string s, .int .i64 0, .slice none 0 0, .int .i64 0]) :
    Calls Try.prog 53 #[.pointer (some ⟨p, 0, none⟩), topV t.name t.base (.slice A t.held.length c) (.slice B t.groups.length d), .bool r, (.func (.func 55) #[.pointer (some ⟨p, 0, none⟩)] #[])] w fun e w' => RunO lo w w' e (pubR t s r) ∧ Kp w w' p := by
  have hlow : lo ≤ w.heap.size := Nat.le_trans hp (Nat.le_of_lt P.lt)
  have hplt := P.lt
  have TR := Lib.hid (fun W (h : Below w.heap.size w W) => implTopicRight_any t A c B d W hf (hA.on h) (hB.on h))
  have HR0 : Hid (pubR t s r = _) := Lib.hid (pubR.eq_def t s r)
  have HO := Lib.hid (topB_iff (t := t))
  have FT := Lib.hid (fun W (h : Below w.heap.size w W) (ho : topOK t) => freshTopic_any t A c B d W hsm.1 (fun x hx => by obtain ⟨i, hi, rfl⟩ := List.mem_iff_getElem.1 hx; exact hsm.2.1.2 i hi) (fun x hx => by obtain ⟨i, hi, rfl⟩ := List.mem_iff_getElem.1 hx; exact hsm.2.2.2 i hi) ho.2.2.1 ho.2.2.2.2.1 (hA.on h) (hB.on h))
  have PB := Lib.hid (fun W A2 a2 B2 b2 (h : Wk W lo p t s 0 A2 a2 B2 b2) (ho : topOK t) => publish_any t s 0 lo p A2 a2 B2 b2 W h hp hs ho.2.2.1 (inB_true ho.2.1).1 ho.2.2.2.2.2.1)
  obtain ⟨rr, HRR⟩ : ∃ x, Hid (pubR t s r = x) := ⟨_, Lib.hid rfl⟩
  rw [HRR.out] at HR0 ⊢
  obtain ⟨nm, bs, H, G⟩ := t
  simp only at TR HR0 FT hA hB ⊢
  have K := (Blk.fresh w 26 [.string nm, .int .i64 bs, .slice A H.length c, .slice B G.length d]).alloc (.cells #[.string ⟨#[]⟩, .int .i64 0, .slice none 0 0, .slice none 0 0, .slice none 0 0, .int .i64 0, .int .i64 0] 30)
  have O := Blk.fresh (w.alloc (.cells #[.string nm, .int .i64 bs, .slice A H.length c, .slice B G.length d] 26)) 30 [.string ⟨#[]⟩, .int .i64 0, .slice none 0 0, .slice none 0 0, .slice none 0 0, .int .i64 0, .int .i64 0]
  have hb : Below w.heap.size w ((w.alloc (.cells #[.string nm, .int .i64 bs, .slice A H.length c, .slice B G.length d] 26)).alloc (.cells #[.string ⟨#[]⟩, .int .i64 0, .slice none 0 0, .slice none 0 0, .slice none 0 0, .int .i64 0, .int .i64 0] 30)) := ((Below.refl _ _).alloc (Nat.le_refl _) _).alloc (by simp) _
  simp only [World.size_alloc] at K O
  replace K : Blk ((w.alloc (.cells #[.string nm, .int .i64 bs, .slice A H.length c, .slice B G.length d] 26)).alloc (.cells #[.string ⟨#[]⟩, .int .i64 0, .slice none 0 0, .slice none 0 0, .slice none 0 0, .int .i64 0, .int .i64 0] 30)) w.heap.size 26 [.string nm, .int .i64 bs, .slice A H.length c, .slice B G.length d] := K
  replace O : Blk ((w.alloc (.cells #[.string nm, .int .i64 bs, .slice A H.length c, .slice B G.length d] 26)).alloc (.cells #[.string ⟨#[]⟩, .int .i64 0, .slice none 0 0, .slice none 0 0, .slice none 0 0, .int .i64 0, .int .i64 0] 30)) (w.heap.size + 1) 30 [.string ⟨#[]⟩, .int .i64 0, .slice none 0 0, .slice none 0 0, .slice none 0 0, .int .i64 0, .int .i64 0] := O
  have hbw := hb
  replace hb := hb.mono hlow
  have kp := ((Kp.refl w p).alloc (.cells #[.string nm, .int .i64 bs, .slice A H.length c, .slice B G.length d] 26)).alloc (.cells #[.string ⟨#[]⟩, .int .i64 0, .slice none 0 0, .slice none 0 0, .slice none 0 0, .int .i64 0, .int .i64 0] 30)
  replace P := (P.alloc (.cells #[.string nm, .int .i64 bs, .slice A H.length c, .slice B G.length d] 26)).alloc (.cells #[.string ⟨#[]⟩, .int .i64 0, .slice none 0 0, .slice none 0 0, .slice none 0 0, .int .i64 0, .int .i64 0] 30)
  cases r with
  | false =>
    have HR : Hid (rr = ill 1) := Lib.hid (by rw [HR0.out, if_pos (by simp)])
    clear HR0
    go_enter Try.func53, Try.ntmps53
    go_upto_region 2 with (fail)
    generalize (w.alloc (.cells #[.string nm, .int .i64 bs, .slice A H.length c, .slice B G.length d] 26)).alloc (.cells #[.string ⟨#[]⟩, .int .i64 0, .slice none 0 0, .slice none 0 0, .slice none 0 0, .int .i64 0, .int .i64 0] 30) = v0 at K O P hb hbw kp ⊢
    have qc0 := O.cell (i := 0) rfl
    have qf0 := O.froz 0
    have qc1 := O.cell (i := 1) rfl
    have qf1 := O.froz 1
    have qc2 := O.cell (i := 2) rfl
    have qf2 := O.froz 2
    have qc3 := O.cell (i := 3) rfl
    have qf3 := O.froz 3
    have qc4 := O.cell (i := 4) rfl
    have qf4 := O.froz 4
    have qc5 := O.cell (i := 5) rfl
    have qf5 := O.froz 5
    have qc6 := O.cell (i := 6) rfl
    have qf6 := O.froz 6
    go_wp2
    clear qc0 qf0 qc1 qf1 qc2 qf2 qc3 qf3 qc4 qf4 qc5 qf5 qc6 qf6
    have O9 := (((((((O.put 0 (.string ⟨#[]⟩)).put 1 (.int .i64 0)).put 2 (.slice none 0 0)).put 3 (.slice none 0 0)).put 4 (.slice none 0 0)).put 5 (.int .i64 0)).put 6 (.int .i64 1))
    have hb9 := (((((((hb.setCell (p := ⟨w.heap.size + 1, 0, none⟩) (by simp <;> omega) (.string ⟨#[]⟩)).setCell (p := ⟨w.heap.size + 1, 1, none⟩) (by simp <;> omega) (.int .i64 0)).setCell (p := ⟨w.heap.size + 1, 2, none⟩) (by simp <;> omega) (.slice none 0 0)).setCell (p := ⟨w.heap.size + 1, 3, none⟩) (by simp <;> omega) (.slice none 0 0)).setCell (p := ⟨w.heap.size + 1, 4, none⟩) (by simp <;> omega) (.slice none 0 0)).setCell (p := ⟨w.heap.size + 1, 5, none⟩) (by simp <;> omega) (.int .i64 0)).setCell (p := ⟨w.heap.size + 1, 6, none⟩) (by simp <;> omega) (.int .i64 1))
    have kp9 := (((((((kp.put ⟨w.heap.size + 1, 0, none⟩ (.inr (by simp)) (.string ⟨#[]⟩)).put ⟨w.heap.size + 1, 1, none⟩ (.inr (by simp)) (.int .i64 0)).put ⟨w.heap.size + 1, 2, none⟩ (.inr (by simp)) (.slice none 0 0)).put ⟨w.heap.size + 1, 3, none⟩ (.inr (by simp)) (.slice none 0 0)).put ⟨w.heap.size + 1, 4, none⟩ (.inr (by simp)) (.slice none 0 0)).put ⟨w.heap.size + 1, 5, none⟩ (.inr (by simp)) (.int .i64 0)).put ⟨w.heap.size + 1, 6, none⟩ (.inr (by simp)) (.int .i64 1))
    simp only [List.set_cons_succ, List.set_cons_zero] at O9
    generalize ((((((v0.setCell ⟨w.heap.size + 1, 0, none⟩ (.string ⟨#[]⟩)).setCell ⟨w.heap.size + 1, 1, none⟩ (.int .i64 0)).setCell ⟨w.heap.size + 1, 2, none⟩ (.slice none 0 0)).setCell ⟨w.heap.size + 1, 3, none⟩ (.slice none 0 0)).setCell ⟨w.heap.size + 1, 4, none⟩ (.slice none 0 0)).setCell ⟨w.heap.size + 1, 5, none⟩ (.int .i64 0)).setCell ⟨w.heap.size + 1, 6, none⟩ (.int .i64 1) = w9 at O9 hb9 kp9  ⊢
    have oc0 := O9.cell (i := 0) rfl
    have oc1 := O9.cell (i := 1) rfl
    have oc2 := O9.cell (i := 2) rfl
    have oc3 := O9.cell (i := 3) rfl
    have oc4 := O9.cell (i := 4) rfl
    have oc5 := O9.cell (i := 5) rfl
    have oc6 := O9.cell (i := 6) rfl
    exact bodyPost_ret (v := .agg #[.string ⟨#[]⟩, .int .i64 0, .slice none 0 0, .slice none 0 0, .slice none 0 0, .int .i64 0, .int .i64 1]) (by simp [results, Try.results53, go_sem, oc0, oc1, oc2, oc3, oc4, oc5, oc6]) rfl (⟨by rw [HR.out]; exact RunO.ill hb9, kp9⟩)
  | true =>
  rcases Bool.eq_false_or_eq_true (topB ⟨nm, bs, H, G⟩) with hT | hT
  rotate_left
  · have HR : Hid (rr = ill 1) := Lib.hid (by rw [HR0.out, if_pos (by rw [hT]; rfl)])
    rw [hT] at TR
    clear HR0
    go_enter Try.func53, Try.ntmps53
    go_wp2_with (fail)
    generalize (w.alloc (.cells #[.string nm, .int .i64 bs, .slice A H.length c, .slice B G.length d] 26)).alloc (.cells #[.string ⟨#[]⟩, .int .i64 0, .slice none 0 0, .slice none 0 0, .slice none 0 0, .int .i64 0, .int .i64 0] 30) = v0 at K O P hb hbw kp ⊢
    refine (TR.out _ hbw).mono ?_
    rintro e w0 ⟨rfl, hb0⟩
    replace K := K.below hb0 K.lt
    replace O := O.below hb0 O.lt
    replace P := P.below hb0 P.lt
    replace hb := hb.trans (hb0.mono (Nat.le_trans hlow hb.size))
    replace kp := kp.below hb0
    have qc0 := O.cell (i := 0) rfl
    have qf0 := O.froz 0
    have qc1 := O.cell (i := 1) rfl
    have qf1 := O.froz 1
    have qc2 := O.cell (i := 2) rfl
    have qf2 := O.froz 2
    have qc3 := O.cell (i := 3) rfl
    have qf3 := O.froz 3
    have qc4 := O.cell (i := 4) rfl
    have qf4 := O.froz 4
    have qc5 := O.cell (i := 5) rfl
    have qf5 := O.froz 5
    have qc6 := O.cell (i := 6) rfl
    have qf6 := O.froz 6
    go_wp2
    clear qc0 qf0 qc1 qf1 qc2 qf2 qc3 qf3 qc4 qf4 qc5 qf5 qc6 qf6
    have O9 := (((((((O.put 0 (.string ⟨#[]⟩)).put 1 (.int .i64 0)).put 2 (.slice none 0 0)).put 3 (.slice none 0 0)).put 4 (.slice none 0 0)).put 5 (.int .i64 0)).put 6 (.int .i64 1))
    have hb9 := (((((((hb.setCell (p := ⟨w.heap.size + 1, 0, none⟩) (by simp <;> omega) (.string ⟨#[]⟩)).setCell (p := ⟨w.heap.size + 1, 1, none⟩) (by simp <;> omega) (.int .i64 0)).setCell (p := ⟨w.heap.size + 1, 2, none⟩) (by simp <;> omega) (.slice none 0 0)).setCell (p := ⟨w.heap.size + 1, 3, none⟩) (by simp <;> omega) (.slice none 0 0)).setCell (p := ⟨w.heap.size + 1, 4, none⟩) (by simp <;> omega) (.slice none 0 0)).setCell (p := ⟨w.heap.size + 1, 5, none⟩) (by simp <;> omega) (.int .i64 0)).setCell (p := ⟨w.heap.size + 1, 6, none⟩) (by simp <;> omega) (.int .i64 1))
    have kp9 := (((((((kp.put ⟨w.heap.size + 1, 0, none⟩ (.inr (by simp)) (.string ⟨#[]⟩)).put ⟨w.heap.size + 1, 1, none⟩ (.inr (by simp)) (.int .i64 0)).put ⟨w.heap.size + 1, 2, none⟩ (.inr (by simp)) (.slice none 0 0)).put ⟨w.heap.size + 1, 3, none⟩ (.inr (by simp)) (.slice none 0 0)).put ⟨w.heap.size + 1, 4, none⟩ (.inr (by simp)) (.slice none 0 0)).put ⟨w.heap.size + 1, 5, none⟩ (.inr (by simp)) (.int .i64 0)).put ⟨w.heap.size + 1, 6, none⟩ (.inr (by simp)) (.int .i64 1))
    simp only [List.set_cons_succ, List.set_cons_zero] at O9
    generalize ((((((w0.setCell ⟨w.heap.size + 1, 0, none⟩ (.string ⟨#[]⟩)).setCell ⟨w.heap.size + 1, 1, none⟩ (.int .i64 0)).setCell ⟨w.heap.size + 1, 2, none⟩ (.slice none 0 0)).setCell ⟨w.heap.size + 1, 3, none⟩ (.slice none 0 0)).setCell ⟨w.heap.size + 1, 4, none⟩ (.slice none 0 0)).setCell ⟨w.heap.size + 1, 5, none⟩ (.int .i64 0)).setCell ⟨w.heap.size + 1, 6, none⟩ (.int .i64 1) = w9 at O9 hb9 kp9  ⊢
    have oc0 := O9.cell (i := 0) rfl
    have oc1 := O9.cell (i := 1) rfl
    have oc2 := O9.cell (i := 2) rfl
    have oc3 := O9.cell (i := 3) rfl
    have oc4 := O9.cell (i := 4) rfl
    have oc5 := O9.cell (i := 5) rfl
    have oc6 := O9.cell (i := 6) rfl
    exact bodyPost_ret (v := .agg #[.string ⟨#[]⟩, .int .i64 0, .slice none 0 0, .slice none 0 0, .slice none 0 0, .int .i64 0, .int .i64 1]) (by simp [results, Try.results53, go_sem, oc0, oc1, oc2, oc3, oc4, oc5, oc6]) rfl (⟨by rw [HR.out]; exact RunO.ill hb9, kp9⟩)
  rw [hT] at TR
  have hO := HO.out.1 hT
  have HR1 : Hid (rr = if fullB ⟨nm, bs, H, G⟩ = true then ill 9 else ⟨⟨nm, bs, H ++ [s], G⟩, [], bs + H.length, 0⟩) := Lib.hid (by rw [HR0.out, if_neg (by rw [hT]; decide)])
  have FT1 := Lib.hid (fun W h => FT.out W h hO)
  have PB1 := Lib.hid (fun W A2 a2 B2 b2 h => PB.out W A2 a2 B2 b2 h hO)
  clear HR0 FT PB HO hO hT
  go_enter Try.func53, Try.ntmps53
  go_wp2_with (fail)
  generalize (w.alloc (.cells #[.string nm, .int .i64 bs, .slice A H.length c, .slice B G.length d] 26)).alloc (.cells #[.string ⟨#[]⟩, .int .i64 0, .slice none 0 0, .slice none 0 0, .slice none 0 0, .int .i64 0, .int .i64 0] 30) = v0 at K O P hb hbw kp ⊢
  refine (TR.out _ hbw).mono ?_
  rintro e w1 ⟨rfl, hb1⟩
  replace K := K.below hb1 K.lt
  replace O := O.below hb1 O.lt
  replace P := P.below hb1 P.lt
  replace hb := hb.trans (hb1.mono (Nat.le_trans hlow hb.size))
  replace kp := kp.below hb1
  replace hbw := hbw.trans (hb1.mono hbw.size)
  clear TR hb1
  have kc0 := K.cell (i := 0) rfl
  have kc1 := K.cell (i := 1) rfl
  have kc2 := K.cell (i := 2) rfl
  have kc3 := K.cell (i := 3) rfl
  go_wp2_with (fail)
  refine (FT1.out _ hbw).mono ?_
  rintro e w2 ⟨A2, a2, B2, b2, rfl, oS, oG, hb2⟩
  have hl1 : lo ≤ w1.heap.size := Nat.le_trans hlow hbw.size
  clear kc0 kc1 kc2 kc3
  replace K := K.below hb2 K.lt
  replace O := O.below hb2 O.lt
  replace P := P.below hb2 P.lt
  replace hb := hb.trans (hb2.mono (Nat.le_trans hlow hb.size))
  replace kp := kp.below hb2
  replace oS : OwnS w2 lo (.slice A2 H.length a2) H := own_base oS hl1
  replace oG : OwnG w2 lo (.slice B2 G.length b2) G := own_base oG hl1
  have hl2 : lo ≤ w2.heap.size := Nat.le_trans hl1 hb2.size
  clear FT1 hb2 hbw
  have uc0 := P.cell (i := 0) rfl
  have uf0 := P.froz 0
  have uc1 := P.cell (i := 1) rfl
  have uf1 := P.froz 1
  have uc2 := P.cell (i := 2) rfl
  have uf2 := P.froz 2
  have uc3 := P.cell (i := 3) rfl
  have uf3 := P.froz 3
  go_wp2_with (fail)
  clear uc0 uf0 uc1 uf1 uc2 uf2 uc3 uf3
  have nS := own_not oS P (by decide)
  have nG := own_not oG P (by decide)
  have P3 := ((((P.put 0 (.string nm)).put 1 (.int .i64 bs)).put 2 (.slice A2 H.length a2)).put 3 (.slice B2 G.length b2))
  have O3 := ((((O.far (p := ⟨p, 0, none⟩) (by simp <;> omega) (.string nm)).far (p := ⟨p, 1, none⟩) (by simp <;> omega) (.int .i64 bs)).far (p := ⟨p, 2, none⟩) (by simp <;> omega) (.slice A2 H.length a2)).far (p := ⟨p, 3, none⟩) (by simp <;> omega) (.slice B2 G.length b2))
  have oS3 := (row_off (row_off (row_off (row_off oS (p := ⟨p, 0, none⟩) nS (.string nm)) (p := ⟨p, 1, none⟩) nS (.int .i64 bs)) (p := ⟨p, 2, none⟩) nS (.slice A2 H.length a2)) (p := ⟨p, 3, none⟩) nS (.slice B2 G.length b2))
  have oG3 := (row_off (row_off (row_off (row_off oG (p := ⟨p, 0, none⟩) nG (.string nm)) (p := ⟨p, 1, none⟩) nG (.int .i64 bs)) (p := ⟨p, 2, none⟩) nG (.slice A2 H.length a2)) (p := ⟨p, 3, none⟩) nG (.slice B2 G.length b2))
  have hb3 := ((((hb.setCell (p := ⟨p, 0, none⟩) (by simp <;> omega) (.string nm)).setCell (p := ⟨p, 1, none⟩) (by simp <;> omega) (.int .i64 bs)).setCell (p := ⟨p, 2, none⟩) (by simp <;> omega) (.slice A2 H.length a2)).setCell (p := ⟨p, 3, none⟩) (by simp <;> omega) (.slice B2 G.length b2))
  have kp3 := ((((kp.put ⟨p, 0, none⟩ (.inl rfl) (.string nm)).put ⟨p, 1, none⟩ (.inl rfl) (.int .i64 bs)).put ⟨p, 2, none⟩ (.inl rfl) (.slice A2 H.length a2)).put ⟨p, 3, none⟩ (.inl rfl) (.slice B2 G.length b2))
  simp only [List.set_cons_succ, List.set_cons_zero] at P3
  generalize (((w2.setCell ⟨p, 0, none⟩ (.string nm)).setCell ⟨p, 1, none⟩ (.int .i64 bs)).setCell ⟨p, 2, none⟩ (.slice A2 H.length a2)).setCell ⟨p, 3, none⟩ (.slice B2 G.length b2) = w3 at P3 O3 oS3 oG3 hb3 kp3 ⊢
  clear P O K oS oG hb nS nG
  have hz3 := O3.lt
  refine (PB1.out w3 A2 a2 B2 b2 ⟨P3, oS3, oG3⟩).mono ?_
  rintro e w4 ⟨hb4, hkp, hpost⟩
  have O4 := hkp _ _ (Nat.ne_of_gt (Nat.lt_of_lt_of_le hplt (Nat.le_succ _))) O3
  have hb5 := hb3.trans hb4
  replace kp := kp3.then hkp
  clear kp3
  clear PB1 P3 O3 oS3 oG3 hb3 hb4 hkp
  rcases Bool.eq_false_or_eq_true (fullB ⟨nm, bs, H, G⟩) with hF | hF
  · rw [if_pos hF] at hpost
    subst hpost
    have HR : Hid (rr = ill 9) := Lib.hid (by rw [HR1.out, if_pos hF])
    clear HR1 hF
    have O := O4
    have hb := hb5
    have qc0 := O.cell (i := 0) rfl
    have qf0 := O.froz 0
    have qc1 := O.cell (i := 1) rfl
    have qf1 := O.froz 1
    have qc2 := O.cell (i := 2) rfl
    have qf2 := O.froz 2
    have qc3 := O.cell (i := 3) rfl
    have qf3 := O.froz 3
    have qc4 := O.cell (i := 4) rfl
    have qf4 := O.froz 4
    have qc5 := O.cell (i := 5) rfl
    have qf5 := O.froz 5
    have qc6 := O.cell (i := 6) rfl
    have qf6 := O.froz 6
    go_wp2
    clear qc0 qf0 qc1 qf1 qc2 qf2 qc3 qf3 qc4 qf4 qc5 qf5 qc6 qf6
    have O9 := (((((((O.put 0 (.string ⟨#[]⟩)).put 1 (.int .i64 0)).put 2 (.slice none 0 0)).put 3 (.slice none 0 0)).put 4 (.slice none 0 0)).put 5 (.int .i64 0)).put 6 (.int .i64 9))
    have hb9 := (((((((hb.setCell (p := ⟨w.heap.size + 1, 0, none⟩) (by simp <;> omega) (.string ⟨#[]⟩)).setCell (p := ⟨w.heap.size + 1, 1, none⟩) (by simp <;> omega) (.int .i64 0)).setCell (p := ⟨w.heap.size + 1, 2, none⟩) (by simp <;> omega) (.slice none 0 0)).setCell (p := ⟨w.heap.size + 1, 3, none⟩) (by simp <;> omega) (.slice none 0 0)).setCell (p := ⟨w.heap.size + 1, 4, none⟩) (by simp <;> omega) (.slice none 0 0)).setCell (p := ⟨w.heap.size + 1, 5, none⟩) (by simp <;> omega) (.int .i64 0)).setCell (p := ⟨w.heap.size + 1, 6, none⟩) (by simp <;> omega) (.int .i64 9))
    have kp9 := (((((((kp.put ⟨w.heap.size + 1, 0, none⟩ (.inr (by simp)) (.string ⟨#[]⟩)).put ⟨w.heap.size + 1, 1, none⟩ (.inr (by simp)) (.int .i64 0)).put ⟨w.heap.size + 1, 2, none⟩ (.inr (by simp)) (.slice none 0 0)).put ⟨w.heap.size + 1, 3, none⟩ (.inr (by simp)) (.slice none 0 0)).put ⟨w.heap.size + 1, 4, none⟩ (.inr (by simp)) (.slice none 0 0)).put ⟨w.heap.size + 1, 5, none⟩ (.inr (by simp)) (.int .i64 0)).put ⟨w.heap.size + 1, 6, none⟩ (.inr (by simp)) (.int .i64 9))
    simp only [List.set_cons_succ, List.set_cons_zero] at O9
    generalize ((((((w4.setCell ⟨w.heap.size + 1, 0, none⟩ (.string ⟨#[]⟩)).setCell ⟨w.heap.size + 1, 1, none⟩ (.int .i64 0)).setCell ⟨w.heap.size + 1, 2, none⟩ (.slice none 0 0)).setCell ⟨w.heap.size + 1, 3, none⟩ (.slice none 0 0)).setCell ⟨w.heap.size + 1, 4, none⟩ (.slice none 0 0)).setCell ⟨w.heap.size + 1, 5, none⟩ (.int .i64 0)).setCell ⟨w.heap.size + 1, 6, none⟩ (.int .i64 9) = w9 at O9 hb9 kp9  ⊢
    have oc0 := O9.cell (i := 0) rfl
    have oc1 := O9.cell (i := 1) rfl
    have oc2 := O9.cell (i := 2) rfl
    have oc3 := O9.cell (i := 3) rfl
    have oc4 := O9.cell (i := 4) rfl
    have oc5 := O9.cell (i := 5) rfl
    have oc6 := O9.cell (i := 6) rfl
    exact bodyPost_ret (v := .agg #[.string ⟨#[]⟩, .int .i64 0, .slice none 0 0, .slice none 0 0, .slice none 0 0, .int .i64 0, .int .i64 9]) (by simp [results, Try.results53, go_sem, oc0, oc1, oc2, oc3, oc4, oc5, oc6]) rfl (⟨by rw [HR.out]; exact RunO.ill hb9, kp9⟩)
  rw [if_neg (by rw [hF]; simp)] at hpost
  obtain ⟨rfl, E, c9, P4, oS4, oG4⟩ := hpost
  have HR : Hid (rr = ⟨⟨nm, bs, H ++ [s], G⟩, [], bs + H.length, 0⟩) := Lib.hid (by rw [HR1.out, if_neg (by rw [hF]; simp)])
  clear HR1 hF
  simp only at P4 oS4 oG4
  rw [show (H ++ [s]).length = H.length + 1 by simp] at P4
  replace O4 : Blk w4 (w.heap.size + 1) 30 _ := O4
  go_wp2_with (fail)
  obtain ⟨I, fw, hI, g5', h6, g6', g7'⟩ := class_grown w4
  have bb0 := fun q => kept_cell (h6 q) (P4.cell (i := 0) rfl)
  have bb1 := fun q => kept_cell (h6 q) (P4.cell (i := 1) rfl)
  have bb2 := fun q => kept_cell (h6 q) (P4.cell (i := 2) rfl)
  have bb3 := fun q => kept_cell (h6 q) (P4.cell (i := 3) rfl)
  have bb6 := fun q => kept_cell (h6 q) (P4.cell (i := 6) rfl)
  have bb7 := fun q => kept_cell (h6 q) (P4.cell (i := 7) rfl)
  have G7 := Lib.hid g7'
  clear h6 g7' g6'
  refine wp_region_class_tail (C := fun w' => ∃ q, w' = fw q) 13 (by kernel_rfl) (by kernel_rfl) g5' ?_
  simp only [List.take_succ_cons, List.take_zero, List.drop_succ_cons, List.drop_zero]
  repeat (first
    | go_big_quiet_skip
    | (go_big_quiet_want; go_big_quiet_op; go_big_quiet_on))
  refine wpQuiet_nil ?_
  intro w6 h6
  have hb67 := G7.out _ h6
  have hb := hb5.trans (hb67.mono (Nat.le_trans (Nat.le_trans hlow (Nat.le_of_lt (Nat.lt_of_succ_lt O4.lt))) (Nat.le_refl _)))
  have O := O4.below hb67 O4.lt
  replace kp := kp.below hb67
  have S6 := row_below oS4 hb67 (Nat.le_refl _)
  have G6_ := row_below oG4 hb67 (Nat.le_refl _)
  have nS := own_not S6 O (by decide)
  have nG := own_not G6_ O (by decide)
  clear bb0 bb1 bb2 bb3 bb6 bb7 g5' h6 oS4 oG4 P4 hb67 O4 hb5
  have qc0 := O.cell (i := 0) rfl
  have qf0 := O.froz 0
  have qc1 := O.cell (i := 1) rfl
  have qf1 := O.froz 1
  have qc2 := O.cell (i := 2) rfl
  have qf2 := O.froz 2
  have qc3 := O.cell (i := 3) rfl
  have qf3 := O.froz 3
  have qc4 := O.cell (i := 4) rfl
  have qf4 := O.froz 4
  have qc5 := O.cell (i := 5) rfl
  have qf5 := O.froz 5
  have qc6 := O.cell (i := 6) rfl
  have qf6 := O.froz 6
  go_wp2
  clear qc0 qf0 qc1 qf1 qc2 qf2 qc3 qf3 qc4 qf4 qc5 qf5 qc6 qf6
  have S69 := (row_off (row_off (row_off (row_off (row_off (row_off (row_off S6 (p := ⟨w.heap.size + 1, 0, none⟩) nS (.string nm)) (p := ⟨w.heap.size + 1, 1, none⟩) nS (.int .i64 bs)) (p := ⟨w.heap.size + 1, 2, none⟩) nS (.slice E (H.length + 1) c9)) (p := ⟨w.heap.size + 1, 3, none⟩) nS (.slice B2 G.length b2)) (p := ⟨w.heap.size + 1, 4, none⟩) nS (.slice none 0 0)) (p := ⟨w.heap.size + 1, 5, none⟩) nS (.int .i64 (bs + H.length))) (p := ⟨w.heap.size + 1, 6, none⟩) nS (.int .i64 0))
  have G6_9 := (row_off (row_off (row_off (row_off (row_off (row_off (row_off G6_ (p := ⟨w.heap.size + 1, 0, none⟩) nG (.string nm)) (p := ⟨w.heap.size + 1, 1, none⟩) nG (.int .i64 bs)) (p := ⟨w.heap.size + 1, 2, none⟩) nG (.slice E (H.length + 1) c9)) (p := ⟨w.heap.size + 1, 3, none⟩) nG (.slice B2 G.length b2)) (p := ⟨w.heap.size + 1, 4, none⟩) nG (.slice none 0 0)) (p := ⟨w.heap.size + 1, 5, none⟩) nG (.int .i64 (bs + H.length))) (p := ⟨w.heap.size + 1, 6, none⟩) nG (.int .i64 0))
  have O9 := (((((((O.put 0 (.string nm)).put 1 (.int .i64 bs)).put 2 (.slice E (H.length + 1) c9)).put 3 (.slice B2 G.length b2)).put 4 (.slice none 0 0)).put 5 (.int .i64 (bs + H.length))).put 6 (.int .i64 0))
  have hb9 := (((((((hb.setCell (p := ⟨w.heap.size + 1, 0, none⟩) (by simp <;> omega) (.string nm)).setCell (p := ⟨w.heap.size + 1, 1, none⟩) (by simp <;> omega) (.int .i64 bs)).setCell (p := ⟨w.heap.size + 1, 2, none⟩) (by simp <;> omega) (.slice E (H.length + 1) c9)).setCell (p := ⟨w.heap.size + 1, 3, none⟩) (by simp <;> omega) (.slice B2 G.length b2)).setCell (p := ⟨w.heap.size + 1, 4, none⟩) (by simp <;> omega) (.slice none 0 0)).setCell (p := ⟨w.heap.size + 1, 5, none⟩) (by simp <;> omega) (.int .i64 (bs + H.length))).setCell (p := ⟨w.heap.size + 1, 6, none⟩) (by simp <;> omega) (.int .i64 0))
  have kp9 := (((((((kp.put ⟨w.heap.size + 1, 0, none⟩ (.inr (by simp)) (.string nm)).put ⟨w.heap.size + 1, 1, none⟩ (.inr (by simp)) (.int .i64 bs)).put ⟨w.heap.size + 1, 2, none⟩ (.inr (by simp)) (.slice E (H.length + 1) c9)).put ⟨w.heap.size + 1, 3, none⟩ (.inr (by simp)) (.slice B2 G.length b2)).put ⟨w.heap.size + 1, 4, none⟩ (.inr (by simp)) (.slice none 0 0)).put ⟨w.heap.size + 1, 5, none⟩ (.inr (by simp)) (.int .i64 (bs + H.length))).put ⟨w.heap.size + 1, 6, none⟩ (.inr (by simp)) (.int .i64 0))
  simp only [List.set_cons_succ, List.set_cons_zero] at O9
  generalize ((((((w6.setCell ⟨w.heap.size + 1, 0, none⟩ (.string nm)).setCell ⟨w.heap.size + 1, 1, none⟩ (.int .i64 bs)).setCell ⟨w.heap.size + 1, 2, none⟩ (.slice E (H.length + 1) c9)).setCell ⟨w.heap.size + 1, 3, none⟩ (.slice B2 G.length b2)).setCell ⟨w.heap.size + 1, 4, none⟩ (.slice none 0 0)).setCell ⟨w.heap.size + 1, 5, none⟩ (.int .i64 (bs + H.length))).setCell ⟨w.heap.size + 1, 6, none⟩ (.int .i64 0) = w9 at O9 hb9 kp9 S69 G6_9  ⊢
  have oc0 := O9.cell (i := 0) rfl
  have oc1 := O9.cell (i := 1) rfl
  have oc2 := O9.cell (i := 2) rfl
  have oc3 := O9.cell (i := 3) rfl
  have oc4 := O9.cell (i := 4) rfl
  have oc5 := O9.cell (i := 5) rfl
  have oc6 := O9.cell (i := 6) rfl
  exact bodyPost_ret (v := .agg #[.string nm, .int .i64 bs, .slice E (H.length + 1) c9, .slice B2 G.length b2, .slice none 0 0, .int .i64 (bs + H.length), .int .i64 0]) (by simp [results, Try.results53, go_sem, oc0, oc1, oc2, oc3, oc4, oc5, oc6]) rfl (⟨run_end HR.out S69 G6_9 hb9, kp9⟩)
end Go.Proofs.Ytjmmffhndecikaa

namespace Go.Proofs.Ytjmmffhndecikaa
open Go.RowKit
set_option linter.unusedVariables false
set_option maxRecDepth 1000000

set_option maxHeartbeats 8000000 in
theorem specTopicRight_any (t : Tpc) (A : Option Addr) (c : Nat) (B : Option Addr) (d : Nat) (w : World) (hf : t.fits) (hA : Strs w w.heap.size A t.held) (hB : Grs w w.heap.size B t.groups) :
    Calls Try.prog 23 #[topV t.name t.base (.slice A t.held.length c) (.slice B t.groups.length d)] w fun e w' => e = .returned (.bool (topB t)) ∧ Below w.heap.size w w' := by
  obtain ⟨f0, f1, f2, f3⟩ := hf
  have hn := hA.1
  have hm := hB.1
  have hn' := hn
  unfold maxLen at hn' hm
  have F0 : Hid (∀ h : ¬ topOK t, topB t = false) := Lib.hid topB_false
  have F1 : Hid (∀ h : topOK t, topB t = true) := Lib.hid topB_true
  have OK : Hid (∀ P : topOK t → Prop, True) := Lib.hid fun _ => trivial
  obtain ⟨nm, bs, H, G⟩ := t
  simp only at f0 f1 f2 f3 hA hB hn hm hn' F0 F1 OK ⊢
  generalize topB ⟨nm, bs, H, G⟩ = R at F0 F1 ⊢
  have hK := Blk.fresh w 26 [.string nm, .int .i64 bs, .slice A H.length c, .slice B G.length d]
  have hb0 := below_box w (.cells #[.string nm, .int .i64 bs, .slice A H.length c, .slice B G.length d] 26)
  simp only [List.toArray] at hK
  rcases Bool.eq_false_or_eq_true (nameB nm) with hN | hN
  rotate_left
  · have NR := specName_b hN f0
    have HR := Lib.hid (F0.out fun h => by have := h.1; rw [hN] at this; cases this)
    go_enter Try.func23, Try.ntmps23
    go_wp2_with (go_at_call 67; refine (NR _).mono ?_; rintro e w' ⟨rfl, rfl⟩)
    go_ret
    exact ⟨by rw [HR.out]; rfl, hb0⟩
  have NR := specName_b hN f0
  rcases Bool.eq_false_or_eq_true (inB bs 0 1000000000) with hI | hI
  rotate_left
  · have IS := is3 hI
    have HR := Lib.hid (F0.out fun h => by have := h.2.1; rw [hI] at this; cases this)
    go_enter Try.func23, Try.ntmps23
    go_wp2_with (first | (go_at_call 67; refine (NR _).mono ?_; rintro e w' ⟨rfl, rfl⟩) | (go_at_call 68; refine (IS _).mono ?_; rintro e w' ⟨rfl, rfl⟩))
    go_ret
    exact ⟨by rw [HR.out]; rfl, hb0⟩
  have IS := is3 hI
  have hbs := inB_true hI
  by_cases h3 : H.length ≤ 20
  rotate_left
  · have HR := Lib.hid (F0.out fun h => h3 h.2.2.1)
    go_enter Try.func23, Try.ntmps23
    go_wp2_with (first | (go_at_call 67; refine (NR _).mono ?_; rintro e w' ⟨rfl, rfl⟩) | (go_at_call 68; refine (IS _).mono ?_; rintro e w' ⟨rfl, rfl⟩))
    go_ret
    exact ⟨by rw [HR.out]; rfl, hb0⟩
  by_cases h4 : G.length ≤ 4
  rotate_left
  · have HR := Lib.hid (F0.out fun h => h4 h.2.2.2.2.1)
    go_enter Try.func23, Try.ntmps23
    go_wp2_with (first | (go_at_call 67; refine (NR _).mono ?_; rintro e w' ⟨rfl, rfl⟩) | (go_at_call 68; refine (IS _).mono ?_; rintro e w' ⟨rfl, rfl⟩))
    go_ret
    exact ⟨by rw [HR.out]; rfl, hb0⟩
  have EN := Lib.hid (l07End_any nm bs A H.length c (.slice B G.length d) (by omega) hbs.1 hbs.2 rfl)
  by_cases h5 : bs + H.length ≤ 1000000000
  rotate_left
  · have HR := Lib.hid (F0.out fun h => h5 h.2.2.2.2.2.1)
    go_enter Try.func23, Try.ntmps23
    go_wp2_with (first | (go_at_call 67; refine (NR _).mono ?_; rintro e w' ⟨rfl, rfl⟩) | (go_at_call 68; refine (IS _).mono ?_; rintro e w' ⟨rfl, rfl⟩) | (go_at_call 59; refine (EN.out _).mono ?_; rintro e w1 ⟨rfl, hb1⟩))
    go_ret
    exact ⟨by rw [HR.out]; rfl, hb0.trans (hb1.mono hb0.size)⟩
  go_enter Try.func23, Try.ntmps23
  go_wp2_with (first | (go_at_call 67; refine (NR _).mono ?_; rintro e w' ⟨rfl, rfl⟩) | (go_at_call 68; refine (IS _).mono ?_; rintro e w' ⟨rfl, rfl⟩) | (go_at_call 59; refine (EN.out _).mono ?_; rintro e w1 ⟨rfl, hb1⟩))
  have hK1 := hK.below hb1 hK.lt
  have hw1 := hb0.trans (hb1.mono hb0.size)
  clear hK hb0 hb1
  go_loopw [3] (fun i wr => ∃ k : Nat, k ≤ H.length ∧ i = .int .i64 k ∧ (∀ j (h : j < H.length), j < k → inB H[j].size 1 40 = true) ∧ Blk wr w.heap.size 26 [.string nm, .int .i64 bs, .slice A H.length c, .slice B G.length d] ∧ Below w.heap.size w wr) (fun i _ => H.length - (intOf i).toNat)
  case atStart => exact ⟨0, by omega, rfl, fun j _ h => by omega, hK1, hw1⟩
  case round =>
    obtain ⟨k, hk, rfl, hok, hK2, hw2⟩ := hrel
    have b2 := hK2.cell (i := 2) rfl
    by_cases hlt : k < H.length
    · obtain ⟨a, rfl, hab, c0⟩ := (hA.below hw2 (Nat.le_refl _)).2 k hlt
      have hlt' : (k : Int) < (H.length : Int) := by omega
      rcases Bool.eq_false_or_eq_true (inB H[k].size 1 40) with hT | hT
      · have TX := l07Text_b hT (f2 _ (List.getElem_mem hlt))
        go_wp2_with (go_at_call 58; refine (TX _).mono ?_; rintro e w' ⟨rfl, rfl⟩)
        refine ⟨⟨k + 1, by omega, by go_num, fun j hj hjk => ?_, hK2, hw2⟩, by simp [intOf]; omega⟩
        by_cases e : j = k
        · subst e; exact hT
        · exact hok j hj (by omega)
      · have TX := l07Text_b hT (f2 _ (List.getElem_mem hlt))
        have HR := Lib.hid (F0.out fun h => by have := h.2.2.2.1 k hlt; rw [hT] at this; cases this)
        go_wp2_with (go_at_call 58; refine (TX _).mono ?_; rintro e w' ⟨rfl, rfl⟩)
        go_ret
        exact ⟨by rw [HR.out]; rfl, hw2⟩
    · obtain rfl : k = H.length := by omega
      have HH := Lib.hid (fun j (h : j < H.length) => hok j h h)
      have b3 := hK2.cell (i := 3) rfl
      clear hok hK1 hw1
      go_wp2
      go_loopw [4, 5] (fun i _ wr => ∃ k : Nat, k ≤ G.length ∧ i = .int .i64 k ∧ (∀ j (h : j < G.length), j < k → grpIn ⟨nm, bs, H, G⟩ j h) ∧ Blk wr w.heap.size 26 [.string nm, .int .i64 bs, .slice A H.length c, .slice B G.length d] ∧ Below w.heap.size w wr) (fun i _ _ => G.length - (intOf i).toNat)
      case atStart => exact ⟨0, by omega, rfl, fun j _ h => by omega, hK2, hw2⟩
      case round =>
        obtain ⟨k, hk, rfl, hok, hK3, hw3⟩ := hrel
        clear b2 b3 hK2 hw2
        have b3 := hK3.cell (i := 3) rfl
        by_cases hlt : k < G.length
        rotate_left
        · obtain rfl : k = G.length := by omega
          have HR := Lib.hid (F1.out ⟨hN, hI, h3, HH.out, h4, h5, fun i h => hok i h h⟩)
          go_wp2
          go_ret
          exact ⟨by rw [HR.out]; rfl, hw3⟩
        obtain ⟨a, rfl, hab, c0, c1⟩ := (hB.below hw3 (Nat.le_refl _)).at k hlt
        have hlt' : (k : Int) < (G.length : Int) := by omega
        have hG := Blk.fresh wr 47 [.string G[k].name, .int .i64 G[k].acked]
        have hK4 := hK3.alloc (.cells #[.string G[k].name, .int .i64 G[k].acked] 47)
        have hw4 := hw3.alloc hw3.size (.cells #[.string G[k].name, .int .i64 G[k].acked] 47)
        have hp : ∀ q, (h : q + 1 = k) → (wr.alloc (.cells #[.string G[k].name, .int .i64 G[k].acked] 47)).cell? (a.add (q * 2)) = some (.string (G[q]'(by omega)).name) := by
          intro q h
          obtain ⟨a', e, _, h2, _⟩ := (hB.below hw4 (Nat.le_refl _)).at q (by omega)
          cases e
          exact h2
        simp only [List.toArray] at hG
        go_wp2
        generalize wr.alloc (.cells #[.string G[k].name, .int .i64 G[k].acked] 47) = w3 at hG hK4 hw4 hp ⊢
        clear c0 c1 b3 hK3
        have n1 : G[k].name.size ≤ maxLen := (f3 _ (List.getElem_mem hlt)).1
        obtain ⟨I, f, hI', g0, gk, gc, ge⟩ := class_grown w3
        have x0 := fun s => kept_cell (gk s) (hG.cell (i := 0) rfl)
        have x1 := fun s => kept_cell (gk s) (hG.cell (i := 1) rfl)
        have y0 := fun s => kept_cell (gk s) (hK4.cell (i := 0) rfl)
        have y1 := fun s => kept_cell (gk s) (hK4.cell (i := 1) rfl)
        have y2 := fun s => kept_cell (gk s) (hK4.cell (i := 2) rfl)
        have y3 := fun s => kept_cell (gk s) (hK4.cell (i := 3) rfl)
        have HW : Hid (∀ W, Below w3.heap.size w3 W → Blk W w.heap.size 26 [.string nm, .int .i64 bs, .slice A H.length c, .slice (some a) G.length d] ∧ Below w.heap.size w W) := Lib.hid fun W h => ⟨hK4.below h hK4.lt, hw4.trans (h.mono hw4.size)⟩
        have HOK := Lib.hid hok
        have HB := Lib.hid (fun h : ¬ grpIn ⟨nm, bs, H, G⟩ k hlt => F0.out fun q => h (q.2.2.2.2.2.2 k hlt))
        clear hok hK4 hG hw4
        rcases Bool.eq_false_or_eq_true (nameB G[k].name) with hN2 | hN2
        rotate_left
        · have NG := Lib.hid (fun W => bl (specName_b hN2 n1 W))
          have HR := Lib.hid (HB.out fun h => by have := h.1; rw [hN2] at this; cases this)
          refine wp_region_kept f (by kernel_rfl) (by kernel_rfl) g0 ?_
          repeat (first
            | go_big_quiet_skip
            | (go_big_quiet_want; go_big_quiet_op; first
              | go_big_quiet_on
              | (apply Exists.intro; refine ⟨fun s => ?_, ?_⟩; (go_at_call 67; (with_reducible refine (NG.out _).mono ?_); rintro e w4 ⟨rfl, hb4⟩; exact ⟨rfl, gc _ _ hb4⟩); go_big_quiet_on)
              | (apply Exists.intro; refine ⟨fun s => ?_, ?_⟩; (go_at_call 59; (with_reducible refine (EN.out _).mono ?_); rintro e w4 ⟨rfl, hb4⟩; exact ⟨rfl, gc _ _ hb4⟩); go_big_quiet_on)
              | (apply Exists.intro; refine ⟨fun s => ?_, ?_⟩; (go_at_call 68; (with_reducible refine (IG.out _).mono ?_); rintro e w4 ⟨rfl, hb4⟩; exact ⟨rfl, gc _ _ hb4⟩); go_big_quiet_on)))
          refine wpQuiet_nil ?_
          intro w5 h5
          have hb5 := ge _ h5
          go_wp2
          go_ret
          exact ⟨by rw [HR.out]; rfl, (HW.out _ hb5).2⟩
        have NG := Lib.hid (fun W => bl (specName_b hN2 n1 W))
        by_cases hk0 : 0 < k
        · obtain ⟨q, hq⟩ : ∃ q, q + 1 = k := ⟨k - 1, by omega⟩
          have p0 := fun s => kept_cell (gk s) (hp q hq)
          have hd : decide ((0 : Int) < (k : Int)) = true := by simp; omega
          have e1 : IntKind.i64.wrap ((k : Int) - 1) = (q : Int) := by rw [IntWalk.i64_in _ (by omega)]; omega
          have e2 : (q : Int) < (G.length : Int) := by omega
          have hql : q < G.length := by omega
          clear hp
          rcases Bool.eq_false_or_eq_true (Op.bytesLess G[q].name.toList G[k].name.toList) with hl | hl
          rotate_left
          · have HR := Lib.hid (HB.out (not_grp_less hq hlt hql hl))
            refine wp_region_kept f (by kernel_rfl) (by kernel_rfl) g0 ?_
            repeat (first
              | go_big_quiet_skip
              | (go_big_quiet_want; go_big_quiet_op; first
                | go_big_quiet_on
                | (apply Exists.intro; refine ⟨fun s => ?_, ?_⟩; (go_at_call 67; (with_reducible refine (NG.out _).mono ?_); rintro e w4 ⟨rfl, hb4⟩; exact ⟨rfl, gc _ _ hb4⟩); go_big_quiet_on)
                | (apply Exists.intro; refine ⟨fun s => ?_, ?_⟩; (go_at_call 59; (with_reducible refine (EN.out _).mono ?_); rintro e w4 ⟨rfl, hb4⟩; exact ⟨rfl, gc _ _ hb4⟩); go_big_quiet_on)
                | (apply Exists.intro; refine ⟨fun s => ?_, ?_⟩; (go_at_call 68; (with_reducible refine (IG.out _).mono ?_); rintro e w4 ⟨rfl, hb4⟩; exact ⟨rfl, gc _ _ hb4⟩); go_big_quiet_on)))
            refine wpQuiet_nil ?_
            intro w5 h5
            have hb5 := ge _ h5
            go_wp2
            go_ret
            exact ⟨by rw [HR.out]; rfl, (HW.out _ hb5).2⟩
          have HL := Lib.hid (grp_less (t := ⟨nm, bs, H, G⟩) hq hlt hql hl)
          rcases Bool.eq_false_or_eq_true (inB G[k].acked bs (bs + H.length)) with hI2 | hI2
          · have IG := Lib.hid (fun W => bl (is3 hI2 W))
            refine wp_region_kept f (by kernel_rfl) (by kernel_rfl) g0 ?_
            repeat (first
              | go_big_quiet_skip
              | (go_big_quiet_want; go_big_quiet_op; first
                | go_big_quiet_on
                | (apply Exists.intro; refine ⟨fun s => ?_, ?_⟩; (go_at_call 67; (with_reducible refine (NG.out _).mono ?_); rintro e w4 ⟨rfl, hb4⟩; exact ⟨rfl, gc _ _ hb4⟩); go_big_quiet_on)
                | (apply Exists.intro; refine ⟨fun s => ?_, ?_⟩; (go_at_call 59; (with_reducible refine (EN.out _).mono ?_); rintro e w4 ⟨rfl, hb4⟩; exact ⟨rfl, gc _ _ hb4⟩); go_big_quiet_on)
                | (apply Exists.intro; refine ⟨fun s => ?_, ?_⟩; (go_at_call 68; (with_reducible refine (IG.out _).mono ?_); rintro e w4 ⟨rfl, hb4⟩; exact ⟨rfl, gc _ _ hb4⟩); go_big_quiet_on)))
            refine wpQuiet_nil ?_
            intro w5 h5
            have hb5 := ge _ h5
            go_wp2
            refine ⟨⟨k + 1, by omega, by go_num, fun j hj hjk => ?_, (HW.out _ hb5).1, (HW.out _ hb5).2⟩, by simp [intOf]; omega⟩
            by_cases e : j = k
            · subst e
              exact ⟨hN2, hI2, HL.out⟩
            · exact HOK.out j hj (by omega)
          · have IG := Lib.hid (fun W => bl (is3 hI2 W))
            have HR := Lib.hid (HB.out fun h => by have := h.2.1; rw [hI2] at this; cases this)
            refine wp_region_kept f (by kernel_rfl) (by kernel_rfl) g0 ?_
            repeat (first
              | go_big_quiet_skip
              | (go_big_quiet_want; go_big_quiet_op; first
                | go_big_quiet_on
                | (apply Exists.intro; refine ⟨fun s => ?_, ?_⟩; (go_at_call 67; (with_reducible refine (NG.out _).mono ?_); rintro e w4 ⟨rfl, hb4⟩; exact ⟨rfl, gc _ _ hb4⟩); go_big_quiet_on)
                | (apply Exists.intro; refine ⟨fun s => ?_, ?_⟩; (go_at_call 59; (with_reducible refine (EN.out _).mono ?_); rintro e w4 ⟨rfl, hb4⟩; exact ⟨rfl, gc _ _ hb4⟩); go_big_quiet_on)
                | (apply Exists.intro; refine ⟨fun s => ?_, ?_⟩; (go_at_call 68; (with_reducible refine (IG.out _).mono ?_); rintro e w4 ⟨rfl, hb4⟩; exact ⟨rfl, gc _ _ hb4⟩); go_big_quiet_on)))
            refine wpQuiet_nil ?_
            intro w5 h5
            have hb5 := ge _ h5
            go_wp2
            go_ret
            exact ⟨by rw [HR.out]; rfl, (HW.out _ hb5).2⟩
        · have hd : decide ((0 : Int) < (k : Int)) = false := by simp; omega
          clear hp
          rcases Bool.eq_false_or_eq_true (inB G[k].acked bs (bs + H.length)) with hI2 | hI2
          · have IG := Lib.hid (fun W => bl (is3 hI2 W))
            refine wp_region_kept f (by kernel_rfl) (by kernel_rfl) g0 ?_
            repeat (first
              | go_big_quiet_skip
              | (go_big_quiet_want; go_big_quiet_op; first
                | go_big_quiet_on
                | (apply Exists.intro; refine ⟨fun s => ?_, ?_⟩; (go_at_call 67; (with_reducible refine (NG.out _).mono ?_); rintro e w4 ⟨rfl, hb4⟩; exact ⟨rfl, gc _ _ hb4⟩); go_big_quiet_on)
                | (apply Exists.intro; refine ⟨fun s => ?_, ?_⟩; (go_at_call 59; (with_reducible refine (EN.out _).mono ?_); rintro e w4 ⟨rfl, hb4⟩; exact ⟨rfl, gc _ _ hb4⟩); go_big_quiet_on)
                | (apply Exists.intro; refine ⟨fun s => ?_, ?_⟩; (go_at_call 68; (with_reducible refine (IG.out _).mono ?_); rintro e w4 ⟨rfl, hb4⟩; exact ⟨rfl, gc _ _ hb4⟩); go_big_quiet_on)))
            refine wpQuiet_nil ?_
            intro w5 h5
            have hb5 := ge _ h5
            go_wp2
            refine ⟨⟨k + 1, by omega, by go_num, fun j hj hjk => ?_, (HW.out _ hb5).1, (HW.out _ hb5).2⟩, by simp [intOf]; omega⟩
            by_cases e : j = k
            · subst e
              exact ⟨hN2, hI2, fun h => absurd h hk0⟩
            · exact HOK.out j hj (by omega)
          · have IG := Lib.hid (fun W => bl (is3 hI2 W))
            have HR := Lib.hid (HB.out fun h => by have := h.2.1; rw [hI2] at this; cases this)
            refine wp_region_kept f (by kernel_rfl) (by kernel_rfl) g0 ?_
            repeat (first
              | go_big_quiet_skip
              | (go_big_quiet_want; go_big_quiet_op; first
                | go_big_quiet_on
                | (apply Exists.intro; refine ⟨fun s => ?_, ?_⟩; (go_at_call 67; (with_reducible refine (NG.out _).mono ?_); rintro e w4 ⟨rfl, hb4⟩; exact ⟨rfl, gc _ _ hb4⟩); go_big_quiet_on)
                | (apply Exists.intro; refine ⟨fun s => ?_, ?_⟩; (go_at_call 59; (with_reducible refine (EN.out _).mono ?_); rintro e w4 ⟨rfl, hb4⟩; exact ⟨rfl, gc _ _ hb4⟩); go_big_quiet_on)
                | (apply Exists.intro; refine ⟨fun s => ?_, ?_⟩; (go_at_call 68; (with_reducible refine (IG.out _).mono ?_); rintro e w4 ⟨rfl, hb4⟩; exact ⟨rfl, gc _ _ hb4⟩); go_big_quiet_on)))
            refine wpQuiet_nil ?_
            intro w5 h5
            have hb5 := ge _ h5
            go_wp2
            go_ret
            exact ⟨by rw [HR.out]; rfl, (HW.out _ hb5).2⟩
end Go.Proofs.Ytjmmffhndecikaa
