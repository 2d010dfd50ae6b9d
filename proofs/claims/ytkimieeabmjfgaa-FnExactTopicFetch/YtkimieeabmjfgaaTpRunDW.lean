/- What the exact laws do with a TopicOut. What the changes of a topic answer: the specification and the program. What an operation on a topicWork leaves. What the method run of topicWork leaves. -/
import Derived.Test.YtkimieeabmjfgaaTpToW
import Derived.Test.YtkimieeabmjfgaaTpCopyW
import Derived.Test.YtkimieeabmjfgaaCloneW
import Derived.Test.YtkimieeabmjfgaaTpRIW
import Derived.BigQuiet
namespace Go.Proofs.Ytkimieeabmjfgaa
open Go.RowKit
set_option linter.unusedVariables false
set_option maxRecDepth 1000000

/-- The value of a TopicOut. -/
abbrev outV (nm : ByteArray) (bs : Int) (h g t : Value) (n co : Int) : Value := .agg #[.string nm, .int .i64 bs, h, g, t, .int .i64 n, .int .i64 co]
/-- The texts that are fetched lie apart from the messages. -/
def Apart (A B : Option Addr) : Prop := ∀ a b, A = some a → B = some b → a.block ≠ b.block
theorem Apart.map {A B : Option Addr} (h : Apart A B) {a : Addr} (ha : A = some a) : A.map (·.block) ≠ B.map (·.block) := by
  subst ha
  cases B with
  | none => simp
  | some b => simpa using h a b rfl rfl
theorem Sl.apart {w w' : World} {lo hi : Nat} {t : TypeId} {A B : Option Addr} {xs ys : List Value} (h : Sl w lo hi t A xs) (hc : Wr w w' B ys) (ha : Apart A B) : Sl w' lo hi t A xs := by
  refine h.keep hc fun hx hy => ?_
  rcases h with h | ⟨g, off, cs, h1, _⟩
  · exact absurd h hx
  · exact ha.map h1
theorem Apart.symm {A B : Option Addr} (h : Apart A B) : Apart B A := fun a b ha hb e => h b a hb ha e.symm
theorem Wr.below {w w1 w2 : World} {A : Option Addr} {xs : List Value} (hb : Below w.heap.size w w1) (h : Wr w1 w2 A xs) : Wr w w2 A xs := by
  obtain ⟨row, hg, hr⟩ := h
  exact ⟨row, ⟨hg.os.trans hb.os, hg.tape.trans hb.tape, hg.output.trans hb.output, Nat.le_trans hb.size hg.size, fun k hk hne => (hg.block k (by have := hb.size; omega) hne).trans (hb.block k hk)⟩, hr⟩
set_option maxHeartbeats 2000000 in
theorem eqTopicOut_same (nm : ByteArray) (bs : Int) (A B C D S T : Option Addr) (H : List ByteArray) (G : List Grp) (N : List ByteArray) (n co : Int) (a b c d x y : Nat) (w : World) (hA : Strs w w.heap.size A H) (hC : Strs w w.heap.size C H) (hB : Grs w w.heap.size B G) (hD : Grs w w.heap.size D G) (hS : Strs w w.heap.size S N) (hT : Strs w w.heap.size T N) :
    Calls Try.prog 14 #[outV nm bs (.slice A H.length a) (.slice B G.length b) (.slice S N.length x) n co, outV nm bs (.slice C H.length c) (.slice D G.length d) (.slice T N.length y) n co] w fun e w' => e = .returned (.bool true) ∧ Below w.heap.size w w' := by
  have h0 := (Blk.fresh w 31 [.string nm, .int .i64 bs, .slice A H.length a, .slice B G.length b, .slice S N.length x, .int .i64 n, .int .i64 co]).alloc (.cells #[.string nm, .int .i64 bs, .slice C H.length c, .slice D G.length d, .slice T N.length y, .int .i64 n, .int .i64 co] 31)
  have h1 := Blk.fresh (w.alloc (.cells #[.string nm, .int .i64 bs, .slice A H.length a, .slice B G.length b, .slice S N.length x, .int .i64 n, .int .i64 co] 31)) 31 [.string nm, .int .i64 bs, .slice C H.length c, .slice D G.length d, .slice T N.length y, .int .i64 n, .int .i64 co]
  have hb0 : Below w.heap.size w ((w.alloc (.cells #[.string nm, .int .i64 bs, .slice A H.length a, .slice B G.length b, .slice S N.length x, .int .i64 n, .int .i64 co] 31)).alloc (.cells #[.string nm, .int .i64 bs, .slice C H.length c, .slice D G.length d, .slice T N.length y, .int .i64 n, .int .i64 co] 31)) := ((Below.refl _ w).alloc (Nat.le_refl _) _).alloc (by simp) _
  simp only [List.toArray, World.size_alloc] at h0 h1
  have HE := Lib.hid (eqTopic_same nm bs A B C D H G a b c d _ (hA.on hb0) (hC.on hb0) (hB.on hb0) (hD.on hb0))
  have HT := Lib.hid (fun W (h : Below w.heap.size w W) => eqStringS_same S T N x y W (hS.on h) (hT.on h))
  go_enter Try.func14, Try.ntmps14
  go_wp2_with (fail)
  refine HE.out.mono ?_
  rintro e w1 ⟨rfl, hb1⟩
  clear HE
  have g0 := h0.below hb1 h0.lt
  have g1 := h1.below hb1 h1.lt
  have hw1 := hb0.trans (hb1.mono hb0.size)
  clear h0 h1 hb0 hb1
  have k3 := g0.cell (i := 4) rfl
  have l3 := g1.cell (i := 4) rfl
  go_wp2_with (fail)
  refine (HT.out _ hw1).mono ?_
  rintro e w2 ⟨rfl, hb2⟩
  have p0 := g0.below hb2 g0.lt
  have p1 := g1.below hb2 g1.lt
  have k5 := p0.cell (i := 5) rfl
  have l5 := p1.cell (i := 5) rfl
  have k6 := p0.cell (i := 6) rfl
  have l6 := p1.cell (i := 6) rfl
  clear k3 l3
  go_wp2
  go_ret
  exact ⟨rfl, hw1.trans (hb2.mono hw1.size)⟩
set_option maxHeartbeats 2000000 in
theorem markTopic_sl (nm : ByteArray) (bs : Int) (A : Option Addr) (H : List ByteArray) (c : Nat) (B : Option Addr) (G : List Grp) (d lo hi k : Nat) (w : World) (h : Sl w lo hi 9 A (H.map Value.string)) (h2 : Sl w lo hi 68 B (gflat G)) (h0 : 1 ≤ k) (h1 : k + H.length + 2 * G.length ≤ 4000000) :
    Calls Try.prog 16 #[topV nm bs (.slice A H.length c) (.slice B G.length d), .int .i64 k] w fun e w' => e = .returned (.int .i64 ((k + H.length + 2 * G.length : Nat) : Int)) ∧
      Sl w' lo hi 9 A ((markN H.length k).map Value.string) ∧ Sl w' lo hi 68 B (gflat (markG G.length (k + H.length))) ∧ (∀ t' C zs, t' ≠ 68 → Sl w lo hi t' C zs → Apart C A → Sl w' lo hi t' C zs) ∧ Chg w w' lo hi := by
  have hb0 : Below w.heap.size w (w.alloc (.cells #[.string nm, .int .i64 bs, .slice A H.length c, .slice B G.length d] 29)) := (Below.refl _ w).alloc (Nat.le_refl _) _
  have k0 := Blk.fresh w 29 [.string nm, .int .i64 bs, .slice A H.length c, .slice B G.length d]
  have HK : Hid (∀ t' C zs, Sl w lo hi t' C zs → Sl (w.alloc (.cells #[.string nm, .int .i64 bs, .slice A H.length c, .slice B G.length d] 29)) lo hi t' C zs) := Lib.hid fun t' C zs q => q.below hb0
  have q1 := h.below hb0
  have q2 := h2.below hb0
  simp only [List.toArray] at k0
  obtain ⟨j, HJ⟩ : ∃ j, Hid (k + H.length = j) := ⟨_, Lib.hid rfl⟩
  have hj : 1 ≤ j ∧ j + 2 * G.length ≤ 4000000 := by have := HJ.out; omega
  have hkl : k + H.length ≤ 4000000 := by omega
  rw [HJ.out]
  have hxb : ∀ row, (∀ q, row = some q → (H.map Value.string) ≠ [] ∧ A.map (·.block) = some q) → row ≠ some w.heap.size := by
    intro row hr e
    obtain ⟨hx, hy⟩ := hr _ e
    rcases h with h | ⟨g, off, cs, e1, _, e3, _⟩
    · exact hx h
    · rw [e1] at hy
      have := e3.lt
      simp at hy
      omega
  clear h1
  go_enter Try.func16, Try.ntmps16
  go_wp2_with (fail)
  generalize w.alloc (.cells #[.string nm, .int .i64 bs, .slice A H.length c, .slice B G.length d] 29) = v0 at hb0 k0 HK q1 q2 ⊢
  have MS := markStringS_sl A H c lo hi k v0 q1 h0 hkl
  rw [HJ.out] at MS
  refine MS.mono ?_
  rintro e w1 ⟨rfl, hX, hr, hc⟩
  have q3 := q2.keep hr (q2.differ q1 (by decide))
  have k1 : Blk w1 w.heap.size 29 [.string nm, .int .i64 bs, .slice A H.length c, .slice B G.length d] := by
    obtain ⟨row, hg, hrr⟩ := hr
    exact k0.grown hg (fun e => hxb row hrr e.symm)
  have c3 := k1.cell (i := 3) rfl
  have MG := Lib.hid (markGroupS_sl B G d lo hi j w1 q3 hj.1 hj.2)
  clear MS hxb
  go_wp2_with (fail)
  refine MG.out.mono ?_
  rintro e w2 ⟨rfl, hY, hr2, hc2⟩
  have hX2 := hX.keep hr2 (hX.differ q3 (by decide))
  clear c3
  go_wp2
  go_ret
  refine ⟨rfl, hX2, hY, fun t' C zs ht hz ha => ?_, Chg.after hb0 (hc.trans hc2)⟩
  have z1 := (HK.out t' C zs hz).apart hr ha
  exact z1.keep hr2 (z1.differ q3 ht)
set_option maxHeartbeats 2000000 in
theorem heldTopic_any (nm : ByteArray) (bs : Int) (A : Option Addr) (n c : Nat) (B : Option Addr) (m d k : Nat) (w : World) (hA : Strs w w.heap.size A (markN n k)) (hB : Grs w w.heap.size B (markG m (k + n))) (h0 : 1 ≤ k) (h1 : k + n + 2 * m ≤ 4000000) :
    Calls Try.prog 34 #[topV nm bs (.slice A n c) (.slice B m d), .int .i64 k] w fun e w' => e = .returned (.int .i64 ((k + n + 2 * m : Nat) : Int)) ∧ Below w.heap.size w w' := by
  have hb0 : Below w.heap.size w (w.alloc (.cells #[.string nm, .int .i64 bs, .slice A n c, .slice B m d] 29)) := (Below.refl _ w).alloc (Nat.le_refl _) _
  have k0 := Blk.fresh w 29 [.string nm, .int .i64 bs, .slice A n c, .slice B m d]
  simp only [List.toArray] at k0
  obtain ⟨j, HJ⟩ : ∃ j, Hid (k + n = j) := ⟨_, Lib.hid rfl⟩
  have HS := heldStringS_any A n c k _ (hA.on hb0) h0 (by omega)
  rw [HJ.out] at HS hB ⊢
  have hj : 1 ≤ j ∧ j + 2 * m ≤ 4000000 := by have := HJ.out; omega
  have hj' : ¬ ((j : Int) < 0) := by omega
  have hjm : ¬ (((j + 2 * m : Nat) : Int) < 0) := by omega
  have HSH := Lib.hid HS
  have HT := Lib.hid (fun W (h : Below w.heap.size w W) => heldGroupS_any B m d j W (hB.on h) hj.1 hj.2)
  clear HS h1
  go_enter Try.func34, Try.ntmps34
  go_wp2_with (fail)
  refine HSH.out.mono ?_
  rintro e w1 ⟨rfl, hb1⟩
  have hw1 := hb0.trans (hb1.mono hb0.size)
  have k1 := k0.below hb1 k0.lt
  have k3 := k1.cell (i := 3) rfl
  clear HSH
  go_wp2_with (fail)
  refine (HT.out _ hw1).mono ?_
  rintro e w2 ⟨rfl, hb2⟩
  go_wp2
  go_ret
  exact ⟨rfl, hw1.trans (hb2.mono hw1.size)⟩
set_option maxHeartbeats 2000000 in
theorem markTopicOut_sl (nm : ByteArray) (bs : Int) (A : Option Addr) (H : List ByteArray) (c : Nat) (B : Option Addr) (G : List Grp) (d : Nat) (T : Option Addr) (N : List ByteArray) (x : Nat) (n co : Int) (lo hi k : Nat) (w : World) (h : Sl w lo hi 9 A (H.map Value.string)) (h2 : Sl w lo hi 68 B (gflat G)) (h3 : Sl w lo hi 9 T (N.map Value.string)) (ha : Apart A T) (h0 : 1 ≤ k) (h1 : k + H.length + 2 * G.length + N.length ≤ 4000000) (hhi : hi ≤ w.heap.size) :
    Calls Try.prog 17 #[outV nm bs (.slice A H.length c) (.slice B G.length d) (.slice T N.length x) n co, .int .i64 k] w fun e w' => e = .returned (.int .i64 ((k + H.length + 2 * G.length + N.length : Nat) : Int)) ∧
      Sl w' lo hi 9 A ((markN H.length k).map Value.string) ∧ Sl w' lo hi 68 B (gflat (markG G.length (k + H.length))) ∧ Sl w' lo hi 9 T ((markN N.length (k + H.length + 2 * G.length)).map Value.string) ∧ Chg w w' lo hi := by
  have hb0 : Below w.heap.size w (w.alloc (.cells #[.string nm, .int .i64 bs, .slice A H.length c, .slice B G.length d, .slice T N.length x, .int .i64 n, .int .i64 co] 31)) := (Below.refl _ w).alloc (Nat.le_refl _) _
  have k0 := Blk.fresh w 31 [.string nm, .int .i64 bs, .slice A H.length c, .slice B G.length d, .slice T N.length x, .int .i64 n, .int .i64 co]
  simp only [List.toArray] at k0
  have q1 := h.below hb0
  have q2 := h2.below hb0
  have q3 := h3.below hb0
  obtain ⟨j, HJ⟩ : ∃ j, Hid (k + H.length + 2 * G.length = j) := ⟨_, Lib.hid rfl⟩
  have hj : 1 ≤ j ∧ j + N.length ≤ 4000000 := by have := HJ.out; omega
  have hkl : k + H.length + 2 * G.length ≤ 4000000 := by omega
  have MT := markTopic_sl nm bs A H c B G d lo hi k _ q1 q2 h0 hkl
  rw [HJ.out] at MT ⊢
  have MH := Lib.hid MT
  clear MT h1
  go_enter Try.func17, Try.ntmps17
  go_wp2_with (fail)
  refine MH.out.mono ?_
  rintro e w1 ⟨rfl, hX, hY, hO, hc⟩
  have z3 := hO _ _ _ (by decide) q3 ha.symm
  have k1 := k0.offC hc (by omega)
  have hc1 := Chg.after hb0 hc
  have c3 := k1.cell (i := 4) rfl
  clear MH hO hb0
  go_wp2_with (fail)
  refine (markStringS_sl T N x lo hi j w1 z3 hj.1 hj.2).mono ?_
  rintro e w2 ⟨rfl, hZ, hr2, hc2⟩
  have hX2 := hX.apart hr2 ha
  have hY2 := hY.keep hr2 (hY.differ z3 (by decide))
  clear c3
  go_wp2
  go_ret
  exact ⟨rfl, hX2, hY2, hZ, hc1.trans hc2⟩
set_option maxHeartbeats 2000000 in
theorem heldTopicOut_any (nm : ByteArray) (bs : Int) (A : Option Addr) (n c : Nat) (B : Option Addr) (m d : Nat) (T : Option Addr) (p x : Nat) (nn co : Int) (k : Nat) (w : World) (hA : Strs w w.heap.size A (markN n k)) (hB : Grs w w.heap.size B (markG m (k + n))) (hT : Strs w w.heap.size T (markN p (k + n + 2 * m))) (h0 : 1 ≤ k) (h1 : k + n + 2 * m + p ≤ 4000000) :
    Calls Try.prog 18 #[outV nm bs (.slice A n c) (.slice B m d) (.slice T p x) nn co, .int .i64 k] w fun e w' => e = .returned (.int .i64 ((k + n + 2 * m + p : Nat) : Int)) ∧ Below w.heap.size w w' := by
  have hb0 : Below w.heap.size w (w.alloc (.cells #[.string nm, .int .i64 bs, .slice A n c, .slice B m d, .slice T p x, .int .i64 nn, .int .i64 co] 31)) := (Below.refl _ w).alloc (Nat.le_refl _) _
  have k0 := Blk.fresh w 31 [.string nm, .int .i64 bs, .slice A n c, .slice B m d, .slice T p x, .int .i64 nn, .int .i64 co]
  simp only [List.toArray] at k0
  obtain ⟨j, HJ⟩ : ∃ j, Hid (k + n + 2 * m = j) := ⟨_, Lib.hid rfl⟩
  have HM := heldTopic_any nm bs A n c B m d k _ (hA.on hb0) (hB.on hb0) h0 (by omega)
  rw [HJ.out] at HM hT ⊢
  have hj : 1 ≤ j ∧ j + p ≤ 4000000 := by have := HJ.out; omega
  have hj' : ¬ ((j : Int) < 0) := by omega
  have hjp : ¬ (((j + p : Nat) : Int) < 0) := by omega
  have HMH := Lib.hid HM
  have HT := Lib.hid (fun W (h : Below w.heap.size w W) => heldStringS_any T p x j W (hT.on h) hj.1 hj.2)
  clear HM h1
  go_enter Try.func18, Try.ntmps18
  go_wp2_with (fail)
  refine HMH.out.mono ?_
  rintro e w1 ⟨rfl, hb1⟩
  have hw1 := hb0.trans (hb1.mono hb0.size)
  have k1 := k0.below hb1 k0.lt
  have k3 := k1.cell (i := 4) rfl
  clear HMH
  go_wp2_with (fail)
  refine (HT.out _ hw1).mono ?_
  rintro e w2 ⟨rfl, hb2⟩
  go_wp2
  go_ret
  exact ⟨rfl, hw1.trans (hb2.mono hw1.size)⟩
end Go.Proofs.Ytkimieeabmjfgaa

namespace Go.Proofs.Ytkimieeabmjfgaa
open Go.RowKit
set_option linter.unusedVariables false
set_option maxRecDepth 1000000

/-- An answer: a topic, texts, a number, a code. -/
structure Ans where
  o : Tpc
  texts : List ByteArray
  n : Int
  code : Int
def ill (c : Int) : Ans := ⟨⟨⟨#[]⟩, 0, [], []⟩, [], 0, c⟩
/-- What the specification answers: rows that can be read. -/
def SpO (W w' : World) (e : Ending) (R : Ans) : Prop :=
  ∃ A a B b T x, e = .returned (outV R.o.name R.o.base (.slice A R.o.held.length a) (.slice B R.o.groups.length b) (.slice T R.texts.length x) R.n R.code) ∧ Strs w' w'.heap.size A R.o.held ∧ Grs w' w'.heap.size B R.o.groups ∧ Strs w' w'.heap.size T R.texts ∧ Cap A R.o.held.length a ∧ Cap B R.o.groups.length b ∧ Below W.heap.size W w'
/-- What the program answers: rows of its own. -/
def ImO (W w' : World) (e : Ending) (R : Ans) : Prop :=
  ∃ A a B b T x, e = .returned (outV R.o.name R.o.base (.slice A R.o.held.length a) (.slice B R.o.groups.length b) (.slice T R.texts.length x) R.n R.code) ∧ Sl w' W.heap.size w'.heap.size 9 A (R.o.held.map Value.string) ∧ Sl w' W.heap.size w'.heap.size 68 B (gflat R.o.groups) ∧ Sl w' W.heap.size w'.heap.size 9 T (R.texts.map Value.string) ∧ Apart A T ∧ Cap A R.o.held.length a ∧ Cap B R.o.groups.length b ∧ Below W.heap.size W w'
theorem strs_nil (w : World) (B : Nat) (A : Option Addr) : Strs w B A [] := ⟨by simp [maxLen], fun i h => absurd h (by simp)⟩
theorem grs_nil (w : World) (B : Nat) (A : Option Addr) : Grs w B A [] := ⟨by simp [maxLen], fun i h => absurd h (by simp)⟩
theorem cap_nil : Cap none 0 0 := ⟨fun _ => rfl, Nat.le_refl _, by simp [maxLen]⟩
abbrev illV (c : Int) : Value := outV ⟨#[]⟩ 0 (.slice none 0 0) (.slice none 0 0) (.slice none 0 0) 0 c
theorem SpO.ill {W w' : World} {c : Int} (h : Below W.heap.size W w') : SpO W w' (.returned (illV c)) (ill c) :=
  ⟨none, 0, none, 0, none, 0, rfl, strs_nil _ _ _, grs_nil _ _ _, strs_nil _ _ _, cap_nil, cap_nil, h⟩
theorem ImO.ill {W w' : World} {c : Int} (h : Below W.heap.size W w') : ImO W w' (.returned (illV c)) (ill c) :=
  ⟨none, 0, none, 0, none, 0, rfl, .inl rfl, .inl rfl, .inl rfl, (fun a b h => by cases h), cap_nil, cap_nil, h⟩
theorem l07Ill_any (c : Int) (w : World) : Calls Try.prog 41 #[.int .i64 c] w fun e w' => e = .returned (illV c) ∧ Below w.heap.size w w' := by
  go_enter Try.func41, Try.ntmps41
  go_wp2
  exact bodyPost_ret (v := illV c) (by simp [results, Try.results41, go_sem]) rfl ⟨rfl, below_box _ _⟩
end Go.Proofs.Ytkimieeabmjfgaa

namespace Go.Proofs.Ytkimieeabmjfgaa
open Go.RowKit Go.Deep
set_option linter.unusedVariables false
set_option maxRecDepth 1000000
/-- What an operation on a topicWork leaves: a code, or the answer laid into its block. -/
def OpPost (lo p : Nat) (s : ByteArray) (n : Int) (R : Ans) (w : World) (e : Ending) (w' : World) : Prop :=
  Below lo w w' ∧ (∀ g cs, g ≠ p → Blk w g 31 cs → Blk w' g 31 cs) ∧ e = .returned (.int .i64 R.code) ∧
    ((R.code ≠ 0 ∧ R = ill R.code) ∨ (R.code = 0 ∧ ∃ A a B b T x, Blk w' p 73 [.string R.o.name, .int .i64 R.o.base, .slice A R.o.held.length a, .slice B R.o.groups.length b, .string s, .int .i64 n, .slice T R.texts.length x, .int .i64 R.n] ∧
      Sl w' lo w'.heap.size 9 A (R.o.held.map Value.string) ∧ Sl w' lo w'.heap.size 68 B (gflat R.o.groups) ∧ Sl w' lo w'.heap.size 9 T (R.texts.map Value.string) ∧ Apart A T ∧ Cap A R.o.held.length a ∧ Cap B R.o.groups.length b))
theorem Sl.cut {w : World} {lo hi : Nat} {A : Option Addr} {L : List ByteArray} (h : Sl w lo hi 9 A (L.map Value.string)) {k c : Nat} (hk : k ≤ L.length) (hc : L.length ≤ c) : Sl w lo hi 9 (if c = k then A else A.map (·.add k)) ((L.drop k).map Value.string) := by
  by_cases hz : L.length = k
  · exact .inl (by rw [List.map_eq_nil_iff, List.drop_eq_nil_iff]; omega)
  rw [if_neg (by omega)]
  rcases h with h | ⟨g, off, cs, h1, h2, h3, h4⟩
  · refine .inl ?_
    rw [List.map_eq_nil_iff] at h
    subst h; simp
  · refine .inr ⟨g, off + k, cs, by rw [h1]; simp [add_none], h2, h3, fun j v hj => ?_⟩
    rw [Nat.add_assoc]
    refine h4 (k + j) v ?_
    rw [List.map_drop, List.getElem?_drop] at hj
    exact hj
end Go.Proofs.Ytkimieeabmjfgaa

namespace Go.Proofs.Ytkimieeabmjfgaa
open Go.RowKit Go.Deep
set_option linter.unusedVariables false
set_option maxRecDepth 1000000
/-- What run answers: rows made from lo on; blocks below lo are as they were. -/
def RunO (lo : Nat) (W w' : World) (e : Ending) (R : Ans) : Prop :=
  ∃ A a B b T x, e = .returned (outV R.o.name R.o.base (.slice A R.o.held.length a) (.slice B R.o.groups.length b) (.slice T R.texts.length x) R.n R.code) ∧ Sl w' lo w'.heap.size 9 A (R.o.held.map Value.string) ∧ Sl w' lo w'.heap.size 68 B (gflat R.o.groups) ∧ Sl w' lo w'.heap.size 9 T (R.texts.map Value.string) ∧ Apart A T ∧ Cap A R.o.held.length a ∧ Cap B R.o.groups.length b ∧ Below lo W w'
/-- Answers that lay there lie there still. -/
def Kp (w W : World) (p : Nat) : Prop := ∀ g cs, g ≠ p → Blk w g 31 cs → Blk W g 31 cs
theorem Kp.refl (w : World) (p : Nat) : Kp w w p := fun g cs _ h => h
theorem Kp.alloc {w W : World} {p : Nat} (h : Kp w W p) (o : Obj) : Kp w (W.alloc o) p := fun g cs hg hb => (h g cs hg hb).alloc o
theorem Kp.below {w W W' : World} {p : Nat} (h : Kp w W p) (hb : Below W.heap.size W W') : Kp w W' p := fun g cs hg hk => (h g cs hg hk).below hb (h g cs hg hk).lt
theorem Kp.put {w W : World} {p : Nat} (h : Kp w W p) (q : Addr) (hq : q.block = p ∨ w.heap.size ≤ q.block) (v : Value) : Kp w (W.setCell q v) p := fun g cs hg hk => (h g cs hg hk).far (by have := hk.lt; rcases hq with hq | hq <;> omega) v
theorem Kp.then {w W W' : World} {p : Nat} (h : Kp w W p) (hk : ∀ g cs, g ≠ p → Blk W g 31 cs → Blk W' g 31 cs) : Kp w W' p := fun g cs hg hb => hk g cs hg (h g cs hg hb)
theorem RunO.ill {lo : Nat} {W w' : World} {c : Int} (h : Below lo W w') : RunO lo W w' (.returned (illV c)) (ill c) :=
  ⟨none, 0, none, 0, none, 0, rfl, .inl rfl, .inl rfl, .inl rfl, (fun a b h => by cases h), cap_nil, cap_nil, h⟩
theorem Sl.off {w : World} {lo hi g : Nat} {t t' : TypeId} {A : Option Addr} {xs cs : List Value} (h : Sl w lo hi t A xs) (hB : Blk w g t' cs) (ht : t ≠ t') (i : Nat) (v : Value) : Sl (w.setCell ⟨g, i, none⟩ v) lo hi t A xs := by
  rcases h with h | ⟨g', off, ds, h1, h2, h3, h4⟩
  · exact .inl h
  · refine .inr ⟨g', off, ds, h1, h2, h3.far (fun e => ?_) v, h4⟩
    simp only at e
    subst e
    unfold Blk at h3 hB
    rw [h3] at hB
    injection hB with hB
    injection hB with _ h5 _
    exact ht h5
theorem pub_out {w w6 w9 : World} {on : ByteArray} {ob n co : Int} {oH N : List ByteArray} {oG : List Grp} {A1 B1 T1 : Option Addr} {a1 b1 x1 : Nat} (hsz : w9.heap.size = w6.heap.size) (rA : Sl w9 w.heap.size w6.heap.size 9 A1 (oH.map Value.string)) (rB : Sl w9 w.heap.size w6.heap.size 68 B1 (gflat oG)) (rT : Sl w9 w.heap.size w6.heap.size 9 T1 (N.map Value.string)) (hap : Apart A1 T1) (cA : Cap A1 oH.length a1) (cB : Cap B1 oG.length b1) (hb : Below w.heap.size w w9) :
    ImO w w9 (.returned (outV on ob (.slice A1 oH.length a1) (.slice B1 oG.length b1) (.slice T1 N.length x1) n co)) ⟨⟨on, ob, oH, oG⟩, N, n, co⟩ :=
  ⟨A1, a1, B1, b1, T1, x1, rfl, by rw [hsz]; exact rA, by rw [hsz]; exact rB, by rw [hsz]; exact rT, hap, cA, cB, hb⟩
/-- All that lay in w lies there still, but for block p. -/
structure Kept (w W : World) (p : Nat) : Prop where
  size : w.heap.size ≤ W.heap.size
  at_ : ∀ g, g < w.heap.size → g ≠ p → W.heap[g]? = w.heap[g]?
theorem Kept.refl (w : World) (p : Nat) : Kept w w p := ⟨Nat.le_refl _, fun _ _ _ => rfl⟩
theorem Kept.below {w W W' : World} {p : Nat} (h : Kept w W p) (hb : Below W.heap.size W W') : Kept w W' p := ⟨Nat.le_trans h.size hb.size, fun g hg hp => (hb.block g (Nat.lt_of_lt_of_le hg h.size)).trans (h.at_ g hg hp)⟩
theorem Kept.alloc {w W : World} {p : Nat} (h : Kept w W p) (o : Obj) : Kept w (W.alloc o) p := h.below ((Below.refl _ W).alloc (Nat.le_refl _) o)
theorem Kept.put {w W : World} {p : Nat} (h : Kept w W p) (q : Addr) (hq : q.block = p ∨ w.heap.size ≤ q.block) (v : Value) : Kept w (W.setCell q v) p :=
  ⟨by have := h.size; simpa [World.setCell] using this, fun g hg hp => (Below.heap_setCell W q v g (by rcases hq with hq | hq <;> omega)).trans (h.at_ g hg hp)⟩
theorem Kept.blk {w W : World} {p g : Nat} {t : TypeId} {cs : List Value} (h : Kept w W p) (hb : Blk w g t cs) (hp : g ≠ p) : Blk W g t cs := (h.at_ g hb.lt hp).trans hb
/-- What run answers. -/
noncomputable def runR (t : Tpc) (r : Bool) (R : Ans) : Ans := if (topB t && r) = false then ill 1 else R
theorem run_out {lo hi : Nat} {w w9 : World} {on : ByteArray} {ob rn : Int} {oH N : List ByteArray} {oG : List Grp} {A9 B9 T9 : Option Addr} {a9 b9 x9 : Nat} {R : Ans} (h : R = ⟨⟨on, ob, oH, oG⟩, N, rn, 0⟩) (hsz : hi ≤ w9.heap.size) (rA : Sl w9 lo hi 9 A9 (oH.map Value.string)) (rB : Sl w9 lo hi 68 B9 (gflat oG)) (rT : Sl w9 lo hi 9 T9 (N.map Value.string)) (hap : Apart A9 T9) (cA : Cap A9 oH.length a9) (cB : Cap B9 oG.length b9) (hb : Below lo w w9) :
    RunO lo w w9 (.returned (outV on ob (.slice A9 oH.length a9) (.slice B9 oG.length b9) (.slice T9 N.length x9) rn 0)) R := by
  subst h
  exact ⟨A9, a9, B9, b9, T9, x9, rfl, rA.wide (Nat.le_refl _) hsz, rB.wide (Nat.le_refl _) hsz, rT.wide (Nat.le_refl _) hsz, hap, cA, cB, hb⟩
end Go.Proofs.Ytkimieeabmjfgaa
