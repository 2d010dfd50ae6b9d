/- The copy that the exact laws make of a topic, and their comparison of two. What the exact laws do with a TopicOut. What the changes of a topic answer: the specification and the program. What an operation on a topicWork leaves. -/
import Derived.Test.YtjnbhppnchmeoaaTpSzW
import Derived.Test.YtjnbhppnchmeoaaStrArgW
import Derived.Test.YtjnbhppnchmeoaaTpWkW
namespace Go.Proofs.Ytjnbhppnchmeoaa
open Go.RowKit
set_option linter.unusedVariables false
set_option maxRecDepth 1000000
end Go.Proofs.Ytjnbhppnchmeoaa

namespace Go.Proofs.Ytjnbhppnchmeoaa
open Go.RowKit
set_option linter.unusedVariables false
set_option maxRecDepth 1000000

/-- The value of a TopicOut. -/
abbrev outV (nm : ByteArray) (bs : Int) (h g t : Value) (n co : Int) : Value := .agg #[.string nm, .int .i64 bs, h, g, t, .int .i64 n, .int .i64 co]
/-- The texts that are fetched lie apart from the messages. -/
def Apart (A B : Option Addr) : Prop := ∀ a b, A = some a → B = some b → a.block ≠ b.block
theorem Apart.map {A B : Option Addr} (h : Apart A B) {a : Addr} (ha : A = some a) : A.map (·.block) ≠ B.map (·.block) := by
  subst ha
  cases B with
  | none => simp
  | some b => simpa using h a b rfl rfl
theorem Sl.apart {w w' : World} {lo hi : Nat} {t : TypeId} {A B : Option Addr} {xs ys : List Value} (h : Sl w lo hi t A xs) (hc : Wr w w' B ys) (ha : Apart A B) : Sl w' lo hi t A xs := by
  refine h.keep hc fun hx hy => ?_
  rcases h with h | ⟨g, off, cs, h1, _⟩
  · exact absurd h hx
  · exact ha.map h1
theorem Apart.symm {A B : Option Addr} (h : Apart A B) : Apart B A := fun a b ha hb e => h b a hb ha e.symm
theorem Wr.below {w w1 w2 : World} {A : Option Addr} {xs : List Value} (hb : Below w.heap.size w w1) (h : Wr w1 w2 A xs) : Wr w w2 A xs := by
  obtain ⟨row, hg, hr⟩ := h
  exact ⟨row, ⟨hg.os.trans hb.os, hg.tape.trans hb.tape, hg.output.trans hb.output, Nat.le_trans hb.size hg.size, fun k hk hne => (hg.block k (by have := hb.size; omega) hne).trans (hb.block k hk)⟩, hr⟩
end Go.Proofs.Ytjnbhppnchmeoaa

namespace Go.Proofs.Ytjnbhppnchmeoaa
open Go.RowKit
set_option linter.unusedVariables false
set_option maxRecDepth 1000000

/-- An answer: a topic, texts, a number, a code. -/
structure Ans where
  o : Tpc
  texts : List ByteArray
  n : Int
  code : Int
def ill (c : Int) : Ans := ⟨⟨⟨#[]⟩, 0, [], []⟩, [], 0, c⟩
/-- What the specification answers: rows that can be read. -/
def SpO (W w' : World) (e : Ending) (R : Ans) : Prop :=
  ∃ A a B b T x, e = .returned (outV R.o.name R.o.base (.slice A R.o.held.length a) (.slice B R.o.groups.length b) (.slice T R.texts.length x) R.n R.code) ∧ Strs w' w'.heap.size A R.o.held ∧ Grs w' w'.heap.size B R.o.groups ∧ Strs w' w'.heap.size T R.texts ∧ Cap A R.o.held.length a ∧ Cap B R.o.groups.length b ∧ Below W.heap.size W w'
/-- What the program answers: rows of its own. -/
def ImO (W w' : World) (e : Ending) (R : Ans) : Prop :=
  ∃ A a B b T x, e = .returned (outV R.o.name R.o.base (.slice A R.o.held.length a) (.slice B R.o.groups.length b) (.slice T R.texts.length x) R.n R.code) ∧ Sl w' W.heap.size w'.heap.size 9 A (R.o.held.map Value.string) ∧ Sl w' W.heap.size w'.heap.size 94 B (gflat R.o.groups) ∧ Sl w' W.heap.size w'.heap.size 9 T (R.texts.map Value.string) ∧ Apart A T ∧ Cap A R.o.held.length a ∧ Cap B R.o.groups.length b ∧ Below W.heap.size W w'
theorem strs_nil (w : World) (B : Nat) (A : Option Addr) : Strs w B A [] := ⟨by simp [maxLen], fun i h => absurd h (by simp)⟩
theorem grs_nil (w : World) (B : Nat) (A : Option Addr) : Grs w B A [] := ⟨by simp [maxLen], fun i h => absurd h (by simp)⟩
theorem cap_nil : Cap none 0 0 := ⟨fun _ => rfl, Nat.le_refl _, by simp [maxLen]⟩
abbrev illV (c : Int) : Value := outV ⟨#[]⟩ 0 (.slice none 0 0) (.slice none 0 0) (.slice none 0 0) 0 c
theorem SpO.ill {W w' : World} {c : Int} (h : Below W.heap.size W w') : SpO W w' (.returned (illV c)) (ill c) :=
  ⟨none, 0, none, 0, none, 0, rfl, strs_nil _ _ _, grs_nil _ _ _, strs_nil _ _ _, cap_nil, cap_nil, h⟩
theorem ImO.ill {W w' : World} {c : Int} (h : Below W.heap.size W w') : ImO W w' (.returned (illV c)) (ill c) :=
  ⟨none, 0, none, 0, none, 0, rfl, .inl rfl, .inl rfl, .inl rfl, (fun a b h => by cases h), cap_nil, cap_nil, h⟩
theorem l07Ill_any (c : Int) (w : World) : Calls Try.prog 58 #[.int .i64 c] w fun e w' => e = .returned (illV c) ∧ Below w.heap.size w w' := by
  go_enter Try.func58, Try.ntmps58
  go_wp2
  exact bodyPost_ret (v := illV c) (by simp [results, Try.results58, go_sem]) rfl ⟨rfl, below_box _ _⟩
end Go.Proofs.Ytjnbhppnchmeoaa

namespace Go.Proofs.Ytjnbhppnchmeoaa
open Go.RowKit Go.Deep
set_option linter.unusedVariables false
set_option maxRecDepth 1000000
/-- What an operation on a topicWork leaves: a code, or the answer laid into its block. -/
def OpPost (lo p : Nat) (s : ByteArray) (n : Int) (R : Ans) (w : World) (e : Ending) (w' : World) : Prop :=
  Below lo w w' ∧ (∀ g cs, g ≠ p → Blk w g 30 cs → Blk w' g 30 cs) ∧ e = .returned (.int .i64 R.code) ∧
    ((R.code ≠ 0 ∧ R = ill R.code) ∨ (R.code = 0 ∧ ∃ A a B b T x, Blk w' p 83 [.string R.o.name, .int .i64 R.o.base, .slice A R.o.held.length a, .slice B R.o.groups.length b, .string s, .int .i64 n, .slice T R.texts.length x, .int .i64 R.n] ∧
      Sl w' lo w'.heap.size 9 A (R.o.held.map Value.string) ∧ Sl w' lo w'.heap.size 94 B (gflat R.o.groups) ∧ Sl w' lo w'.heap.size 9 T (R.texts.map Value.string) ∧ Apart A T ∧ Cap A R.o.held.length a ∧ Cap B R.o.groups.length b))
theorem Sl.cut {w : World} {lo hi : Nat} {A : Option Addr} {L : List ByteArray} (h : Sl w lo hi 9 A (L.map Value.string)) {k c : Nat} (hk : k ≤ L.length) (hc : L.length ≤ c) : Sl w lo hi 9 (if c = k then A else A.map (·.add k)) ((L.drop k).map Value.string) := by
  by_cases hz : L.length = k
  · exact .inl (by rw [List.map_eq_nil_iff, List.drop_eq_nil_iff]; omega)
  rw [if_neg (by omega)]
  rcases h with h | ⟨g, off, cs, h1, h2, h3, h4⟩
  · refine .inl ?_
    rw [List.map_eq_nil_iff] at h
    subst h; simp
  · refine .inr ⟨g, off + k, cs, by rw [h1]; simp [add_none], h2, h3, fun j v hj => ?_⟩
    rw [Nat.add_assoc]
    refine h4 (k + j) v ?_
    rw [List.map_drop, List.getElem?_drop] at hj
    exact hj
end Go.Proofs.Ytjnbhppnchmeoaa
