/- Commands: when one is right; spec.CommandRight and impl.CommandRight both answer cmdB. Strings in order. When a topic is right; the end of a topic. A topicWork in memory. -/
import Derived.Test.YtjnbhppnchmeoaaIs3W
import Derived.Laws.StructEq
import Derived.Laws.Cover1
import Derived.Test.YtjnbhppnchmeoaaDrawW
import Derived.Test.YtjnbhppnchmeoaaStrArgW
namespace Go.Proofs.Ytjnbhppnchmeoaa
open Go.RowKit
set_option linter.unusedVariables false
set_option maxRecDepth 1000000

/-- A command. -/
structure Cmd where
  client : Int
  number : Int
  kind : Int
  topic : ByteArray
  group : ByteArray
  text : ByteArray
  n : Int
abbrev cmdV (a b k : Int) (t g x : ByteArray) (n : Int) : Value := .agg #[.int .i64 a, .int .i64 b, .int .i64 k, .string t, .string g, .string x, .int .i64 n]
def Cmd.v (c : Cmd) : Value := cmdV c.client c.number c.kind c.topic c.group c.text c.n
def Cmd.small (c : Cmd) : Prop := c.topic.size ≤ maxLen ∧ c.group.size ≤ maxLen ∧ c.text.size ≤ maxLen
def inB (n a b : Int) : Bool := decide (a ≤ n) && decide (n ≤ b)
def emptyB (s : ByteArray) : Bool := decide (s.size = 0)
noncomputable def kindB (k : Int) (g x : ByteArray) (n : Int) : Bool :=
  if k = 1 ∨ k = 2 then emptyB g && (emptyB x && decide (n = 0))
  else if k = 3 then emptyB g && (inB x.size 1 40 && decide (n = 0))
  else if k = 4 ∨ k = 5 ∨ k = 6 then nameB g && (emptyB x && inB n 0 1000000000)
  else if k = 7 then emptyB g && (emptyB x && inB n 0 20)
  else false
/-- CommandRight. -/
noncomputable def cmdB (c : Cmd) : Bool := inB c.client 1 9 && (inB c.number 1 1000000000 && (nameB c.topic && kindB c.kind c.group c.text c.n))
theorem empty_eq {s : ByteArray} (h : emptyB s = true) : s = ⟨#[]⟩ := by
  have h1 : s.size = 0 := of_decide_eq_true h
  apply ByteArray.ext
  exact Array.eq_empty_of_size_eq_zero h1
theorem empty_list {s : ByteArray} (h : emptyB s = false) : (s.toList == []) = false := by
  have h1 : ¬ s.size = 0 := of_decide_eq_false h
  rw [ByteArray.toList_eq]
  obtain ⟨⟨l⟩⟩ := s
  cases l with
  | nil => exact absurd rfl h1
  | cons a l => rfl
theorem empty_list' {s : ByteArray} (h : emptyB s = false) : (([] : List UInt8) == s.toList) = false := by
  have := empty_list h
  generalize s.toList = l at this
  cases l with
  | nil => simp at this
  | cons a l => rfl
theorem kindWays (k : Int) : k = 1 ∨ k = 2 ∨ k = 3 ∨ k = 4 ∨ k = 5 ∨ k = 6 ∨ k = 7 ∨ ((k == 1) = false ∧ (k == 2) = false ∧ (k == 3) = false ∧ (k == 4) = false ∧ (k == 5) = false ∧ (k == 6) = false ∧ (k == 7) = false) := by
  simp only [beq_eq_false_iff_ne, ne_eq]; omega
theorem below_box (w : World) (o : Obj) : Below w.heap.size w (w.alloc o) := (Below.refl _ _).alloc (Nat.le_refl _) o
theorem zeroWays (n : Int) : (n = 0 ∧ decide (n = 0) = true) ∨ ((n == 0) = false ∧ decide (n = 0) = false) := by
  by_cases h : n = 0
  · exact .inl ⟨h, by simp [h]⟩
  · exact .inr ⟨by simp [h], by simp [h]⟩
theorem emptyWays (s : ByteArray) : (s = ⟨#[]⟩ ∧ emptyB s = true) ∨ ((s.toList == []) = false ∧ emptyB s = false) := by
  cases h : emptyB s
  · exact .inr ⟨empty_list h, rfl⟩
  · exact .inl ⟨empty_eq h, rfl⟩
theorem is3 {n a b : Int} {r : Bool} (h : inB n a b = r) (w : World) : Calls Try.prog 69 #[.int .i64 n, .int .i64 a, .int .i64 b] w fun e w' => e = .returned (.bool r) ∧ w' = w := by
  subst h; exact l03Is_any n a b w
theorem inRange_any {n a b : Int} {r : Bool} (h : inB n a b = r) (w : World) : Calls Try.prog 64 #[.int .i64 n, .int .i64 a, .int .i64 b] w fun e w' => e = .returned (.bool r) ∧ w' = w := by
  subst h
  by_cases h : a ≤ n
  · go_enter Try.func64, Try.ntmps64
    go_wp2
    go_ret
    simp [h, inB]
  · go_enter Try.func64, Try.ntmps64
    go_wp2
    go_ret
    have h' : n < a := by omega
    simp [inB]
    intro h2
    omega
theorem specName_b {s : ByteArray} {r : Bool} (h : nameB s = r) (hs : s.size ≤ maxLen) (w : World) : Calls Try.prog 68 #[.string s] w fun e w' => e = .returned (.bool r) ∧ w' = w := by
  subst h; exact (specNameRight_any s w hs).mono fun e w' h => ⟨h.1, h.2.symm⟩
theorem implName_b {s : ByteArray} {r : Bool} (h : nameB s = r) (hs : s.size ≤ maxLen) (w : World) : Calls Try.prog 63 #[.string s] w fun e w' => e = .returned (.bool r) ∧ w' = w := by
  subst h; exact (implNameRight_any s w hs).mono fun e w' h => ⟨h.1, h.2.symm⟩
theorem textRight_b {s : ByteArray} {r : Bool} (h : inB s.size 1 40 = r) (hs : s.size ≤ maxLen) (w : World) : Calls Try.prog 55 #[.string s] w fun e w' => e = .returned (.bool r) ∧ w' = w := by
  subst h
  unfold maxLen at hs
  by_cases h : 1 ≤ s.size
  · go_enter Try.func55, Try.ntmps55
    go_wp2
    go_ret
    simp [inB]
    omega
  · go_enter Try.func55, Try.ntmps55
    go_wp2
    go_ret
    simp [inB]
    omega
theorem l07Text_b {s : ByteArray} {r : Bool} (h : inB s.size 1 40 = r) (hs : s.size ≤ maxLen) (w : World) : Calls Try.prog 59 #[.string s] w fun e w' => e = .returned (.bool r) ∧ w' = w := by
  subst h
  unfold maxLen at hs
  by_cases h : 1 ≤ s.size
  · go_enter Try.func59, Try.ntmps59
    go_wp2
    go_ret
    simp [inB]
    omega
  · go_enter Try.func59, Try.ntmps59
    go_wp2
    go_ret
    simp [inB]
    omega
end Go.Proofs.Ytjnbhppnchmeoaa

namespace Go.Proofs.Ytjnbhppnchmeoaa
open Go.RowKit
set_option linter.unusedVariables false
def lessB (a b : ByteArray) : Bool := Op.bytesLess a.toList b.toList
end Go.Proofs.Ytjnbhppnchmeoaa

namespace Go.Proofs.Ytjnbhppnchmeoaa
open Go.RowKit
set_option linter.unusedVariables false
set_option maxRecDepth 1000000

/-- A group that is right in its place. -/
def grpIn (t : Tpc) (i : Nat) (h : i < t.groups.length) : Prop := nameB t.groups[i].name = true ∧ inB t.groups[i].acked t.base (t.base + t.held.length) = true ∧ (0 < i → lessB (t.groups[i - 1]'(by omega)).name t.groups[i].name = true)
/-- A right topic. -/
def topOK (t : Tpc) : Prop := nameB t.name = true ∧ inB t.base 0 1000000000 = true ∧ t.held.length ≤ 20 ∧ (∀ i (h : i < t.held.length), inB t.held[i].size 1 40 = true) ∧ t.groups.length ≤ 4 ∧ t.base + t.held.length ≤ 1000000000 ∧ ∀ i (h : i < t.groups.length), grpIn t i h
/-- TopicRight. -/
noncomputable def topB (t : Tpc) : Bool := @decide (topOK t) (Classical.propDecidable _)
theorem topB_true {t : Tpc} (h : topOK t) : topB t = true := by unfold topB; exact @decide_eq_true _ (Classical.propDecidable _) h
theorem topB_false {t : Tpc} (h : ¬ topOK t) : topB t = false := by unfold topB; exact @decide_eq_false _ (Classical.propDecidable _) h
theorem topB_iff {t : Tpc} : topB t = true ↔ topOK t := ⟨fun h => by unfold topB at h; exact @of_decide_eq_true _ (Classical.propDecidable _) h, topB_true⟩
theorem inB_true {n a b : Int} (h : inB n a b = true) : a ≤ n ∧ n ≤ b := by simpa [inB] using h
theorem inB_of {n a b : Int} (h1 : a ≤ n) (h2 : n ≤ b) : inB n a b = true := by simp [inB, h1, h2]

theorem bl {f : FuncId} {args : Array Value} {w : World} {v : Value} (h : Calls Try.prog f args w fun e w' => e = .returned v ∧ w' = w) : Calls Try.prog f args w fun e w' => e = .returned v ∧ Below w.heap.size w w' :=
  h.mono fun _ _ h => ⟨h.1, by rw [h.2]; exact Below.refl _ _⟩
theorem grp_less {t : Tpc} {q k : Nat} (hq : q + 1 = k) (hlt : k < t.groups.length) (hql : q < t.groups.length) (hl : Op.bytesLess t.groups[q].name.toList t.groups[k].name.toList = true) : 0 < k → lessB (t.groups[k - 1]'(by omega)).name t.groups[k].name = true := by
  intro _
  obtain rfl : q = k - 1 := by omega
  exact hl
theorem not_grp_less {t : Tpc} {q k : Nat} (hq : q + 1 = k) (hlt : k < t.groups.length) (hql : q < t.groups.length) (hl : Op.bytesLess t.groups[q].name.toList t.groups[k].name.toList = false) : ¬ grpIn t k hlt := by
  intro h
  have h2 := h.2.2 (by omega)
  obtain rfl : q = k - 1 := by omega
  unfold lessB at h2
  rw [hl] at h2
  cases h2
theorem endOf_any (nm : ByteArray) (bs : Int) (A : Option Addr) (n c : Nat) (gv : Value) (hn : n ≤ 1048576) (h0 : 0 ≤ bs) (h1 : bs ≤ 1000000000) (h2 : gv.oneCell' = true) (w : World) :
    Calls Try.prog 62 #[topV nm bs (.slice A n c) gv] w fun e w' => e = .returned (.int .i64 (bs + n)) ∧ Below w.heap.size w w' := by
  go_enter Try.func62, Try.ntmps62
  go_wp2
  go_ret
  exact ⟨rfl, below_box _ _⟩
theorem l07End_any (nm : ByteArray) (bs : Int) (A : Option Addr) (n c : Nat) (gv : Value) (hn : n ≤ 1048576) (h0 : 0 ≤ bs) (h1 : bs ≤ 1000000000) (h2 : gv.oneCell' = true) (w : World) :
    Calls Try.prog 60 #[topV nm bs (.slice A n c) gv] w fun e w' => e = .returned (.int .i64 (bs + n)) ∧ Below w.heap.size w w' := by
  go_enter Try.func60, Try.ntmps60
  go_wp2
  go_ret
  exact ⟨rfl, below_box _ _⟩
end Go.Proofs.Ytjnbhppnchmeoaa

namespace Go.Proofs.Ytjnbhppnchmeoaa
open Go.RowKit Go.Deep
set_option linter.unusedVariables false
set_option maxRecDepth 1000000
/-- The block of a topicWork at p holds a topic in rows of the call's own (made from lo on), what it was given, and nothing yet of what it answers. -/
structure Wk (w : World) (lo p : Nat) (t : Tpc) (s : ByteArray) (n : Int) (A : Option Addr) (a : Nat) (B : Option Addr) (b : Nat) : Prop where
  blk : Blk w p 83 [.string t.name, .int .i64 t.base, .slice A t.held.length a, .slice B t.groups.length b, .string s, .int .i64 n, .slice none 0 0, .int .i64 0]
  held : OwnS w lo (.slice A t.held.length a) t.held
  grps : OwnG w lo (.slice B t.groups.length b) t.groups
end Go.Proofs.Ytjnbhppnchmeoaa
