/- Commands: when one is right; spec.CommandRight and impl.CommandRight both answer cmdB. -/
import Derived.Test.YtdehpdmgoaopfaaName
import Derived.Test.YtdehpdmgoaopfaaIs3
import Derived.Laws.StructEq
import Derived.Laws.Cover1
namespace Go.Proofs.Ytdehpdmgoaopfaa
open Go.RowKit
set_option linter.unusedVariables false
set_option maxRecDepth 1000000

/-- A command. -/
structure Cmd where
  client : Int
  number : Int
  kind : Int
  topic : ByteArray
  group : ByteArray
  text : ByteArray
  n : Int
abbrev cmdV (a b k : Int) (t g x : ByteArray) (n : Int) : Value := .agg #[.int .i64 a, .int .i64 b, .int .i64 k, .string t, .string g, .string x, .int .i64 n]
def Cmd.v (c : Cmd) : Value := cmdV c.client c.number c.kind c.topic c.group c.text c.n
def Cmd.small (c : Cmd) : Prop := c.topic.size ≤ maxLen ∧ c.group.size ≤ maxLen ∧ c.text.size ≤ maxLen
def inB (n a b : Int) : Bool := decide (a ≤ n) && decide (n ≤ b)
def emptyB (s : ByteArray) : Bool := decide (s.size = 0)
noncomputable def kindB (k : Int) (g x : ByteArray) (n : Int) : Bool :=
  if k = 1 ∨ k = 2 then emptyB g && (emptyB x && decide (n = 0))
  else if k = 3 then emptyB g && (inB x.size 1 40 && decide (n = 0))
  else if k = 4 ∨ k = 5 ∨ k = 6 then nameB g && (emptyB x && inB n 0 1000000000)
  else if k = 7 then emptyB g && (emptyB x && inB n 0 20)
  else false
/-- CommandRight. -/
noncomputable def cmdB (c : Cmd) : Bool := inB c.client 1 9 && (inB c.number 1 1000000000 && (nameB c.topic && kindB c.kind c.group c.text c.n))
theorem empty_eq {s : ByteArray} (h : emptyB s = true) : s = ⟨#[]⟩ := by
  have h1 : s.size = 0 := of_decide_eq_true h
  apply ByteArray.ext
  exact Array.eq_empty_of_size_eq_zero h1
theorem empty_list {s : ByteArray} (h : emptyB s = false) : (s.toList == []) = false := by
  have h1 : ¬ s.size = 0 := of_decide_eq_false h
  rw [ByteArray.toList_eq]
  obtain ⟨⟨l⟩⟩ := s
  cases l with
  | nil => exact absurd rfl h1
  | cons a l => rfl
theorem empty_list' {s : ByteArray} (h : emptyB s = false) : (([] : List UInt8) == s.toList) = false := by
  have := empty_list h
  generalize s.toList = l at this
  cases l with
  | nil => simp at this
  | cons a l => rfl
theorem kindWays (k : Int) : k = 1 ∨ k = 2 ∨ k = 3 ∨ k = 4 ∨ k = 5 ∨ k = 6 ∨ k = 7 ∨ ((k == 1) = false ∧ (k == 2) = false ∧ (k == 3) = false ∧ (k == 4) = false ∧ (k == 5) = false ∧ (k == 6) = false ∧ (k == 7) = false) := by
  simp only [beq_eq_false_iff_ne, ne_eq]; omega
theorem below_box (w : World) (o : Obj) : Below w.heap.size w (w.alloc o) := (Below.refl _ _).alloc (Nat.le_refl _) o
theorem zeroWays (n : Int) : (n = 0 ∧ decide (n = 0) = true) ∨ ((n == 0) = false ∧ decide (n = 0) = false) := by
  by_cases h : n = 0
  · exact .inl ⟨h, by simp [h]⟩
  · exact .inr ⟨by simp [h], by simp [h]⟩
theorem emptyWays (s : ByteArray) : (s = ⟨#[]⟩ ∧ emptyB s = true) ∨ ((s.toList == []) = false ∧ emptyB s = false) := by
  cases h : emptyB s
  · exact .inr ⟨empty_list h, rfl⟩
  · exact .inl ⟨empty_eq h, rfl⟩
theorem is3 {n a b : Int} {r : Bool} (h : inB n a b = r) (w : World) : Calls Try.prog 68 #[.int .i64 n, .int .i64 a, .int .i64 b] w fun e w' => e = .returned (.bool r) ∧ w' = w := by
  subst h; exact l03Is_any n a b w
theorem inRange_any {n a b : Int} {r : Bool} (h : inB n a b = r) (w : World) : Calls Try.prog 63 #[.int .i64 n, .int .i64 a, .int .i64 b] w fun e w' => e = .returned (.bool r) ∧ w' = w := by
  subst h
  by_cases h : a ≤ n
  · go_enter Try.func63, Try.ntmps63
    go_wp2
    go_ret
    simp [h, inB]
  · go_enter Try.func63, Try.ntmps63
    go_wp2
    go_ret
    have h' : n < a := by omega
    simp [inB]
    intro h2
    omega
theorem specName_b {s : ByteArray} {r : Bool} (h : nameB s = r) (hs : s.size ≤ maxLen) (w : World) : Calls Try.prog 67 #[.string s] w fun e w' => e = .returned (.bool r) ∧ w' = w := by
  subst h; exact (specNameRight_any s w hs).mono fun e w' h => ⟨h.1, h.2.symm⟩
theorem implName_b {s : ByteArray} {r : Bool} (h : nameB s = r) (hs : s.size ≤ maxLen) (w : World) : Calls Try.prog 62 #[.string s] w fun e w' => e = .returned (.bool r) ∧ w' = w := by
  subst h; exact (implNameRight_any s w hs).mono fun e w' h => ⟨h.1, h.2.symm⟩
theorem textRight_b {s : ByteArray} {r : Bool} (h : inB s.size 1 40 = r) (hs : s.size ≤ maxLen) (w : World) : Calls Try.prog 54 #[.string s] w fun e w' => e = .returned (.bool r) ∧ w' = w := by
  subst h
  unfold maxLen at hs
  by_cases h : 1 ≤ s.size
  · go_enter Try.func54, Try.ntmps54
    go_wp2
    go_ret
    simp [inB]
    omega
  · go_enter Try.func54, Try.ntmps54
    go_wp2
    go_ret
    simp [inB]
    omega
theorem l07Text_b {s : ByteArray} {r : Bool} (h : inB s.size 1 40 = r) (hs : s.size ≤ maxLen) (w : World) : Calls Try.prog 58 #[.string s] w fun e w' => e = .returned (.bool r) ∧ w' = w := by
  subst h
  unfold maxLen at hs
  by_cases h : 1 ≤ s.size
  · go_enter Try.func58, Try.ntmps58
    go_wp2
    go_ret
    simp [inB]
    omega
  · go_enter Try.func58, Try.ntmps58
    go_wp2
    go_ret
    simp [inB]
    omega
end Go.Proofs.Ytdehpdmgoaopfaa
