/- Contract of spec.l03Is: whether a number lies within two others. Commands: when one is right; spec.CommandRight and impl.CommandRight both answer cmdB. The encoding of a command. Plain facts: a number and a text that are read have only one encoding, and what is encoded is read back; so with commands. No program is named but in the imports. -/
import Derived.Test.YtjnbhppnchmeoaaDoorRdW
import Derived.WalkKit
import Derived.Below
import Derived.Lib.Hide
import Derived.Test.YtjnbhppnchmeoaaDoorNameW
import Derived.Laws.StructEq
import Derived.Laws.Cover1
import Derived.Test.YtjnbhppnchmeoaaDoorGtW
namespace Go.Proofs.YtjnbhppnchmeoaaDoor
open Go.RowKit
set_option linter.unusedVariables false

theorem l03Is_any (n a b : Int) (w : World) : Calls Tryd.prog 36 #[.int .i64 n, .int .i64 a, .int .i64 b] w fun e w' => e = .returned (.bool (decide (a ≤ n) && decide (n ≤ b))) ∧ w' = w := by
  by_cases h : a ≤ n
  · go_enter Tryd.func36, Tryd.ntmps36
    go_wp2
    go_ret
    simp [h]
  · go_enter Tryd.func36, Tryd.ntmps36
    go_wp2
    go_ret
    have h' : n < a := by omega
    simp
    intro h2
    omega
end Go.Proofs.YtjnbhppnchmeoaaDoor

namespace Go.Proofs.YtjnbhppnchmeoaaDoor
open Go.RowKit
set_option linter.unusedVariables false
set_option maxRecDepth 1000000

/-- A command. -/
structure Cmd where
  client : Int
  number : Int
  kind : Int
  topic : ByteArray
  group : ByteArray
  text : ByteArray
  n : Int
abbrev cmdV (a b k : Int) (t g x : ByteArray) (n : Int) : Value := .agg #[.int .i64 a, .int .i64 b, .int .i64 k, .string t, .string g, .string x, .int .i64 n]
def Cmd.v (c : Cmd) : Value := cmdV c.client c.number c.kind c.topic c.group c.text c.n
def Cmd.small (c : Cmd) : Prop := c.topic.size ≤ maxLen ∧ c.group.size ≤ maxLen ∧ c.text.size ≤ maxLen
def inB (n a b : Int) : Bool := decide (a ≤ n) && decide (n ≤ b)
def emptyB (s : ByteArray) : Bool := decide (s.size = 0)
noncomputable def kindB (k : Int) (g x : ByteArray) (n : Int) : Bool :=
  if k = 1 ∨ k = 2 then emptyB g && (emptyB x && decide (n = 0))
  else if k = 3 then emptyB g && (inB x.size 1 40 && decide (n = 0))
  else if k = 4 ∨ k = 5 ∨ k = 6 then nameB g && (emptyB x && inB n 0 1000000000)
  else if k = 7 then emptyB g && (emptyB x && inB n 0 20)
  else false
/-- CommandRight. -/
noncomputable def cmdB (c : Cmd) : Bool := inB c.client 1 9 && (inB c.number 1 1000000000 && (nameB c.topic && kindB c.kind c.group c.text c.n))
theorem empty_eq {s : ByteArray} (h : emptyB s = true) : s = ⟨#[]⟩ := by
  have h1 : s.size = 0 := of_decide_eq_true h
  apply ByteArray.ext
  exact Array.eq_empty_of_size_eq_zero h1
theorem empty_list {s : ByteArray} (h : emptyB s = false) : (s.toList == []) = false := by
  have h1 : ¬ s.size = 0 := of_decide_eq_false h
  rw [ByteArray.toList_eq]
  obtain ⟨⟨l⟩⟩ := s
  cases l with
  | nil => exact absurd rfl h1
  | cons a l => rfl
theorem empty_list' {s : ByteArray} (h : emptyB s = false) : (([] : List UInt8) == s.toList) = false := by
  have := empty_list h
  generalize s.toList = l at this
  cases l with
  | nil => simp at this
  | cons a l => rfl
theorem kindWays (k : Int) : k = 1 ∨ k = 2 ∨ k = 3 ∨ k = 4 ∨ k = 5 ∨ k = 6 ∨ k = 7 ∨ ((k == 1) = false ∧ (k == 2) = false ∧ (k == 3) = false ∧ (k == 4) = false ∧ (k == 5) = false ∧ (k == 6) = false ∧ (k == 7) = false) := by
  simp only [beq_eq_false_iff_ne, ne_eq]; omega
theorem below_box (w : World) (o : Obj) : Below w.heap.size w (w.alloc o) := (Below.refl _ _).alloc (Nat.le_refl _) o
theorem zeroWays (n : Int) : (n = 0 ∧ decide (n = 0) = true) ∨ ((n == 0) = false ∧ decide (n = 0) = false) := by
  by_cases h : n = 0
  · exact .inl ⟨h, by simp [h]⟩
  · exact .inr ⟨by simp [h], by simp [h]⟩
theorem emptyWays (s : ByteArray) : (s = ⟨#[]⟩ ∧ emptyB s = true) ∨ ((s.toList == []) = false ∧ emptyB s = false) := by
  cases h : emptyB s
  · exact .inr ⟨empty_list h, rfl⟩
  · exact .inl ⟨empty_eq h, rfl⟩
theorem is3 {n a b : Int} {r : Bool} (h : inB n a b = r) (w : World) : Calls Tryd.prog 36 #[.int .i64 n, .int .i64 a, .int .i64 b] w fun e w' => e = .returned (.bool r) ∧ w' = w := by
  subst h; exact l03Is_any n a b w
theorem inRange_any {n a b : Int} {r : Bool} (h : inB n a b = r) (w : World) : Calls Tryd.prog 41 #[.int .i64 n, .int .i64 a, .int .i64 b] w fun e w' => e = .returned (.bool r) ∧ w' = w := by
  subst h
  by_cases h : a ≤ n
  · go_enter Tryd.func41, Tryd.ntmps41
    go_wp2
    go_ret
    simp [h, inB]
  · go_enter Tryd.func41, Tryd.ntmps41
    go_wp2
    go_ret
    have h' : n < a := by omega
    simp [inB]
    intro h2
    omega
theorem specName_b {s : ByteArray} {r : Bool} (h : nameB s = r) (hs : s.size ≤ maxLen) (w : World) : Calls Tryd.prog 86 #[.string s] w fun e w' => e = .returned (.bool r) ∧ w' = w := by
  subst h; exact (specNameRight_any s w hs).mono fun e w' h => ⟨h.1, h.2.symm⟩
theorem implName_b {s : ByteArray} {r : Bool} (h : nameB s = r) (hs : s.size ≤ maxLen) (w : World) : Calls Tryd.prog 93 #[.string s] w fun e w' => e = .returned (.bool r) ∧ w' = w := by
  subst h; exact (implNameRight_any s w hs).mono fun e w' h => ⟨h.1, h.2.symm⟩
theorem textRight_b {s : ByteArray} {r : Bool} (h : inB s.size 1 40 = r) (hs : s.size ≤ maxLen) (w : World) : Calls Tryd.prog 118 #[.string s] w fun e w' => e = .returned (.bool r) ∧ w' = w := by
  subst h
  unfold maxLen at hs
  by_cases h : 1 ≤ s.size
  · go_enter Tryd.func118, Tryd.ntmps118
    go_wp2
    go_ret
    simp [inB]
    omega
  · go_enter Tryd.func118, Tryd.ntmps118
    go_wp2
    go_ret
    simp [inB]
    omega
theorem l07Text_b {s : ByteArray} {r : Bool} (h : inB s.size 1 40 = r) (hs : s.size ≤ maxLen) (w : World) : Calls Tryd.prog 88 #[.string s] w fun e w' => e = .returned (.bool r) ∧ w' = w := by
  subst h
  unfold maxLen at hs
  by_cases h : 1 ≤ s.size
  · go_enter Tryd.func88, Tryd.ntmps88
    go_wp2
    go_ret
    simp [inB]
    omega
  · go_enter Tryd.func88, Tryd.ntmps88
    go_wp2
    go_ret
    simp [inB]
    omega
end Go.Proofs.YtjnbhppnchmeoaaDoor

namespace Go.Proofs.YtjnbhppnchmeoaaDoor
open Go.RowKit
set_option linter.unusedVariables false

def numS (n : Int) : ByteArray := strOfNums (vint (zig n))
theorem numS_size (n : Int) : (numS n).size = (vint (zig n)).length := strOfNums_size _
def Cmd.zero : Cmd := ⟨0, 0, 0, ⟨#[]⟩, ⟨#[]⟩, ⟨#[]⟩, 0⟩
/-- Its encoding. -/
def Cmd.enc (c : Cmd) : ByteArray := numS c.client ++ numS c.number ++ numS c.kind ++ ptext c.topic ++ ptext c.group ++ ptext c.text ++ numS c.n
/-- CommandBytes. -/
noncomputable def cmdBytes (c : Cmd) : ByteArray := if cmdB c = true then c.enc else ⟨#[]⟩
theorem name_size {s : ByteArray} (h : nameB s = true) : s.size ≤ 20 := by simp [nameB] at h; omega
theorem empty_size {s : ByteArray} (h : emptyB s = true) : s.size = 0 := of_decide_eq_true h
/-- What a right command's fields are bounded by. -/
theorem cmdB_sizes {c : Cmd} (h : cmdB c = true) : (1 ≤ c.client ∧ c.client ≤ 9) ∧ (1 ≤ c.number ∧ c.number ≤ 1000000000) ∧ (1 ≤ c.kind ∧ c.kind ≤ 7) ∧ (0 ≤ c.n ∧ c.n ≤ 1000000000) ∧ c.topic.size ≤ 20 ∧ c.group.size ≤ 20 ∧ c.text.size ≤ 40 := by
  obtain ⟨a, b, k, t, g, x, n⟩ := c
  unfold cmdB at h
  simp only [Bool.and_eq_true] at h
  obtain ⟨h1, h2, h3, h4⟩ := h
  have h3' := name_size h3
  simp only [inB, Bool.and_eq_true, decide_eq_true_eq] at h1 h2
  unfold kindB at h4
  simp only
  split at h4
  · simp only [Bool.and_eq_true, decide_eq_true_eq] at h4
    have e1 := empty_size h4.1
    have e2 := empty_size h4.2.1
    omega
  split at h4
  · simp only [Bool.and_eq_true, decide_eq_true_eq, inB] at h4
    have e1 := empty_size h4.1
    omega
  split at h4
  · simp only [Bool.and_eq_true, decide_eq_true_eq, inB] at h4
    have e1 := name_size h4.1
    have e2 := empty_size h4.2.1
    omega
  split at h4
  · simp only [Bool.and_eq_true, decide_eq_true_eq, inB] at h4
    have e1 := empty_size h4.1
    have e2 := empty_size h4.2.1
    omega
  · cases h4
theorem numS_le {n : Int} (h0 : -9223372036854775808 ≤ n) (h1 : n ≤ 9223372036854775807) : (numS n).size ≤ 10 := by
  rw [numS_size]; exact vint_len10 _ (zig_lt h0 h1)
theorem ptext_le {t : ByteArray} (h : t.size ≤ 1048576) : (ptext t).size ≤ t.size + 10 := by
  have := vint_size t h
  unfold ptext
  rw [ByteArray.size_append]
  omega
end Go.Proofs.YtjnbhppnchmeoaaDoor

namespace Go.Proofs.YtjnbhppnchmeoaaDoor
open Go.RowKit
set_option linter.unusedVariables false

/-- The numbers of l stand in s from q on. -/
def Bs (s : ByteArray) (q : Nat) (l : List Int) : Prop := ∀ i (h : i < l.length), ∃ hq : q + i < s.size, (s[q + i].toNat : Int) = l[i]
theorem Bs.one {s : ByteArray} {q : Nat} {v : Int} (h : q < s.size) (e : (s[q].toNat : Int) = v) : Bs s q [v] := by
  intro i hi
  have : i = 0 := by simp at hi; omega
  subst this
  exact ⟨h, e⟩
theorem Bs.cons {s : ByteArray} {q : Nat} {v : Int} {l : List Int} (h : q < s.size) (e : (s[q].toNat : Int) = v) (hl : Bs s (q + 1) l) : Bs s q (v :: l) := by
  intro i hi
  cases i with
  | zero => exact ⟨h, e⟩
  | succ i =>
    obtain ⟨h1, h2⟩ := hl i (by simpa using hi)
    have e1 : q + (i + 1) = q + 1 + i := by omega
    refine ⟨by omega, ?_⟩
    simp only [e1, List.getElem_cons_succ]
    exact h2
theorem Bs.head {s : ByteArray} {q : Nat} {v : Int} {l : List Int} (h : Bs s q (v :: l)) : ∃ hq : q < s.size, (s[q].toNat : Int) = v := h 0 (by simp)
theorem Bs.tail {s : ByteArray} {q : Nat} {v : Int} {l : List Int} (h : Bs s q (v :: l)) : Bs s (q + 1) l := by
  intro i hi
  obtain ⟨h1, h2⟩ := h (i + 1) (by simpa using hi)
  have e1 : q + (i + 1) = q + 1 + i := by omega
  simp only [e1, List.getElem_cons_succ] at h1 h2
  exact ⟨h1, h2⟩
theorem Bs.within {s : ByteArray} {q : Nat} {l : List Int} (h : Bs s q l) (hq : q ≤ s.size) : q + l.length ≤ s.size := by
  by_cases h0 : l.length = 0
  · omega
  · obtain ⟨h1, _⟩ := h (l.length - 1) (by omega)
    omega
theorem Bs.extract {s : ByteArray} {q : Nat} {l : List Int} (h : Bs s q l) (hq : q ≤ s.size) : s.extract q (q + l.length) = strOfNums l := by
  have hw := h.within hq
  apply ByteArray.ext
  apply Array.ext
  · have h1 : (strOfNums l).data.size = l.length := strOfNums_size l
    rw [h1]
    have h2 : s.data.size = s.size := rfl
    simp [ByteArray.data_extract]
    omega
  · intro i h1 h2
    have h3 : i < l.length := by have : (strOfNums l).data.size = l.length := strOfNums_size l; omega
    obtain ⟨h4, h5⟩ := h i h3
    simp only [ByteArray.data_extract, Array.getElem_extract]
    have h6 : s.data[q + i] = s[q + i] := rfl
    rw [h6]
    have h7 : (strOfNums l).data[i] = UInt8.ofNat l[i].toNat := by simp [strOfNums]
    rw [h7, ← h5]
    simp
theorem Bs.of {a b c : ByteArray} {l : List Int} (hb : b = strOfNums l) (hl : ∀ i (h : i < l.length), 0 ≤ l[i] ∧ l[i] < 256) : Bs (a ++ b ++ c) a.size l := by
  intro i hi
  have hz : b.size = l.length := by rw [hb, strOfNums_size]
  have hq : a.size + i < (a ++ b ++ c).size := by simp; omega
  refine ⟨hq, ?_⟩
  have hib : i < b.size := by omega
  have e : (a ++ b ++ c)[a.size + i] = b[i] := by
    rw [ByteArray.getElem_append_left (by simp; omega), ByteArray.getElem_append_right (by omega)]
    congr 1
    omega
  rw [e]
  have e2 : b[i].toNat = l[i].toNat % 256 := by
    subst hb
    simp [strOfNums, ByteArray.getElem_eq_getElem_data]
  obtain ⟨h0, h1⟩ := hl i hi
  rw [e2]
  omega
theorem vint_byte : ∀ (u : Nat) (i : Nat) (h : i < (vint u).length), 0 ≤ (vint u)[i] ∧ (vint u)[i] < 256 := by
  intro u
  induction u using Nat.strongRecOn with
  | ind u ih =>
    intro i h
    by_cases hu : u < 128
    · have hv := vint_small hu
      have hi : i = 0 := by rw [hv] at h; simp at h; omega
      subst hi
      simp only [hv, List.getElem_cons_zero]
      omega
    · have hv := vint_large hu
      cases i with
      | zero => simp only [hv, List.getElem_cons_zero]; omega
      | succ i =>
        have h' : i < (vint (u / 128)).length := by rw [hv] at h; simpa using h
        have := ih (u / 128) (by omega) i h'
        simp only [hv, List.getElem_cons_succ]
        exact this

theorem zig_unzig (u : Nat) : zig (unzig u) = u := by
  unfold zig unzig
  split
  · rw [if_pos (by omega)]; omega
  · rw [if_neg (by omega)]; omega
theorem unzig_zig' (n : Int) : unzig (zig n) = n := by
  by_cases h : n < 0
  · have := zig_neg h
    unfold unzig
    split <;> omega
  · have := zig_pos (n := n) (by omega)
    unfold unzig
    split <;> omega

/-- What is read is what PutNum writes. -/
theorem rd_canon {s : ByteArray} {p : Nat} : ∀ (n k u : Nat) {u' m : Nat}, n + k = 10 → rd s p n k u = .ok (u', m) →
    ∃ v, u' = u + v * 2 ^ (7 * k) ∧ m = k + (vint v).length ∧ (0 < k → 0 < v) ∧ Bs s (p + k) (vint v) := by
  intro n
  induction n with
  | zero => intro k u u' m _ h; simp [rd] at h
  | succ n ih =>
    intro k u u' m hnk h
    rw [rd] at h
    split at h
    · rename_i hlt
      obtain ⟨b, hb⟩ : ∃ b, s[p + k].toNat = b := ⟨_, rfl⟩
      rw [hb] at h
      have hb256 : b < 256 := by rw [← hb]; exact s[p + k].toNat_lt
      split at h
      · cases h
      · rename_i h9
        split at h
        · rename_i h128
          split at h
          · cases h
          · rename_i h0
            cases h
            refine ⟨b, rfl, by rw [vint_small h128]; rfl, by omega, ?_⟩
            rw [vint_small h128]
            exact Bs.one hlt (by rw [hb])
        · rename_i h128
          obtain ⟨v, h1, h2, h3, h4⟩ := ih (k + 1) _ (by omega) h
          have hv0 := h3 (by omega)
          have hvl : ¬ b % 128 + 128 * v < 128 := by omega
          refine ⟨b % 128 + 128 * v, ?_, ?_, by omega, ?_⟩
          · rw [h1, pow7, Nat.add_mul]
            have : v * (128 * 2 ^ (7 * k)) = 128 * v * 2 ^ (7 * k) := by rw [← Nat.mul_assoc, Nat.mul_comm v 128]
            omega
          · rw [vint_large hvl, show (b % 128 + 128 * v) / 128 = v by omega, List.length_cons]
            omega
          · rw [vint_large hvl, show (b % 128 + 128 * v) / 128 = v by omega]
            exact Bs.cons hlt (by rw [hb]; omega) h4
    · cases h
/-- What PutNum writes is read back. -/
theorem rd_back {s : ByteArray} {p : Nat} : ∀ (n k u v : Nat), n + k = 10 → Bs s (p + k) (vint v) → (0 < k → 0 < v) → v * 2 ^ (7 * k) < 18446744073709551616 →
    rd s p n k u = .ok (u + v * 2 ^ (7 * k), k + (vint v).length) := by
  intro n
  induction n with
  | zero =>
    intro k u v hnk hB h0 hlt
    have hk : k = 10 := by omega
    subst hk
    have := h0 (by omega)
    have : 1 * 2 ^ (7 * 10) ≤ v * 2 ^ (7 * 10) := Nat.mul_le_mul_right _ (by omega)
    have e : (2 : Nat) ^ (7 * 10) = 1180591620717411303424 := by decide
    omega
  | succ n ih =>
    intro k u v hnk hB h0 hlt
    have hk9 : k = 9 → v ≤ 1 := by
      intro e
      subst e
      have e : (2 : Nat) ^ (7 * 9) = 9223372036854775808 := by decide
      rw [e] at hlt
      omega
    by_cases hv : v < 128
    · rw [vint_small hv] at hB ⊢
      obtain ⟨hq, hb⟩ := hB.head
      have hb' : s[p + k].toNat = v := by omega
      rw [rd, dif_pos hq, hb', if_neg (by omega), if_pos hv, if_neg (by omega)]
      rfl
    · rw [vint_large hv] at hB ⊢
      obtain ⟨hq, hb⟩ := hB.head
      have hb' : s[p + k].toNat = v % 128 + 128 := by omega
      have hp := pow7 k
      have hd : v = v % 128 + 128 * (v / 128) := by omega
      have hm : v * 2 ^ (7 * k) = v % 128 * 2 ^ (7 * k) + v / 128 * 2 ^ (7 * (k + 1)) := by
        rw [hp]
        conv => lhs; rw [hd, Nat.add_mul]
        rw [← Nat.mul_assoc, Nat.mul_comm (v / 128) 128]
      have hr := ih (k + 1) (u + (v % 128 + 128) % 128 * 2 ^ (7 * k)) (v / 128) (by omega) hB.tail (by omega) (by omega)
      rw [rd, dif_pos hq, hb', if_neg (by omega), if_neg (by omega), hr]
      rw [show (v % 128 + 128) % 128 = v % 128 by omega, List.length_cons]
      simp only [Except.ok.injEq, Prod.mk.injEq]
      exact ⟨by omega, by omega⟩

theorem rd_num {s : ByteArray} {p u m : Nat} (hp : p ≤ s.size) (h : rd s p 10 0 0 = .ok (u, m)) : s.extract p (p + m) = numS (unzig u) ∧ 0 < m ∧ p + m ≤ s.size := by
  obtain ⟨v, h1, h2, _, h4⟩ := rd_canon 10 0 0 rfl h
  have e : u = v := by simpa using h1
  subst e
  have := vint_pos u
  have hx := h4.extract hp
  have hw := h4.within hp
  simp only [Nat.add_zero, Nat.zero_add] at hx hw h2
  subst h2
  unfold numS
  rw [zig_unzig]
  exact ⟨hx, by omega, by omega⟩
theorem rd_of {a c : ByteArray} {n : Int} (h0 : -9223372036854775808 ≤ n) (h1 : n ≤ 9223372036854775807) :
    rd (a ++ numS n ++ c) a.size 10 0 0 = .ok (zig n, (numS n).size) := by
  have hz := zig_lt h0 h1
  have hB : Bs (a ++ numS n ++ c) a.size (vint (zig n)) := Bs.of rfl (vint_byte _)
  have := rd_back (s := a ++ numS n ++ c) (p := a.size) 10 0 0 (zig n) rfl hB (by omega) (by simpa using hz)
  rw [this, numS_size]
  simp
theorem gt_num {s : ByteArray} {p q : Nat} {t : ByteArray} (hp : p ≤ s.size) (h : gt s p = .ok (t, q)) : s.extract p q = ptext t ∧ p < q ∧ q ≤ s.size ∧ t.size ≤ 20000 := by
  unfold gt at h
  cases hr : rd s p 10 0 0 with
  | error c' => rw [hr] at h; cases h
  | ok x =>
    obtain ⟨u, m⟩ := x
    rw [hr] at h
    simp only at h
    obtain ⟨e1, e2, e3⟩ := rd_num hp hr
    split at h
    · cases h
    · rename_i hn
      split at h
      · cases h
      · rename_i hz
        cases h
        have hts : (s.extract (p + m) (p + m + (unzig u).toNat)).size = (unzig u).toNat := by simp; omega
        refine ⟨?_, by omega, by omega, by omega⟩
        unfold ptext
        rw [hts, show (((unzig u).toNat : Nat) : Int) = unzig u by omega]
        have e1' : strOfNums (vint (zig (unzig u))) = s.extract p (p + m) := e1.symm
        rw [e1', ByteArray.extract_append_extract]
        congr 1 <;> omega
theorem cut_self (x : ByteArray) : x.data.extract 0 x.size = x.data := Array.extract_size
theorem cut_out (x : ByteArray) (j : Nat) : x.data.extract x.size j = #[] := Array.extract_empty_of_size_le_start (Nat.le_refl _)
theorem mid_cut {a b c : ByteArray} : (a ++ b ++ c).extract a.size (a.size + b.size) = b := by
  apply ByteArray.ext
  simp [ByteArray.data_extract, cut_out, cut_self]
theorem gt_of {a c t : ByteArray} (ht : t.size ≤ 20000) : gt (a ++ ptext t ++ c) a.size = .ok (t, a.size + (ptext t).size) := by
  have hr := rd_of (a := a) (c := t ++ c) (n := (t.size : Int)) (by omega) (by omega)
  have hs : a ++ ptext t ++ c = a ++ numS t.size ++ (t ++ c) := by unfold ptext numS; simp [ByteArray.append_assoc]
  have hps : (ptext t).size = (numS t.size).size + t.size := by unfold ptext numS; simp
  unfold gt
  rw [hs, hr]
  simp only
  rw [unzig_zig', if_neg (by omega), Int.toNat_natCast, if_neg (by simp [ByteArray.size_append])]
  simp only [Except.ok.injEq, Prod.mk.injEq]
  refine ⟨?_, by omega⟩
  have hm := mid_cut (a := a ++ numS t.size) (b := t) (c := c)
  rw [ByteArray.size_append, ByteArray.append_assoc (a := a ++ numS t.size)] at hm
  exact hm


/-- A number read behind what was read before (none: something was wrong). -/
def rN (s : ByteArray) : Option Nat → Int × Option Nat
  | none => (0, none)
  | some p => match rd s p 10 0 0 with
    | .error _ => (0, none)
    | .ok (u, m) => (unzig u, some (p + m))
def rT (s : ByteArray) : Option Nat → ByteArray × Option Nat
  | none => (⟨#[]⟩, none)
  | some p => match gt s p with
    | .error _ => (⟨#[]⟩, none)
    | .ok (t, q) => (t, some q)
def readC (s : ByteArray) : Cmd × Option Nat :=
  let a := rN s (some 0)
  let b := rN s a.2
  let k := rN s b.2
  let t := rT s k.2
  let g := rT s t.2
  let x := rT s g.2
  let n := rN s x.2
  (⟨a.1, b.1, k.1, t.1, g.1, x.1, n.1⟩, n.2)
theorem rN_some {s : ByteArray} {o : Option Nat} {q : Nat} (h : (rN s o).2 = some q) (ho : ∀ p, o = some p → p ≤ s.size) :
    ∃ p, o = some p ∧ s.extract p q = numS (rN s o).1 ∧ p < q ∧ q ≤ s.size := by
  cases o with
  | none => simp [rN] at h
  | some p =>
    have hp := ho p rfl
    cases hr : rd s p 10 0 0 with
    | error c => simp [rN, hr] at h
    | ok x =>
      obtain ⟨u, m⟩ := x
      have hn := rd_num hp hr
      have e : p + m = q := by simpa [rN, hr] using h
      subst e
      exact ⟨p, rfl, by simp only [rN, hr]; exact hn.1, by omega, hn.2.2⟩
theorem rT_some {s : ByteArray} {o : Option Nat} {q : Nat} (h : (rT s o).2 = some q) (ho : ∀ p, o = some p → p ≤ s.size) :
    ∃ p, o = some p ∧ s.extract p q = ptext (rT s o).1 ∧ p < q ∧ q ≤ s.size := by
  cases o with
  | none => simp [rT] at h
  | some p =>
    have hp := ho p rfl
    cases hr : gt s p with
    | error c => simp [rT, hr] at h
    | ok x =>
      obtain ⟨t, m⟩ := x
      have hn := gt_num hp hr
      have e : m = q := by simpa [rT, hr] using h
      subst e
      exact ⟨p, rfl, by simp only [rT, hr]; exact hn.1, hn.2.1, hn.2.2.1⟩
theorem rN_le {s : ByteArray} {o : Option Nat} (ho : ∀ p, o = some p → p ≤ s.size) : ∀ p, (rN s o).2 = some p → p ≤ s.size := fun q h => (rN_some h ho).choose_spec.2.2.2
theorem rT_le {s : ByteArray} {o : Option Nat} (ho : ∀ p, o = some p → p ≤ s.size) : ∀ p, (rT s o).2 = some p → p ≤ s.size := fun q h => (rT_some h ho).choose_spec.2.2.2
/-- What was read is what CommandBytes writes. -/
theorem readC_enc {s : ByteArray} {q : Nat} (h : (readC s).2 = some q) : s.extract 0 q = (readC s).1.enc ∧ 0 < q ∧ q ≤ s.size := by
  have o0 : ∀ p, some 0 = some p → p ≤ s.size := fun p e => by cases e; omega
  have o1 := rN_le o0
  have o2 := rN_le o1
  have o3 := rN_le o2
  have o4 := rT_le o3
  have o5 := rT_le o4
  have o6 := rT_le o5
  obtain ⟨p6, e6, x6, l6, m6⟩ := rN_some (show (rN s (rT s (rT s (rT s (rN s (rN s (rN s (some 0)).2).2).2).2).2).2).2 = some q from h) o6
  obtain ⟨p5, e5, x5, l5, m5⟩ := rT_some e6 o5
  obtain ⟨p4, e4, x4, l4, m4⟩ := rT_some e5 o4
  obtain ⟨p3, e3, x3, l3, m3⟩ := rT_some e4 o3
  obtain ⟨p2, e2, x2, l2, m2⟩ := rN_some e3 o2
  obtain ⟨p1, e1, x1, l1, m1⟩ := rN_some e2 o1
  obtain ⟨p0, e0, x0, l0, m0⟩ := rN_some e1 o0
  cases e0
  have j : ∀ {a b c : Nat}, a ≤ b → b ≤ c → s.extract a b ++ s.extract b c = s.extract a c := by
    intro a b c h1 h2
    rw [ByteArray.extract_append_extract]
    congr 1 <;> omega
  refine ⟨?_, by omega, by omega⟩
  unfold Cmd.enc readC
  simp only
  rw [← x0, ← x1, ← x2, ← x3, ← x4, ← x5, ← x6]
  rw [j (by omega) (by omega), j (by omega) (by omega), j (by omega) (by omega), j (by omega) (by omega), j (by omega) (by omega), j (by omega) (by omega)]
theorem rN_of {a c : ByteArray} {n : Int} (h0 : -9223372036854775808 ≤ n) (h1 : n ≤ 9223372036854775807) :
    rN (a ++ numS n ++ c) (some a.size) = (n, some (a ++ numS n).size) := by
  simp only [rN, rd_of h0 h1, unzig_zig', ByteArray.size_append]
theorem rT_of {a c t : ByteArray} (ht : t.size ≤ 20000) : rT (a ++ ptext t ++ c) (some a.size) = (t, some (a ++ ptext t).size) := by
  simp only [rT, gt_of ht, ByteArray.size_append]
/-- A command whose numbers fit is read back. -/
theorem readC_of {c : Cmd} (ha : -9223372036854775808 ≤ c.client ∧ c.client ≤ 9223372036854775807) (hb : -9223372036854775808 ≤ c.number ∧ c.number ≤ 9223372036854775807)
    (hk : -9223372036854775808 ≤ c.kind ∧ c.kind ≤ 9223372036854775807) (hn : -9223372036854775808 ≤ c.n ∧ c.n ≤ 9223372036854775807)
    (ht : c.topic.size ≤ 20000) (hg : c.group.size ≤ 20000) (hx : c.text.size ≤ 20000) : readC c.enc = (c, some c.enc.size) := by
  obtain ⟨a, b, k, t, g, x, n⟩ := c
  simp only at ha hb hk hn ht hg hx
  have e0 : ∀ z : ByteArray, (⟨#[]⟩ : ByteArray) ++ z = z := fun z => by apply ByteArray.ext; simp
  have s0 : (Cmd.mk a b k t g x n).enc = (⟨#[]⟩ ++ numS a) ++ (numS b ++ (numS k ++ (ptext t ++ (ptext g ++ (ptext x ++ numS n))))) := by unfold Cmd.enc; rw [e0]; simp [ByteArray.append_assoc]
  have s1 : (Cmd.mk a b k t g x n).enc = ((⟨#[]⟩ ++ numS a) ++ numS b) ++ (numS k ++ (ptext t ++ (ptext g ++ (ptext x ++ numS n)))) := by rw [s0]; simp [ByteArray.append_assoc]
  have s2 : (Cmd.mk a b k t g x n).enc = (((⟨#[]⟩ ++ numS a) ++ numS b) ++ numS k) ++ (ptext t ++ (ptext g ++ (ptext x ++ numS n))) := by rw [s0]; simp [ByteArray.append_assoc]
  have s3 : (Cmd.mk a b k t g x n).enc = ((((⟨#[]⟩ ++ numS a) ++ numS b) ++ numS k) ++ ptext t) ++ (ptext g ++ (ptext x ++ numS n)) := by rw [s0]; simp [ByteArray.append_assoc]
  have s4 : (Cmd.mk a b k t g x n).enc = (((((⟨#[]⟩ ++ numS a) ++ numS b) ++ numS k) ++ ptext t) ++ ptext g) ++ (ptext x ++ numS n) := by rw [s0]; simp [ByteArray.append_assoc]
  have s5 : (Cmd.mk a b k t g x n).enc = ((((((⟨#[]⟩ ++ numS a) ++ numS b) ++ numS k) ++ ptext t) ++ ptext g) ++ ptext x) ++ numS n := by rw [s0]; simp [ByteArray.append_assoc]
  have s6 : (Cmd.mk a b k t g x n).enc = ((((((⟨#[]⟩ ++ numS a) ++ numS b) ++ numS k) ++ ptext t) ++ ptext g) ++ ptext x) ++ numS n ++ ⟨#[]⟩ := by rw [s5]; exact (ByteArray.append_empty).symm
  obtain ⟨E, hE⟩ : ∃ E, (Cmd.mk a b k t g x n).enc = E := ⟨_, rfl⟩
  rw [hE] at s0 s1 s2 s3 s4 s5 s6 ⊢
  have r0 : rN E (some 0) = (a, some (⟨#[]⟩ ++ numS a).size) := by rw [s0]; exact rN_of (a := ⟨#[]⟩) ha.1 ha.2
  have r1 : rN E (some (⟨#[]⟩ ++ numS a).size) = (b, some ((⟨#[]⟩ ++ numS a) ++ numS b).size) := by rw [s1]; exact rN_of hb.1 hb.2
  have r2 : rN E (some ((⟨#[]⟩ ++ numS a) ++ numS b).size) = (k, some (((⟨#[]⟩ ++ numS a) ++ numS b) ++ numS k).size) := by rw [s2]; exact rN_of hk.1 hk.2
  have r3 : rT E (some (((⟨#[]⟩ ++ numS a) ++ numS b) ++ numS k).size) = (t, some ((((⟨#[]⟩ ++ numS a) ++ numS b) ++ numS k) ++ ptext t).size) := by rw [s3]; exact rT_of ht
  have r4 : rT E (some ((((⟨#[]⟩ ++ numS a) ++ numS b) ++ numS k) ++ ptext t).size) = (g, some (((((⟨#[]⟩ ++ numS a) ++ numS b) ++ numS k) ++ ptext t) ++ ptext g).size) := by rw [s4]; exact rT_of hg
  have r5 : rT E (some (((((⟨#[]⟩ ++ numS a) ++ numS b) ++ numS k) ++ ptext t) ++ ptext g).size) = (x, some ((((((⟨#[]⟩ ++ numS a) ++ numS b) ++ numS k) ++ ptext t) ++ ptext g) ++ ptext x).size) := by rw [s5]; exact rT_of hx
  have r6 : rN E (some ((((((⟨#[]⟩ ++ numS a) ++ numS b) ++ numS k) ++ ptext t) ++ ptext g) ++ ptext x).size) = (n, some E.size) := by
    have := rN_of (a := ((((((⟨#[]⟩ ++ numS a) ++ numS b) ++ numS k) ++ ptext t) ++ ptext g) ++ ptext x)) (c := ⟨#[]⟩) (n := n) hn.1 hn.2
    rw [← s6, ← s5] at this
    exact this
  unfold readC
  simp only [r0, r1, r2, r3, r4, r5, r6]
end Go.Proofs.YtjnbhppnchmeoaaDoor
