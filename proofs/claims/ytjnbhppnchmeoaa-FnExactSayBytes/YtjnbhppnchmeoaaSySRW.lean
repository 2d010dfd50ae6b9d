/- Contracts: spec.NameRight and impl.NameRight both answer nameB of their string. Commands: when one is right; spec.CommandRight and impl.CommandRight both answer cmdB. The changes of a new view, the fields of a message: spec.l10Changes, impl.numberedRight, impl.viewRight. SayRight: spec and impl answer alike. -/
import Derived.Test.YtjnbhppnchmeoaaRwkW
import Derived.WalkKit
import Derived.Below
import Derived.Lib.Hide
import Derived.Test.YtjnbhppnchmeoaaAuQW
import Derived.Laws.StructEq
import Derived.Laws.Cover1
import Derived.Test.YtjnbhppnchmeoaaSyCRW
namespace Go.Proofs.Ytjnbhppnchmeoaa
open Go.RowKit
set_option linter.unusedVariables false

def letB (n : Int) : Bool := decide (97 ≤ n ∧ n ≤ 122)
def nameByteB (n : Int) : Bool := decide ((97 ≤ n ∧ n ≤ 122) ∨ (48 ≤ n ∧ n ≤ 57) ∨ n = 95)
def okAt (k : Nat) (n : Int) : Bool := decide ((97 ≤ n ∧ n ≤ 122) ∨ (0 < k ∧ ((48 ≤ n ∧ n ≤ 57) ∨ n = 95)))
def OkUpto (s : ByteArray) (m : Nat) : Prop := ∀ k (h : k < s.size), k < m → okAt k (s[k].toNat : Int) = true
noncomputable def nameB (s : ByteArray) : Bool := @decide (1 ≤ s.size ∧ s.size ≤ 20 ∧ OkUpto s s.size) (Classical.propDecidable _)

theorem okAt_cases (k : Nat) (n : Int) : okAt k n = true ∨ okAt k n = false := by cases okAt k n <;> simp
theorem okUpto_zero (s : ByteArray) : OkUpto s 0 := fun k _ h => absurd h (Nat.not_lt_zero k)
theorem okUpto_succ {s : ByteArray} {m : Nat} (hm : m < s.size) (h : OkUpto s m) (hk : okAt m (s[m].toNat : Int) = true) : OkUpto s (m + 1) := by
  intro k hks hkm
  by_cases e : k = m
  · subst e; exact hk
  · exact h k hks (by omega)
theorem nameB_true {s : ByteArray} (h1 : 1 ≤ s.size) (h2 : s.size ≤ 20) (h : OkUpto s s.size) : nameB s = true := by
  unfold nameB; exact @decide_eq_true _ (Classical.propDecidable _) ⟨h1, h2, h⟩
theorem nameB_false {s : ByteArray} (h : ¬ (1 ≤ s.size ∧ s.size ≤ 20 ∧ OkUpto s s.size)) : nameB s = false := by
  unfold nameB; exact @decide_eq_false _ (Classical.propDecidable _) h
theorem nameB_false_at {s : ByteArray} {m : Nat} (hm : m < s.size) (hk : okAt m (s[m].toNat : Int) = false) : nameB s = false :=
  nameB_false fun h => by have := h.2.2 m hm hm; rw [hk] at this; cases this

set_option maxHeartbeats 400000 in
theorem isLetter_any (n : Int) (w : World) :
    Calls Try.prog 111 #[.int .u8 n] w fun e w' => e = .returned (.bool (letB n)) ∧ w = w' := by
  by_cases h1 : 97 ≤ n <;> by_cases h2 : n ≤ 122
  all_goals
    go_enter Try.func111, Try.ntmps111
    go_wp2
    go_ret
    exact ⟨retB (by simp [letB] <;> omega), rfl⟩

set_option maxHeartbeats 400000 in
theorem isNameByte_any (n : Int) (w : World) :
    Calls Try.prog 112 #[.int .u8 n] w fun e w' => e = .returned (.bool (nameByteB n)) ∧ w = w' := by
  by_cases h1 : 97 ≤ n <;> by_cases h2 : n ≤ 122 <;> by_cases h3 : 48 ≤ n <;> by_cases h4 : n ≤ 57 <;> by_cases h5 : n = 95 <;> try omega
  all_goals
    go_enter Try.func112, Try.ntmps112
    go_wp2
    go_ret
    exact ⟨retB (by simp [nameByteB] <;> omega), rfl⟩

theorem boolWays (p : Prop) [Decidable p] : (p ∧ decide p = true) ∨ (¬ p ∧ decide p = false) := by by_cases h : p <;> simp [h]
theorem byteWays (n : Int) : n < 48 ∨ (48 ≤ n ∧ n ≤ 57) ∨ (58 ≤ n ∧ n ≤ 94) ∨ n = 95 ∨ n = 96 ∨ (97 ≤ n ∧ n ≤ 122) ∨ 122 < n := by omega

set_option maxHeartbeats 1000000 in
theorem specNameRight_any (s : ByteArray) (w : World) (hs : s.size ≤ maxLen) :
    Calls Try.prog 68 #[.string s] w fun e w' => e = .returned (.bool (nameB s)) ∧ w = w' := by
  unfold maxLen at hs
  by_cases h1 : 1 ≤ s.size
  · by_cases h2 : s.size ≤ 20
    · go_enter Try.func68, Try.ntmps68
      go_wp2
      go_loop [3] (fun i => ∃ k : Nat, k ≤ s.size ∧ OkUpto s k ∧ i = .int .i64 k) (fun i => s.size - (intOf i).toNat)
      case atStart => exact ⟨0, Nat.zero_le _, okUpto_zero s, rfl⟩
      case round =>
        obtain ⟨k, hk, hok, rfl⟩ := hrel
        by_cases hlt : k < s.size
        · have HN := Lib.hid (fun h => okUpto_succ hlt hok h)
          have HF := Lib.hid (fun h => nameB_false_at hlt h)
          clear hok
          obtain ⟨n, hn⟩ : ∃ n : Int, n = (s[k].toNat : Int) := ⟨_, rfl⟩
          rw [← hn] at HN HF
          have HE := Lib.hid hn
          clear hn
          rcases Nat.eq_zero_or_pos k with hk0 | hk0
          · subst hk0
            rcases byteWays n with h | h | h | h | h | h | h
            all_goals
              rw [HE.out] at h
              have q1 := boolWays ((s[0].toNat : Int) ≤ 122)
              have q2 := boolWays ((s[0].toNat : Int) ≤ 57)
              have q3 : ((s[0].toNat : Int) != 95) = true ∨ ((s[0].toNat : Int) != 95) = false := by cases ((s[0].toNat : Int) != 95) <;> simp
              rcases q1 with ⟨r1, q1⟩ | ⟨r1, q1⟩ <;> rcases q2 with ⟨r2, q2⟩ | ⟨r2, q2⟩ <;> try omega
              all_goals
                rcases q3 with q3 | q3 <;> (try (simp only [bne_iff_ne, bne_eq_false_iff_eq, ne_eq] at q3; omega))
                go_wp2
                first
                | (go_round
                   case rel => exact ⟨1, by omega, HN.out (by rw [HE.out]; simp [okAt]; omega), by go_num⟩
                   case measure => simp [intOf]; omega)
                | (go_ret
                   exact ⟨(congrArg _ (congrArg _ (HF.out (by rw [HE.out]; simp [okAt]; omega)))).symm, rfl⟩)
          · have q0 : ((k : Int) == 0) = false := by simp; omega
            rcases byteWays n with h | h | h | h | h | h | h
            all_goals
              rw [HE.out] at h
              have q1 := boolWays ((s[k].toNat : Int) ≤ 122)
              have q2 := boolWays ((s[k].toNat : Int) ≤ 57)
              have q3 : ((s[k].toNat : Int) != 95) = true ∨ ((s[k].toNat : Int) != 95) = false := by cases ((s[k].toNat : Int) != 95) <;> simp
              rcases q1 with ⟨r1, q1⟩ | ⟨r1, q1⟩ <;> rcases q2 with ⟨r2, q2⟩ | ⟨r2, q2⟩ <;> try omega
              all_goals
                rcases q3 with q3 | q3 <;> (try (simp only [bne_iff_ne, bne_eq_false_iff_eq, ne_eq] at q3; omega))
                go_wp2
                first
                | (go_round
                   case rel => exact ⟨k + 1, by omega, HN.out (by rw [HE.out]; simp [okAt]; omega), by go_num⟩
                   case measure => simp [intOf]; omega)
                | (go_ret
                   exact ⟨(congrArg _ (congrArg _ (HF.out (by rw [HE.out]; simp [okAt]; omega)))).symm, rfl⟩)
        · go_wp2
          go_ret
          exact ⟨(congrArg _ (congrArg _ (nameB_true h1 h2 ((show k = s.size by omega) ▸ hok)))).symm, rfl⟩
    · go_enter Try.func68, Try.ntmps68
      go_wp2
      go_ret
      rw [nameB_false (by omega)]
      exact ⟨rfl, rfl⟩
  · go_enter Try.func68, Try.ntmps68
    go_wp2
    go_ret
    rw [nameB_false (by omega)]
    exact ⟨rfl, rfl⟩

def NbUpto (s : ByteArray) (m : Nat) : Prop := ∀ k (h : k < s.size), k < m → nameByteB (s[k].toNat : Int) = true
theorem nbUpto_zero (s : ByteArray) : NbUpto s 0 := fun k _ h => absurd h (Nat.not_lt_zero k)
theorem nbUpto_succ {s : ByteArray} {m : Nat} (hm : m < s.size) (h : NbUpto s m) (hk : nameByteB (s[m].toNat : Int) = true) : NbUpto s (m + 1) := by
  intro k hks hkm
  by_cases e : k = m
  · subst e; exact hk
  · exact h k hks (by omega)
theorem okUpto_of_nb {s : ByteArray} {m : Nat} (h1 : 0 < s.size) (h0 : letB (s[0].toNat : Int) = true) (h : NbUpto s m) : OkUpto s m := by
  intro k hks hkm
  have hk := h k hks hkm
  rcases Nat.eq_zero_or_pos k with rfl | hp
  · simp [letB] at h0; simp [okAt]; omega
  · simp [nameByteB] at hk; simp [okAt]; omega
theorem okAt_of_let {s : ByteArray} (h1 : 0 < s.size) (h0 : letB (s[0].toNat : Int) = false) : nameB s = false :=
  nameB_false_at h1 (by simp [letB] at h0; simp [okAt]; omega)
theorem okAt_of_nb {s : ByteArray} {k : Nat} (h1 : k < s.size) (h0 : nameByteB (s[k].toNat : Int) = false) : nameB s = false :=
  nameB_false_at h1 (by simp [nameByteB] at h0; simp [okAt]; omega)

set_option maxHeartbeats 1000000 in
theorem implNameRight_any (s : ByteArray) (w : World) (hs : s.size ≤ maxLen) :
    Calls Try.prog 63 #[.string s] w fun e w' => e = .returned (.bool (nameB s)) ∧ w = w' := by
  unfold maxLen at hs
  by_cases h1 : 1 ≤ s.size
  · have h1' : 0 < s.size := h1
    by_cases h2 : s.size ≤ 20
    · rcases Bool.eq_false_or_eq_true (letB (s[0].toNat : Int)) with hl | hl
      · go_enter Try.func63, Try.ntmps63
        go_wp2_with (go_at_call 111; refine (isLetter_any _ _).mono ?_; rintro e w' ⟨rfl, rfl⟩)
        have HL := Lib.hid hl
        clear hl
        go_loop [20] (fun i => ∃ k : Nat, k ≤ s.size ∧ NbUpto s k ∧ i = .int .i64 k) (fun i => s.size - (intOf i).toNat)
        case atStart => exact ⟨0, Nat.zero_le _, nbUpto_zero s, rfl⟩
        case round =>
          obtain ⟨k, hk, hok, rfl⟩ := hrel
          by_cases hlt : k < s.size
          · rcases Bool.eq_false_or_eq_true (nameByteB (s[k].toNat : Int)) with hb | hb
            · have HN := Lib.hid (nbUpto_succ hlt hok hb)
              clear hok
              go_wp2_with (go_at_call 112; refine (isNameByte_any _ _).mono ?_; rintro e w' ⟨rfl, rfl⟩)
              go_round
              case rel => exact ⟨k + 1, by omega, HN.out, by go_num⟩
              case measure => simp [intOf]; omega
            · clear hok
              go_wp2_with (go_at_call 112; refine (isNameByte_any _ _).mono ?_; rintro e w' ⟨rfl, rfl⟩)
              go_ret
              exact ⟨(congrArg _ (congrArg _ (okAt_of_nb hlt hb))).symm, rfl⟩
          · have HO := Lib.hid hok
            clear hok
            go_wp2
            go_ret
            exact ⟨(congrArg _ (congrArg _ (nameB_true h1 h2 (okUpto_of_nb h1' HL.out ((show k = s.size by omega) ▸ HO.out))))).symm, rfl⟩
      · go_enter Try.func63, Try.ntmps63
        go_wp2_with (go_at_call 111; refine (isLetter_any _ _).mono ?_; rintro e w' ⟨rfl, rfl⟩)
        go_ret
        exact ⟨(congrArg _ (congrArg _ (okAt_of_let h1' hl))).symm, rfl⟩
    · go_enter Try.func63, Try.ntmps63
      go_wp2
      go_ret
      rw [nameB_false (by omega)]
      exact ⟨rfl, rfl⟩
  · go_enter Try.func63, Try.ntmps63
    go_wp2
    go_ret
    rw [nameB_false (by omega)]
    exact ⟨rfl, rfl⟩

end Go.Proofs.Ytjnbhppnchmeoaa

namespace Go.Proofs.Ytjnbhppnchmeoaa
open Go.RowKit
set_option linter.unusedVariables false
set_option maxRecDepth 1000000

/-- A command. -/
structure Cmd where
  client : Int
  number : Int
  kind : Int
  topic : ByteArray
  group : ByteArray
  text : ByteArray
  n : Int
abbrev cmdV (a b k : Int) (t g x : ByteArray) (n : Int) : Value := .agg #[.int .i64 a, .int .i64 b, .int .i64 k, .string t, .string g, .string x, .int .i64 n]
def Cmd.v (c : Cmd) : Value := cmdV c.client c.number c.kind c.topic c.group c.text c.n
def Cmd.small (c : Cmd) : Prop := c.topic.size ≤ maxLen ∧ c.group.size ≤ maxLen ∧ c.text.size ≤ maxLen
def inB (n a b : Int) : Bool := decide (a ≤ n) && decide (n ≤ b)
def emptyB (s : ByteArray) : Bool := decide (s.size = 0)
noncomputable def kindB (k : Int) (g x : ByteArray) (n : Int) : Bool :=
  if k = 1 ∨ k = 2 then emptyB g && (emptyB x && decide (n = 0))
  else if k = 3 then emptyB g && (inB x.size 1 40 && decide (n = 0))
  else if k = 4 ∨ k = 5 ∨ k = 6 then nameB g && (emptyB x && inB n 0 1000000000)
  else if k = 7 then emptyB g && (emptyB x && inB n 0 20)
  else false
/-- CommandRight. -/
noncomputable def cmdB (c : Cmd) : Bool := inB c.client 1 9 && (inB c.number 1 1000000000 && (nameB c.topic && kindB c.kind c.group c.text c.n))
theorem empty_eq {s : ByteArray} (h : emptyB s = true) : s = ⟨#[]⟩ := by
  have h1 : s.size = 0 := of_decide_eq_true h
  apply ByteArray.ext
  exact Array.eq_empty_of_size_eq_zero h1
theorem empty_list {s : ByteArray} (h : emptyB s = false) : (s.toList == []) = false := by
  have h1 : ¬ s.size = 0 := of_decide_eq_false h
  rw [ByteArray.toList_eq]
  obtain ⟨⟨l⟩⟩ := s
  cases l with
  | nil => exact absurd rfl h1
  | cons a l => rfl
theorem empty_list' {s : ByteArray} (h : emptyB s = false) : (([] : List UInt8) == s.toList) = false := by
  have := empty_list h
  generalize s.toList = l at this
  cases l with
  | nil => simp at this
  | cons a l => rfl
theorem kindWays (k : Int) : k = 1 ∨ k = 2 ∨ k = 3 ∨ k = 4 ∨ k = 5 ∨ k = 6 ∨ k = 7 ∨ ((k == 1) = false ∧ (k == 2) = false ∧ (k == 3) = false ∧ (k == 4) = false ∧ (k == 5) = false ∧ (k == 6) = false ∧ (k == 7) = false) := by
  simp only [beq_eq_false_iff_ne, ne_eq]; omega
theorem below_box (w : World) (o : Obj) : Below w.heap.size w (w.alloc o) := (Below.refl _ _).alloc (Nat.le_refl _) o
theorem zeroWays (n : Int) : (n = 0 ∧ decide (n = 0) = true) ∨ ((n == 0) = false ∧ decide (n = 0) = false) := by
  by_cases h : n = 0
  · exact .inl ⟨h, by simp [h]⟩
  · exact .inr ⟨by simp [h], by simp [h]⟩
theorem emptyWays (s : ByteArray) : (s = ⟨#[]⟩ ∧ emptyB s = true) ∨ ((s.toList == []) = false ∧ emptyB s = false) := by
  cases h : emptyB s
  · exact .inr ⟨empty_list h, rfl⟩
  · exact .inl ⟨empty_eq h, rfl⟩
theorem is3 {n a b : Int} {r : Bool} (h : inB n a b = r) (w : World) : Calls Try.prog 69 #[.int .i64 n, .int .i64 a, .int .i64 b] w fun e w' => e = .returned (.bool r) ∧ w' = w := by
  subst h; exact l03Is_any n a b w
theorem inRange_any {n a b : Int} {r : Bool} (h : inB n a b = r) (w : World) : Calls Try.prog 64 #[.int .i64 n, .int .i64 a, .int .i64 b] w fun e w' => e = .returned (.bool r) ∧ w' = w := by
  subst h
  by_cases h : a ≤ n
  · go_enter Try.func64, Try.ntmps64
    go_wp2
    go_ret
    simp [h, inB]
  · go_enter Try.func64, Try.ntmps64
    go_wp2
    go_ret
    have h' : n < a := by omega
    simp [inB]
    intro h2
    omega
theorem specName_b {s : ByteArray} {r : Bool} (h : nameB s = r) (hs : s.size ≤ maxLen) (w : World) : Calls Try.prog 68 #[.string s] w fun e w' => e = .returned (.bool r) ∧ w' = w := by
  subst h; exact (specNameRight_any s w hs).mono fun e w' h => ⟨h.1, h.2.symm⟩
theorem implName_b {s : ByteArray} {r : Bool} (h : nameB s = r) (hs : s.size ≤ maxLen) (w : World) : Calls Try.prog 63 #[.string s] w fun e w' => e = .returned (.bool r) ∧ w' = w := by
  subst h; exact (implNameRight_any s w hs).mono fun e w' h => ⟨h.1, h.2.symm⟩
theorem textRight_b {s : ByteArray} {r : Bool} (h : inB s.size 1 40 = r) (hs : s.size ≤ maxLen) (w : World) : Calls Try.prog 55 #[.string s] w fun e w' => e = .returned (.bool r) ∧ w' = w := by
  subst h
  unfold maxLen at hs
  by_cases h : 1 ≤ s.size
  · go_enter Try.func55, Try.ntmps55
    go_wp2
    go_ret
    simp [inB]
    omega
  · go_enter Try.func55, Try.ntmps55
    go_wp2
    go_ret
    simp [inB]
    omega
theorem l07Text_b {s : ByteArray} {r : Bool} (h : inB s.size 1 40 = r) (hs : s.size ≤ maxLen) (w : World) : Calls Try.prog 59 #[.string s] w fun e w' => e = .returned (.bool r) ∧ w' = w := by
  subst h
  unfold maxLen at hs
  by_cases h : 1 ≤ s.size
  · go_enter Try.func59, Try.ntmps59
    go_wp2
    go_ret
    simp [inB]
    omega
  · go_enter Try.func59, Try.ntmps59
    go_wp2
    go_ret
    simp [inB]
    omega
end Go.Proofs.Ytjnbhppnchmeoaa

namespace Go.Proofs.Ytjnbhppnchmeoaa
open Go.RowKit
set_option linter.unusedVariables false
set_option maxRecDepth 1000000

set_option maxHeartbeats 8000000 in
theorem specChanges_any (L : List Cng) (v : Int) (A : Option Addr) (c : Nat) (w : World) {lo : Nat} (hf : ∀ t ∈ L, t.fits) (hA : Chs w lo w.heap.size A L) :
    Calls Try.prog 94 #[.slice A L.length c, .int .i64 v] w fun e w' => e = .returned (.bool (cr v (-1) L && decide (3 ≤ L.length))) ∧ Below w.heap.size w w' := by
  have hn := hA.1
  unfold maxLen at hn
  obtain ⟨V, HV⟩ : ∃ V, Hid (cr v (-1) L = V) := ⟨_, Lib.hid rfl⟩
  obtain ⟨Z, HZ⟩ : ∃ Z, Hid (Z = (V && decide (3 ≤ L.length))) := ⟨_, Lib.hid rfl⟩
  rw [HV.out, ← HZ.out]
  go_enter Try.func94, Try.ntmps94
  go_wp2
  go_loopw [5] (fun i wr => ∃ (k : Nat) (last : Int), k ≤ L.length ∧ i = .int .i64 k ∧ Hid (k = 0 → last = -1) ∧ Hid (∀ h : k - 1 < L.length, 0 < k → L[k - 1].frm = last) ∧ Hid (cr v last (L.drop k) = V) ∧ Below w.heap.size w wr) (fun i _ => L.length - (intOf i).toNat)
  case atStart => exact ⟨0, -1, by omega, rfl, Lib.hid fun _ => rfl, Lib.hid fun _ h => absurd h (Nat.lt_irrefl 0), HV, Below.refl _ _⟩
  case round =>
    clear HV
    obtain ⟨k, last, hk, rfl, HA0, HA1, HQ, hw2⟩ := hrel
    by_cases hlt : k < L.length
    rotate_left
    · obtain rfl : k = L.length := by omega
      obtain rfl : V = true := by rw [← HQ.out, cr_end (Nat.le_refl _)]
      have HZ2 : Hid (decide ((3 : Int) ≤ (L.length : Int)) = Z) := Lib.hid (by rw [HZ.out, Bool.true_and]; simp; omega)
      go_wp2
      go_ret
      exact ⟨by rw [← HZ2.out]; rfl, hw2⟩
    obtain ⟨a, rfl, hab, C, c1, a0, a1, a2, hC⟩ := (hA.on hw2).at k hlt
    have hlt' : (k : Int) < (L.length : Int) := by omega
    have hp : ∀ q, (h : q + 1 = k) → wr.cell? (a.add (q * 3)) = some (.int .i64 (L[q]'(by omega)).frm) := by
      intro q h
      obtain ⟨a', e, _, _, _, h2, _⟩ := (hA.on hw2).at q (by omega)
      cases e
      exact h2
    go_wp2_with (fail)
    obtain ⟨I, f, hI', g0, gk, gc, ge⟩ := class_grown wr
    have x0 := fun s => kept_cell (gk s) a0
    have x1 := fun s => kept_cell (gk s) a1
    have x2 := fun s => kept_cell (gk s) a2
    have TR := Lib.hid (fun s => specChangeRight_any L[k] C c1 (f s) (hf _ (List.getElem_mem hlt)) (hC.on (gk s)))
    have HW : Hid (∀ W, Below wr.heap.size wr W → Below w.heap.size w W) := Lib.hid fun W h => hw2.trans (h.mono hw2.size)
    have HB := Lib.hid (cr_bad (v := v) (last := last) hlt)
    have HX := Lib.hid (cr_next (v := v) (last := last) hlt)
    have HS := Lib.hid (fun h : cngB L[k] = true => balB_frm (c := L[k]) (by unfold cngB at h; rw [Bool.and_eq_true] at h; exact h.1))
    have HF : Hid (V = false → Z = false) := Lib.hid fun h => by rw [HZ.out, h]; rfl
    clear hw2 hC a0 a1 a2
    rcases Bool.eq_false_or_eq_true (cngB L[k]) with hN | hN
    rotate_left
    · rw [hN] at TR
      have hV : V = false := by rw [← HQ.out, HB.out (fun h => by rw [hN] at h; exact absurd h.1 (by decide))]
      obtain rfl := HF.out hV
      clear hV HQ HZ HF hp
      refine wp_region_kept f (by kernel_rfl) (by kernel_rfl) g0 ?_
      repeat (first
        | go_big_quiet_skip
        | (go_big_quiet_want; go_big_quiet_op; first
            | go_big_quiet_on
            | (apply Exists.intro; refine ⟨fun s => ?_, ?_⟩; (first | (go_at_call 38; (with_reducible refine (TR.out _).mono ?_); rintro e w4 ⟨rfl, hb4⟩; exact ⟨rfl, gc _ _ hb4⟩)); go_big_quiet_on)))
      refine wpQuiet_nil ?_
      intro w5 h5
      have hb5 := ge _ h5
      go_wp2
      go_ret
      exact ⟨rfl, HW.out _ hb5⟩
    rw [hN] at TR
    have hs := HS.out hN
    by_cases hv : L[k].view = v
    rotate_left
    · have hV : V = false := by rw [← HQ.out, HB.out (fun h => hv h.2.1)]
      obtain rfl := HF.out hV
      have hd2 : (L[k].view != v) = true := by simp; exact hv
      clear hV HQ HZ HF hs hp
      refine wp_region_kept f (by kernel_rfl) (by kernel_rfl) g0 ?_
      repeat (first
        | go_big_quiet_skip
        | (go_big_quiet_want; go_big_quiet_op; first
            | go_big_quiet_on
            | (apply Exists.intro; refine ⟨fun s => ?_, ?_⟩; (first | (go_at_call 38; (with_reducible refine (TR.out _).mono ?_); rintro e w4 ⟨rfl, hb4⟩; exact ⟨rfl, gc _ _ hb4⟩)); go_big_quiet_on)))
      refine wpQuiet_nil ?_
      intro w5 h5
      have hb5 := ge _ h5
      go_wp2
      go_ret
      exact ⟨rfl, HW.out _ hb5⟩
    have hd2 : (L[k].view != v) = false := by simp; exact hv
    by_cases hk0 : 0 < k
    rotate_left
    · have hd : decide ((0 : Int) < (k : Int)) = false := by simp; omega
      have hl0 := HA0.out (by omega)
      have HN : Hid (cr v L[k].frm (L.drop (k + 1)) = V) := Lib.hid (by rw [← HX.out ⟨hN, hv, by omega⟩, HQ.out])
      clear hs hp hl0 hv
      refine wp_region_kept f (by kernel_rfl) (by kernel_rfl) g0 ?_
      repeat (first
        | go_big_quiet_skip
        | (go_big_quiet_want; go_big_quiet_op; first
            | go_big_quiet_on
            | (apply Exists.intro; refine ⟨fun s => ?_, ?_⟩; (first | (go_at_call 38; (with_reducible refine (TR.out _).mono ?_); rintro e w4 ⟨rfl, hb4⟩; exact ⟨rfl, gc _ _ hb4⟩)); go_big_quiet_on)))
      refine wpQuiet_nil ?_
      intro w5 h5
      have hb5 := ge _ h5
      go_wp2
      exact ⟨⟨k + 1, L[k].frm, by omega, by go_num, Lib.hid (fun h => absurd h (by omega)), Lib.hid (fun h _ => by simp), HN, HW.out _ hb5⟩, by simp [intOf]; omega⟩
    obtain ⟨q, hq⟩ : ∃ q, q + 1 = k := ⟨k - 1, by omega⟩
    have p0 := fun s => kept_cell (gk s) (hp q hq)
    have hd : decide ((0 : Int) < (k : Int)) = true := by simp; omega
    have e1 : IntKind.i64.wrap ((k : Int) - 1) = (q : Int) := by rw [IntWalk.i64_in _ (by omega)]; omega
    have e2 : (q : Int) < (L.length : Int) := by omega
    have e3 : (0 : Int) ≤ (q : Int) := by omega
    have hlast : L[q].frm = last := by
      have := HA1.out (by omega) hk0
      obtain rfl : q = k - 1 := by omega
      exact this
    simp only [hlast] at p0
    by_cases hl : last < L[k].frm
    rotate_left
    · have hV : V = false := by rw [← HQ.out, HB.out (fun h => hl h.2.2)]
      obtain rfl := HF.out hV
      have hd3 : decide (L[k].frm ≤ last) = true := by simp; omega
      clear hV HQ HZ HF hs hp hlast hq hv
      refine wp_region_kept f (by kernel_rfl) (by kernel_rfl) g0 ?_
      repeat (first
        | go_big_quiet_skip
        | (go_big_quiet_want; go_big_quiet_op; first
            | go_big_quiet_on
            | (apply Exists.intro; refine ⟨fun s => ?_, ?_⟩; (first | (go_at_call 38; (with_reducible refine (TR.out _).mono ?_); rintro e w4 ⟨rfl, hb4⟩; exact ⟨rfl, gc _ _ hb4⟩)); go_big_quiet_on)))
      refine wpQuiet_nil ?_
      intro w5 h5
      have hb5 := ge _ h5
      go_wp2
      go_ret
      exact ⟨rfl, HW.out _ hb5⟩
    have hd3 : decide (L[k].frm ≤ last) = false := by simp; omega
    have HN : Hid (cr v L[k].frm (L.drop (k + 1)) = V) := Lib.hid (by rw [← HX.out ⟨hN, hv, hl⟩, HQ.out])
    clear hs hp hlast hq hv
    refine wp_region_kept f (by kernel_rfl) (by kernel_rfl) g0 ?_
    repeat (first
      | go_big_quiet_skip
      | (go_big_quiet_want; go_big_quiet_op; first
          | go_big_quiet_on
          | (apply Exists.intro; refine ⟨fun s => ?_, ?_⟩; (first | (go_at_call 38; (with_reducible refine (TR.out _).mono ?_); rintro e w4 ⟨rfl, hb4⟩; exact ⟨rfl, gc _ _ hb4⟩)); go_big_quiet_on)))
    refine wpQuiet_nil ?_
    intro w5 h5
    have hb5 := ge _ h5
    go_wp2
    exact ⟨⟨k + 1, L[k].frm, by omega, by go_num, Lib.hid (fun h => absurd h (by omega)), Lib.hid (fun h _ => by simp), HN, HW.out _ hb5⟩, by simp [intOf]; omega⟩

set_option maxHeartbeats 4000000 in
theorem numbered_any (y : Sy) (A : Option Addr) (c : Nat) (w : World) (hf : y.op.size ≤ maxLen) (hl : y.changes.length ≤ maxLen) {b1 b2 b3 b4 : Bool} (h1 : decide (0 ≤ y.view ∧ y.view ≤ 7) = b1) (h2 : decide (1 ≤ y.seq ∧ y.seq ≤ 6) = b2) (h3 : decide (y.op.size ≤ 120) = b3) (h4 : decide (y.changes.length = 0) = b4) :
    Calls Try.prog 98 #[syV y (.slice A y.changes.length c)] w fun e w' => e = .returned (.bool (b1 && (b2 && (b3 && b4)))) ∧ Below w.heap.size w w' := by
  obtain ⟨kind, frm, view, seq, op, L⟩ := y
  simp only at hf hl h1 h2 h3 h4
  have I1 := Lib.hid (fun W => inQ_any h1 W)
  have I2 := Lib.hid (fun W => inQ_any h2 W)
  have I3 := Lib.hid (fun W => implOp_any hf h3 W)
  have e4 : ((L.length : Int) == 0) = b4 := by rw [← h4]; cases L <;> simp <;> omega
  have hb0 := below_bx w (.cells #[.int .i64 kind, .int .i64 frm, .int .i64 view, .int .i64 seq, .string op, .slice A L.length c] 71)
  unfold maxLen at hl
  clear h1 h2 h3 h4
  cases b1
  · go_enter Try.func98, Try.ntmps98
    go_wp2_with (first | (go_at_call 64; (with_reducible refine (I1.out _).mono ?_); rintro e w1 ⟨rfl, rfl⟩) | (go_at_call 64; (with_reducible refine (I2.out _).mono ?_); rintro e w1 ⟨rfl, rfl⟩) | (go_at_call 31; (with_reducible refine (I3.out _).mono ?_); rintro e w1 ⟨rfl, rfl⟩))
    go_ret
    exact ⟨rfl, hb0⟩
  cases b2
  · go_enter Try.func98, Try.ntmps98
    go_wp2_with (first | (go_at_call 64; (with_reducible refine (I1.out _).mono ?_); rintro e w1 ⟨rfl, rfl⟩) | (go_at_call 64; (with_reducible refine (I2.out _).mono ?_); rintro e w1 ⟨rfl, rfl⟩) | (go_at_call 31; (with_reducible refine (I3.out _).mono ?_); rintro e w1 ⟨rfl, rfl⟩))
    go_ret
    exact ⟨rfl, hb0⟩
  cases b3
  · go_enter Try.func98, Try.ntmps98
    go_wp2_with (first | (go_at_call 64; (with_reducible refine (I1.out _).mono ?_); rintro e w1 ⟨rfl, rfl⟩) | (go_at_call 64; (with_reducible refine (I2.out _).mono ?_); rintro e w1 ⟨rfl, rfl⟩) | (go_at_call 31; (with_reducible refine (I3.out _).mono ?_); rintro e w1 ⟨rfl, rfl⟩))
    go_ret
    exact ⟨rfl, hb0⟩
  go_enter Try.func98, Try.ntmps98
  go_wp2_with (first | (go_at_call 64; (with_reducible refine (I1.out _).mono ?_); rintro e w1 ⟨rfl, rfl⟩) | (go_at_call 64; (with_reducible refine (I2.out _).mono ?_); rintro e w1 ⟨rfl, rfl⟩) | (go_at_call 31; (with_reducible refine (I3.out _).mono ?_); rintro e w1 ⟨rfl, rfl⟩))
  go_ret
  exact ⟨rfl, hb0⟩
set_option maxHeartbeats 8000000 in
theorem viewRight_any (y : Sy) (A : Option Addr) (c : Nat) (w : World) {lo : Nat} (hf : y.fits) (hA : Chs w lo w.heap.size A y.changes) {b1 b2 b3 : Bool} (h1 : decide (1 ≤ y.view ∧ y.view ≤ 7) = b1) (h2 : decide (y.seq = 0) = b2) (h3 : decide (y.op.size = 0) = b3) :
    Calls Try.prog 99 #[syV y (.slice A y.changes.length c)] w fun e w' => e = .returned (.bool (b1 && (b2 && (b3 && cr y.view (-1) y.changes)))) ∧ Below w.heap.size w w' := by
  obtain ⟨kind, frm, view, seq, op, L⟩ := y
  obtain ⟨_, _, _, _, _, hfL⟩ := hf
  simp only at hfL hA h1 h2 h3
  have hn := hA.1
  unfold maxLen at hn
  have I1 := Lib.hid (fun W => inQ_any h1 W)
  have hb0 := below_bx w (.cells #[.int .i64 kind, .int .i64 frm, .int .i64 view, .int .i64 seq, .string op, .slice A L.length c] 71)
  have hK := Blk.fresh w 71 [.int .i64 kind, .int .i64 frm, .int .i64 view, .int .i64 seq, .string op, .slice A L.length c]
  simp only [List.toArray] at hK
  cases b1
  · clear h1 h2 h3
    go_enter Try.func99, Try.ntmps99
    go_wp2_with (go_at_call 64; (with_reducible refine (I1.out _).mono ?_); rintro e w1 ⟨rfl, rfl⟩)
    go_ret
    exact ⟨rfl, hb0⟩
  cases b2
  · have e2 : (seq != 0) = true := by have := of_decide_eq_false h2; simp; exact this
    clear h1 h2 h3
    go_enter Try.func99, Try.ntmps99
    go_wp2_with (go_at_call 64; (with_reducible refine (I1.out _).mono ?_); rintro e w1 ⟨rfl, rfl⟩)
    go_ret
    exact ⟨rfl, hb0⟩
  have e2 : (seq != 0) = false := by have := of_decide_eq_true h2; simp; exact this
  cases b3
  · have e3 : (op.toList == []) = false := empty_list h3
    have e3' : (op.toList != []) = true := by rw [bne, e3]; rfl
    clear h1 h2 h3
    go_enter Try.func99, Try.ntmps99
    go_wp2_with (go_at_call 64; (with_reducible refine (I1.out _).mono ?_); rintro e w1 ⟨rfl, rfl⟩)
    go_ret
    exact ⟨rfl, hb0⟩
  obtain rfl := empty_eq h3
  clear h1 h2 h3
  obtain ⟨Z, HZ⟩ : ∃ Z, Hid (cr view (-1) L = Z) := ⟨_, Lib.hid rfl⟩
  have HZA : Hid (Z = (br view (-1) L && allP L)) := Lib.hid (by rw [← HZ.out]; exact cr_br view L (-1))
  rw [HZ.out, Bool.true_and, Bool.true_and, Bool.true_and]
  obtain ⟨V, HV⟩ : ∃ V, Hid (br view (-1) L = V) := ⟨_, Lib.hid rfl⟩
  have HV0 := HV
  have PR := Lib.hid (fun W (h : Below w.heap.size w W) => proofsRight_any L A c W hfL (hA.on h))
  clear HZ
  go_enter Try.func99, Try.ntmps99
  go_wp2_with (go_at_call 64; (with_reducible refine (I1.out _).mono ?_); rintro e w1 ⟨rfl, rfl⟩)
  generalize w.alloc (.cells #[.int .i64 kind, .int .i64 frm, .int .i64 view, .int .i64 seq, .string ⟨#[]⟩, .slice A L.length c] 71) = w1 at hK hb0 ⊢
  go_loopw [22] (fun i wr => ∃ (k : Nat) (last : Int), k ≤ L.length ∧ i = .int .i64 k ∧ Hid (k = 0 → last = -1) ∧ Hid (∀ h : k - 1 < L.length, 0 < k → L[k - 1].frm = last) ∧ Hid (br view last (L.drop k) = V) ∧ Blk wr w.heap.size 71 [.int .i64 kind, .int .i64 frm, .int .i64 view, .int .i64 seq, .string ⟨#[]⟩, .slice A L.length c] ∧ Below w.heap.size w wr) (fun i _ => L.length - (intOf i).toNat)
  case atStart => exact ⟨0, -1, by omega, rfl, Lib.hid fun _ => rfl, Lib.hid fun _ h => absurd h (Nat.lt_irrefl 0), HV, hK, hb0⟩
  case round =>
    clear HV hK hb0
    obtain ⟨k, last, hk, rfl, HA0, HA1, HQ, hK2, hw2⟩ := hrel
    have b5 := hK2.cell (i := 5) rfl
    by_cases hlt : k < L.length
    rotate_left
    · obtain rfl : k = L.length := by omega
      obtain rfl : V = true := by rw [← HQ.out, br_end (Nat.le_refl _)]
      have hz : allP L = Z := by rw [HZA.out, HV0.out]; rfl
      have PR2 := Lib.hid (PR.out _ hw2)
      rw [hz] at PR2
      clear hz
      go_wp2_with (fail)
      clear b5
      refine PR2.out.mono ?_
      rintro e w5 ⟨rfl, hb5⟩
      go_wp2
      go_ret
      exact ⟨rfl, hw2.trans (hb5.mono hw2.size)⟩
    obtain ⟨a, rfl, hab, C, c1, a0, a1, a2, hC⟩ := (hA.on hw2).at k hlt
    have hlt' : (k : Int) < (L.length : Int) := by omega
    have hG := Blk.fresh wr 60 [.int .i64 L[k].frm, .int .i64 L[k].view, .slice C L[k].proofs.length c1]
    have hw4 := hw2.alloc hw2.size (.cells #[.int .i64 L[k].frm, .int .i64 L[k].view, .slice C L[k].proofs.length c1] 60)
    have hK3 := hK2.alloc (.cells #[.int .i64 L[k].frm, .int .i64 L[k].view, .slice C L[k].proofs.length c1] 60)
    have hp : ∀ q, (h : q + 1 = k) → (wr.alloc (.cells #[.int .i64 L[k].frm, .int .i64 L[k].view, .slice C L[k].proofs.length c1] 60)).cell? (a.add (q * 3)) = some (.int .i64 (L[q]'(by omega)).frm) := by
      intro q h
      obtain ⟨a', e, _, _, _, h2, _⟩ := (hA.on hw4).at q (by omega)
      cases e
      exact h2
    simp only [List.toArray] at hG
    go_wp2_with (fail)
    generalize wr.alloc (.cells #[.int .i64 L[k].frm, .int .i64 L[k].view, .slice C L[k].proofs.length c1] 60) = w3 at hG hw4 hp hK3 ⊢
    clear a0 a1 a2 b5 hK2 hw2
    obtain ⟨I, f, hI', g0, gk, gc, ge⟩ := class_grown w3
    have x0 := fun s => kept_cell (gk s) (hG.cell (i := 0) rfl)
    have x1 := fun s => kept_cell (gk s) (hG.cell (i := 1) rfl)
    have x2 := fun s => kept_cell (gk s) (hG.cell (i := 2) rfl)
    have y2 := fun s => kept_cell (gk s) (hK3.cell (i := 2) rfl)
    have y5 := fun s => kept_cell (gk s) (hK3.cell (i := 5) rfl)
    have TR := Lib.hid (fun s => implBallot_any L[k] (.slice C L[k].proofs.length c1) (f s))
    have HW : Hid (∀ W, Below w3.heap.size w3 W → Blk W w.heap.size 71 [.int .i64 kind, .int .i64 frm, .int .i64 view, .int .i64 seq, .string ⟨#[]⟩, .slice (some a) L.length c] ∧ Below w.heap.size w W) := Lib.hid fun W h => ⟨hK3.below h hK3.lt, hw4.trans (h.mono hw4.size)⟩
    have HB := Lib.hid (br_bad (v := view) (last := last) hlt)
    have HX := Lib.hid (br_next (v := view) (last := last) hlt)
    have HS := Lib.hid (fun h : balB L[k] = true => balB_frm h)
    have HF : Hid (V = false → Z = false) := Lib.hid fun h => by rw [HZA.out, HV0.out, h]; rfl
    clear hw4 hK3 hG
    rcases Bool.eq_false_or_eq_true (balB L[k]) with hN | hN
    rotate_left
    · rw [hN] at TR
      have hV : V = false := by rw [← HQ.out, HB.out (fun h => by rw [hN] at h; exact absurd h.1 (by decide))]
      obtain rfl := HF.out hV
      clear hV HQ HV0 HZA HF hp
      refine wp_region_kept f (by kernel_rfl) (by kernel_rfl) g0 ?_
      repeat (first
        | go_big_quiet_skip
        | (go_big_quiet_want; go_big_quiet_op; first
            | go_big_quiet_on
            | (apply Exists.intro; refine ⟨fun s => ?_, ?_⟩; (first | (go_at_call 89; (with_reducible refine (TR.out _).mono ?_); rintro e w4 ⟨rfl, hb4⟩; exact ⟨rfl, gc _ _ hb4⟩)); go_big_quiet_on)))
      refine wpQuiet_nil ?_
      intro w5 h5
      have hb5 := ge _ h5
      go_wp2
      go_ret
      exact ⟨rfl, (HW.out _ hb5).2⟩
    rw [hN] at TR
    have hs := HS.out hN
    by_cases hv : L[k].view = view
    rotate_left
    · have hV : V = false := by rw [← HQ.out, HB.out (fun h => hv h.2.1)]
      obtain rfl := HF.out hV
      have hd2 : (L[k].view != view) = true := by simp; exact hv
      clear hV HQ HV0 HZA HF hs hp
      refine wp_region_kept f (by kernel_rfl) (by kernel_rfl) g0 ?_
      repeat (first
        | go_big_quiet_skip
        | (go_big_quiet_want; go_big_quiet_op; first
            | go_big_quiet_on
            | (apply Exists.intro; refine ⟨fun s => ?_, ?_⟩; (first | (go_at_call 89; (with_reducible refine (TR.out _).mono ?_); rintro e w4 ⟨rfl, hb4⟩; exact ⟨rfl, gc _ _ hb4⟩)); go_big_quiet_on)))
      refine wpQuiet_nil ?_
      intro w5 h5
      have hb5 := ge _ h5
      go_wp2
      go_ret
      exact ⟨rfl, (HW.out _ hb5).2⟩
    have hd2 : (L[k].view != view) = false := by simp; exact hv
    by_cases hk0 : 0 < k
    rotate_left
    · have hd : decide ((0 : Int) < (k : Int)) = false := by simp; omega
      have hl0 := HA0.out (by omega)
      have HN : Hid (br view L[k].frm (L.drop (k + 1)) = V) := Lib.hid (by rw [← HX.out ⟨hN, hv, by omega⟩, HQ.out])
      clear hs hp hl0 hv
      refine wp_region_kept f (by kernel_rfl) (by kernel_rfl) g0 ?_
      repeat (first
        | go_big_quiet_skip
        | (go_big_quiet_want; go_big_quiet_op; first
            | go_big_quiet_on
            | (apply Exists.intro; refine ⟨fun s => ?_, ?_⟩; (first | (go_at_call 89; (with_reducible refine (TR.out _).mono ?_); rintro e w4 ⟨rfl, hb4⟩; exact ⟨rfl, gc _ _ hb4⟩)); go_big_quiet_on)))
      refine wpQuiet_nil ?_
      intro w5 h5
      have hb5 := ge _ h5
      go_wp2
      exact ⟨⟨k + 1, L[k].frm, by omega, by go_num, Lib.hid (fun h => absurd h (by omega)), Lib.hid (fun h _ => by simp), HN, (HW.out _ hb5).1, (HW.out _ hb5).2⟩, by simp [intOf]; omega⟩
    obtain ⟨q, hq⟩ : ∃ q, q + 1 = k := ⟨k - 1, by omega⟩
    have p0 := fun s => kept_cell (gk s) (hp q hq)
    have hd : decide ((0 : Int) < (k : Int)) = true := by simp; omega
    have e1 : IntKind.i64.wrap ((k : Int) - 1) = (q : Int) := by rw [IntWalk.i64_in _ (by omega)]; omega
    have e2 : (q : Int) < (L.length : Int) := by omega
    have e3 : (0 : Int) ≤ (q : Int) := by omega
    have hlast : L[q].frm = last := by
      have := HA1.out (by omega) hk0
      obtain rfl : q = k - 1 := by omega
      exact this
    simp only [hlast] at p0
    by_cases hl : last < L[k].frm
    rotate_left
    · have hV : V = false := by rw [← HQ.out, HB.out (fun h => hl h.2.2)]
      obtain rfl := HF.out hV
      have hd3 : decide (L[k].frm ≤ last) = true := by simp; omega
      clear hV HQ HV0 HZA HF hs hp hlast hq hv
      refine wp_region_kept f (by kernel_rfl) (by kernel_rfl) g0 ?_
      repeat (first
        | go_big_quiet_skip
        | (go_big_quiet_want; go_big_quiet_op; first
            | go_big_quiet_on
            | (apply Exists.intro; refine ⟨fun s => ?_, ?_⟩; (first | (go_at_call 89; (with_reducible refine (TR.out _).mono ?_); rintro e w4 ⟨rfl, hb4⟩; exact ⟨rfl, gc _ _ hb4⟩)); go_big_quiet_on)))
      refine wpQuiet_nil ?_
      intro w5 h5
      have hb5 := ge _ h5
      go_wp2
      go_ret
      exact ⟨rfl, (HW.out _ hb5).2⟩
    have hd3 : decide (L[k].frm ≤ last) = false := by simp; omega
    have HN : Hid (br view L[k].frm (L.drop (k + 1)) = V) := Lib.hid (by rw [← HX.out ⟨hN, hv, hl⟩, HQ.out])
    clear hs hp hlast hq hv
    refine wp_region_kept f (by kernel_rfl) (by kernel_rfl) g0 ?_
    repeat (first
      | go_big_quiet_skip
      | (go_big_quiet_want; go_big_quiet_op; first
          | go_big_quiet_on
          | (apply Exists.intro; refine ⟨fun s => ?_, ?_⟩; (first | (go_at_call 89; (with_reducible refine (TR.out _).mono ?_); rintro e w4 ⟨rfl, hb4⟩; exact ⟨rfl, gc _ _ hb4⟩)); go_big_quiet_on)))
    refine wpQuiet_nil ?_
    intro w5 h5
    have hb5 := ge _ h5
    go_wp2
    exact ⟨⟨k + 1, L[k].frm, by omega, by go_num, Lib.hid (fun h => absurd h (by omega)), Lib.hid (fun h _ => by simp), HN, (HW.out _ hb5).1, (HW.out _ hb5).2⟩, by simp [intOf]; omega⟩

end Go.Proofs.Ytjnbhppnchmeoaa

namespace Go.Proofs.Ytjnbhppnchmeoaa
open Go.RowKit
set_option linter.unusedVariables false
set_option maxRecDepth 1000000

theorem wf_in {v : Int} (h : -9223372036854775808 ≤ v ∧ v ≤ 9223372036854775807) : (Lit.int .i64 v).wf = true := by
  simpa [Lit.wf, IntKind.min, IntKind.max, IntKind.signed, IntKind.bits] using h
set_option maxHeartbeats 16000000 in
theorem specSayRight_any (y : Sy) (A : Option Addr) (c : Nat) (w : World) {lo : Nat} (hf : y.fits) (hA : Chs w lo w.heap.size A y.changes) :
    Calls Try.prog 43 #[syV y (.slice A y.changes.length c)] w fun e w' => e = .returned (.bool (sayB y)) ∧ Below w.heap.size w w' := by
  have HR : Hid (sayB y = (decide (0 ≤ y.frm ∧ y.frm ≤ 3) && (decide (0 ≤ y.view ∧ y.view ≤ 7) && restB y))) := Lib.hid rfl
  have HN := Lib.hid (rest_num (y := y))
  have HC := Lib.hid (rest_chg (y := y))
  have HW := Lib.hid (rest_new (y := y))
  have HO := Lib.hid (rest_no (y := y))
  have HN2 : Hid (numB y = (decide (1 ≤ y.seq ∧ y.seq ≤ 6) && (decide (y.op.size ≤ 120) && (decide (y.changes.length = 0) && decide (y.kind ≠ 1 ∨ y.frm = leadI y.view))))) := Lib.hid rfl
  have HC2 : Hid (chgB y = (decide (1 ≤ y.view) && (decide (y.seq = 0) && (decide (y.op.size = 0) && oneB y.frm y.view y.changes)))) := Lib.hid rfl
  have HW2 : Hid (newB y = (decide (1 ≤ y.view) && (decide (y.frm = leadI y.view) && (decide (y.seq = 0) && (decide (y.op.size = 0) && (cr y.view (-1) y.changes && decide (3 ≤ y.changes.length))))))) := Lib.hid rfl
  generalize sayB y = Z at HR ⊢
  generalize restB y = R at HR HN HC HW HO
  generalize numB y = R1 at HN HN2
  generalize chgB y = R2 at HC HC2
  generalize newB y = R3 at HW HW2
  obtain ⟨kind, frm, view, seq, op, L⟩ := y
  obtain ⟨f0, f1, f2, f3, f4, f5⟩ := hf
  simp only at f0 f1 f2 f3 f4 f5 hA HR HN HC HW HO HN2 HC2 HW2 ⊢
  have hn := hA.1
  unfold maxLen at hn
  rcases Bool.eq_false_or_eq_true (decide (0 ≤ frm ∧ frm ≤ 3)) with h1 | h1
  rotate_left
  · have I1 := Lib.hid (fun W => who_any h1 W)
    rw [h1] at HR
    obtain rfl : Z = false := by rw [HR.out]; rfl
    clear HR
    have hb0 := below_bx w (.cells #[.int .i64 kind, .int .i64 frm, .int .i64 view, .int .i64 seq, .string op, .slice A L.length c] 71)
    go_enter Try.func43, Try.ntmps43
    go_wp2_with (go_at_call 87; (with_reducible refine (I1.out _).mono ?_); rintro e w1 ⟨rfl, rfl⟩)
    go_ret
    exact ⟨rfl, hb0⟩
  have I1 := Lib.hid (fun W => who_any h1 W)
  rcases Bool.eq_false_or_eq_true (decide (0 ≤ view ∧ view ≤ 7)) with h2 | h2
  rotate_left
  · have I2 := Lib.hid (fun W => view_any h2 W)
    rw [h1, h2] at HR
    obtain rfl : Z = false := by rw [HR.out]; rfl
    clear HR
    have hb0 := below_bx w (.cells #[.int .i64 kind, .int .i64 frm, .int .i64 view, .int .i64 seq, .string op, .slice A L.length c] 71)
    go_enter Try.func43, Try.ntmps43
    go_wp2_with (first | (go_at_call 87; (with_reducible refine (I1.out _).mono ?_); rintro e w1 ⟨rfl, rfl⟩) | (go_at_call 80; (with_reducible refine (I2.out _).mono ?_); rintro e w1 ⟨rfl, rfl⟩))
    go_ret
    exact ⟨rfl, hb0⟩
  have I2 := Lib.hid (fun W => view_any h2 W)
  have hv8 : (Lit.int .i64 view).wf = true := wf_in f2
  have LD := Lib.hid (fun W => specLeader_any view W hv8)
  rw [h1, h2] at HR
  have HZ : Hid (Z = R) := Lib.hid (by rw [HR.out]; rfl)
  clear HR
  generalize leadI view = ld at LD HN2 HW2
  by_cases hk1 : kind = 1
  · subst hk1
    obtain rfl : Z = R1 := by rw [HZ.out, HN.out (by omega)]
    clear HN HC HW HO HC2 HW2 HZ
    rcases Bool.eq_false_or_eq_true (decide (1 ≤ seq ∧ seq ≤ 6)) with h3 | h3
    rotate_left
    · have S1 := Lib.hid (fun W => seq_any h3 W)
      rw [h3] at HN2
      obtain rfl : Z = false := by rw [HN2.out]; rfl
      clear HN2

      have hb0 := below_bx w (.cells #[.int .i64 1, .int .i64 frm, .int .i64 view, .int .i64 seq, .string op, .slice A L.length c] 71)
      have hK := Blk.fresh w 71 [.int .i64 1, .int .i64 frm, .int .i64 view, .int .i64 seq, .string op, .slice A L.length c]
      simp only [List.toArray] at hK
      go_enter Try.func43, Try.ntmps43
      go_wp2_with (first | (go_at_call 87; (with_reducible refine (I1.out _).mono ?_); rintro e w1 ⟨rfl, rfl⟩) | (go_at_call 80; (with_reducible refine (I2.out _).mono ?_); rintro e w1 ⟨rfl, rfl⟩))
      generalize w.alloc (.cells #[.int .i64 1, .int .i64 frm, .int .i64 view, .int .i64 seq, .string op, .slice A L.length c] 71) = w1 at hK hb0 ⊢
      obtain ⟨I, f, hI, g0, gk, gc, ge⟩ := class_grown w1
      have x0 := fun s => kept_cell (gk s) (hK.cell (i := 0) rfl)
      have x1 := fun s => kept_cell (gk s) (hK.cell (i := 1) rfl)
      have x2 := fun s => kept_cell (gk s) (hK.cell (i := 2) rfl)
      have x3 := fun s => kept_cell (gk s) (hK.cell (i := 3) rfl)
      have x4 := fun s => kept_cell (gk s) (hK.cell (i := 4) rfl)
      have x5 := fun s => kept_cell (gk s) (hK.cell (i := 5) rfl)
      refine wp_region_kept f (by kernel_rfl) (by kernel_rfl) g0 ?_
      repeat (first
        | go_big_quiet_skip
        | (go_big_quiet_want; go_big_quiet_op; first
            | go_big_quiet_on
            | (apply Exists.intro; refine ⟨fun s => ?_, ?_⟩; (first | (go_at_call 81; (with_reducible refine (S1.out _).mono ?_); rintro e w4 ⟨rfl, rfl⟩; exact ⟨rfl, gc _ _ (Below.refl _ _)⟩)); go_big_quiet_on)))
      refine wpQuiet_nil ?_
      intro w5 h5
      have hb5 := ge _ h5
      go_wp2
      go_ret
      exact ⟨rfl, hb0.trans (hb5.mono hb0.size)⟩
    have S1 := Lib.hid (fun W => seq_any h3 W)
    rcases Bool.eq_false_or_eq_true (decide (op.size ≤ 120)) with h4 | h4
    rotate_left
    · have S2 := Lib.hid (fun W => specOp_any f4 h4 W)
      rw [h3, h4] at HN2
      obtain rfl : Z = false := by rw [HN2.out]; rfl
      clear HN2
      have hb0 := below_bx w (.cells #[.int .i64 1, .int .i64 frm, .int .i64 view, .int .i64 seq, .string op, .slice A L.length c] 71)
      have hK := Blk.fresh w 71 [.int .i64 1, .int .i64 frm, .int .i64 view, .int .i64 seq, .string op, .slice A L.length c]
      simp only [List.toArray] at hK
      go_enter Try.func43, Try.ntmps43
      go_wp2_with (first | (go_at_call 87; (with_reducible refine (I1.out _).mono ?_); rintro e w1 ⟨rfl, rfl⟩) | (go_at_call 80; (with_reducible refine (I2.out _).mono ?_); rintro e w1 ⟨rfl, rfl⟩))
      generalize w.alloc (.cells #[.int .i64 1, .int .i64 frm, .int .i64 view, .int .i64 seq, .string op, .slice A L.length c] 71) = w1 at hK hb0 ⊢
      obtain ⟨I, f, hI, g0, gk, gc, ge⟩ := class_grown w1
      have x0 := fun s => kept_cell (gk s) (hK.cell (i := 0) rfl)
      have x1 := fun s => kept_cell (gk s) (hK.cell (i := 1) rfl)
      have x2 := fun s => kept_cell (gk s) (hK.cell (i := 2) rfl)
      have x3 := fun s => kept_cell (gk s) (hK.cell (i := 3) rfl)
      have x4 := fun s => kept_cell (gk s) (hK.cell (i := 4) rfl)
      have x5 := fun s => kept_cell (gk s) (hK.cell (i := 5) rfl)
      refine wp_region_kept f (by kernel_rfl) (by kernel_rfl) g0 ?_
      repeat (first
        | go_big_quiet_skip
        | (go_big_quiet_want; go_big_quiet_op; first
            | go_big_quiet_on
            | (apply Exists.intro; refine ⟨fun s => ?_, ?_⟩; (first | (go_at_call 81; (with_reducible refine (S1.out _).mono ?_); rintro e w4 ⟨rfl, rfl⟩; exact ⟨rfl, gc _ _ (Below.refl _ _)⟩) | (go_at_call 30; (with_reducible refine (S2.out _).mono ?_); rintro e w4 ⟨rfl, rfl⟩; exact ⟨rfl, gc _ _ (Below.refl _ _)⟩)); go_big_quiet_on)))
      refine wpQuiet_nil ?_
      intro w5 h5
      have hb5 := ge _ h5
      go_wp2
      go_ret
      exact ⟨rfl, hb0.trans (hb5.mono hb0.size)⟩
    have S2 := Lib.hid (fun W => specOp_any f4 h4 W)
    rcases Bool.eq_false_or_eq_true (decide (L.length = 0)) with h5 | h5
    rotate_left
    · have e5 : ((L.length : Int) == 0) = false := by have := of_decide_eq_false h5; simp; cases L <;> simp_all
      rw [h3, h4, h5] at HN2
      obtain rfl : Z = false := by rw [HN2.out]; rfl
      clear HN2
      have hb0 := below_bx w (.cells #[.int .i64 1, .int .i64 frm, .int .i64 view, .int .i64 seq, .string op, .slice A L.length c] 71)
      have hK := Blk.fresh w 71 [.int .i64 1, .int .i64 frm, .int .i64 view, .int .i64 seq, .string op, .slice A L.length c]
      simp only [List.toArray] at hK
      go_enter Try.func43, Try.ntmps43
      go_wp2_with (first | (go_at_call 87; (with_reducible refine (I1.out _).mono ?_); rintro e w1 ⟨rfl, rfl⟩) | (go_at_call 80; (with_reducible refine (I2.out _).mono ?_); rintro e w1 ⟨rfl, rfl⟩))
      generalize w.alloc (.cells #[.int .i64 1, .int .i64 frm, .int .i64 view, .int .i64 seq, .string op, .slice A L.length c] 71) = w1 at hK hb0 ⊢
      obtain ⟨I, f, hI, g0, gk, gc, ge⟩ := class_grown w1
      have x0 := fun s => kept_cell (gk s) (hK.cell (i := 0) rfl)
      have x1 := fun s => kept_cell (gk s) (hK.cell (i := 1) rfl)
      have x2 := fun s => kept_cell (gk s) (hK.cell (i := 2) rfl)
      have x3 := fun s => kept_cell (gk s) (hK.cell (i := 3) rfl)
      have x4 := fun s => kept_cell (gk s) (hK.cell (i := 4) rfl)
      have x5 := fun s => kept_cell (gk s) (hK.cell (i := 5) rfl)
      refine wp_region_kept f (by kernel_rfl) (by kernel_rfl) g0 ?_
      repeat (first
        | go_big_quiet_skip
        | (go_big_quiet_want; go_big_quiet_op; first
            | go_big_quiet_on
            | (apply Exists.intro; refine ⟨fun s => ?_, ?_⟩; (first | (go_at_call 81; (with_reducible refine (S1.out _).mono ?_); rintro e w4 ⟨rfl, rfl⟩; exact ⟨rfl, gc _ _ (Below.refl _ _)⟩) | (go_at_call 30; (with_reducible refine (S2.out _).mono ?_); rintro e w4 ⟨rfl, rfl⟩; exact ⟨rfl, gc _ _ (Below.refl _ _)⟩)); go_big_quiet_on)))
      refine wpQuiet_nil ?_
      intro w5 h5
      have hb5 := ge _ h5
      go_wp2
      go_ret
      exact ⟨rfl, hb0.trans (hb5.mono hb0.size)⟩
    have e5 : ((L.length : Int) == 0) = true := by have := of_decide_eq_true h5; simp; cases L <;> simp_all
    rw [h3, h4, h5] at HN2
    by_cases hl : frm = ld
    · have e6 : (frm == ld) = true := by simp [hl]
      obtain rfl : Z = true := by rw [HN2.out]; simp [hl]
      clear HN2 hl
      have hb0 := below_bx w (.cells #[.int .i64 1, .int .i64 frm, .int .i64 view, .int .i64 seq, .string op, .slice A L.length c] 71)
      have hK := Blk.fresh w 71 [.int .i64 1, .int .i64 frm, .int .i64 view, .int .i64 seq, .string op, .slice A L.length c]
      simp only [List.toArray] at hK
      go_enter Try.func43, Try.ntmps43
      go_wp2_with (first | (go_at_call 87; (with_reducible refine (I1.out _).mono ?_); rintro e w1 ⟨rfl, rfl⟩) | (go_at_call 80; (with_reducible refine (I2.out _).mono ?_); rintro e w1 ⟨rfl, rfl⟩))
      generalize w.alloc (.cells #[.int .i64 1, .int .i64 frm, .int .i64 view, .int .i64 seq, .string op, .slice A L.length c] 71) = w1 at hK hb0 ⊢
      obtain ⟨I, f, hI, g0, gk, gc, ge⟩ := class_grown w1
      have x0 := fun s => kept_cell (gk s) (hK.cell (i := 0) rfl)
      have x1 := fun s => kept_cell (gk s) (hK.cell (i := 1) rfl)
      have x2 := fun s => kept_cell (gk s) (hK.cell (i := 2) rfl)
      have x3 := fun s => kept_cell (gk s) (hK.cell (i := 3) rfl)
      have x4 := fun s => kept_cell (gk s) (hK.cell (i := 4) rfl)
      have x5 := fun s => kept_cell (gk s) (hK.cell (i := 5) rfl)
      refine wp_region_kept f (by kernel_rfl) (by kernel_rfl) g0 ?_
      repeat (first
        | go_big_quiet_skip
        | (go_big_quiet_want; go_big_quiet_op; first
            | go_big_quiet_on
            | (apply Exists.intro; refine ⟨fun s => ?_, ?_⟩; (first | (go_at_call 81; (with_reducible refine (S1.out _).mono ?_); rintro e w4 ⟨rfl, rfl⟩; exact ⟨rfl, gc _ _ (Below.refl _ _)⟩) | (go_at_call 30; (with_reducible refine (S2.out _).mono ?_); rintro e w4 ⟨rfl, rfl⟩; exact ⟨rfl, gc _ _ (Below.refl _ _)⟩) | (go_at_call 93; (with_reducible refine (LD.out _).mono ?_); rintro e w4 ⟨rfl, rfl⟩; exact ⟨rfl, gc _ _ (Below.refl _ _)⟩)); go_big_quiet_on)))
      refine wpQuiet_nil ?_
      intro w5 h5
      have hb5 := ge _ h5
      go_wp2
      go_ret
      exact ⟨rfl, hb0.trans (hb5.mono hb0.size)⟩
    · have e6 : (frm == ld) = false := by simp [hl]
      obtain rfl : Z = false := by rw [HN2.out]; simp [hl]
      clear HN2 hl
      have hb0 := below_bx w (.cells #[.int .i64 1, .int .i64 frm, .int .i64 view, .int .i64 seq, .string op, .slice A L.length c] 71)
      have hK := Blk.fresh w 71 [.int .i64 1, .int .i64 frm, .int .i64 view, .int .i64 seq, .string op, .slice A L.length c]
      simp only [List.toArray] at hK
      go_enter Try.func43, Try.ntmps43
      go_wp2_with (first | (go_at_call 87; (with_reducible refine (I1.out _).mono ?_); rintro e w1 ⟨rfl, rfl⟩) | (go_at_call 80; (with_reducible refine (I2.out _).mono ?_); rintro e w1 ⟨rfl, rfl⟩))
      generalize w.alloc (.cells #[.int .i64 1, .int .i64 frm, .int .i64 view, .int .i64 seq, .string op, .slice A L.length c] 71) = w1 at hK hb0 ⊢
      obtain ⟨I, f, hI, g0, gk, gc, ge⟩ := class_grown w1
      have x0 := fun s => kept_cell (gk s) (hK.cell (i := 0) rfl)
      have x1 := fun s => kept_cell (gk s) (hK.cell (i := 1) rfl)
      have x2 := fun s => kept_cell (gk s) (hK.cell (i := 2) rfl)
      have x3 := fun s => kept_cell (gk s) (hK.cell (i := 3) rfl)
      have x4 := fun s => kept_cell (gk s) (hK.cell (i := 4) rfl)
      have x5 := fun s => kept_cell (gk s) (hK.cell (i := 5) rfl)
      refine wp_region_kept f (by kernel_rfl) (by kernel_rfl) g0 ?_
      repeat (first
        | go_big_quiet_skip
        | (go_big_quiet_want; go_big_quiet_op; first
            | go_big_quiet_on
            | (apply Exists.intro; refine ⟨fun s => ?_, ?_⟩; (first | (go_at_call 81; (with_reducible refine (S1.out _).mono ?_); rintro e w4 ⟨rfl, rfl⟩; exact ⟨rfl, gc _ _ (Below.refl _ _)⟩) | (go_at_call 30; (with_reducible refine (S2.out _).mono ?_); rintro e w4 ⟨rfl, rfl⟩; exact ⟨rfl, gc _ _ (Below.refl _ _)⟩) | (go_at_call 93; (with_reducible refine (LD.out _).mono ?_); rintro e w4 ⟨rfl, rfl⟩; exact ⟨rfl, gc _ _ (Below.refl _ _)⟩)); go_big_quiet_on)))
      refine wpQuiet_nil ?_
      intro w5 h5
      have hb5 := ge _ h5
      go_wp2
      go_ret
      exact ⟨rfl, hb0.trans (hb5.mono hb0.size)⟩
  by_cases hk2 : kind = 2
  · subst hk2
    obtain rfl : Z = R1 := by rw [HZ.out, HN.out (by omega)]
    clear HN HC HW HO HC2 HW2 HZ
    rcases Bool.eq_false_or_eq_true (decide (1 ≤ seq ∧ seq ≤ 6)) with h3 | h3
    rotate_left
    · have S1 := Lib.hid (fun W => seq_any h3 W)
      rw [h3] at HN2
      obtain rfl : Z = false := by rw [HN2.out]; rfl
      clear HN2

      have hb0 := below_bx w (.cells #[.int .i64 2, .int .i64 frm, .int .i64 view, .int .i64 seq, .string op, .slice A L.length c] 71)
      have hK := Blk.fresh w 71 [.int .i64 2, .int .i64 frm, .int .i64 view, .int .i64 seq, .string op, .slice A L.length c]
      simp only [List.toArray] at hK
      go_enter Try.func43, Try.ntmps43
      go_wp2_with (first | (go_at_call 87; (with_reducible refine (I1.out _).mono ?_); rintro e w1 ⟨rfl, rfl⟩) | (go_at_call 80; (with_reducible refine (I2.out _).mono ?_); rintro e w1 ⟨rfl, rfl⟩))
      generalize w.alloc (.cells #[.int .i64 2, .int .i64 frm, .int .i64 view, .int .i64 seq, .string op, .slice A L.length c] 71) = w1 at hK hb0 ⊢
      obtain ⟨I, f, hI, g0, gk, gc, ge⟩ := class_grown w1
      have x0 := fun s => kept_cell (gk s) (hK.cell (i := 0) rfl)
      have x1 := fun s => kept_cell (gk s) (hK.cell (i := 1) rfl)
      have x2 := fun s => kept_cell (gk s) (hK.cell (i := 2) rfl)
      have x3 := fun s => kept_cell (gk s) (hK.cell (i := 3) rfl)
      have x4 := fun s => kept_cell (gk s) (hK.cell (i := 4) rfl)
      have x5 := fun s => kept_cell (gk s) (hK.cell (i := 5) rfl)
      refine wp_region_kept f (by kernel_rfl) (by kernel_rfl) g0 ?_
      repeat (first
        | go_big_quiet_skip
        | (go_big_quiet_want; go_big_quiet_op; first
            | go_big_quiet_on
            | (apply Exists.intro; refine ⟨fun s => ?_, ?_⟩; (first | (go_at_call 81; (with_reducible refine (S1.out _).mono ?_); rintro e w4 ⟨rfl, rfl⟩; exact ⟨rfl, gc _ _ (Below.refl _ _)⟩)); go_big_quiet_on)))
      refine wpQuiet_nil ?_
      intro w5 h5
      have hb5 := ge _ h5
      go_wp2
      go_ret
      exact ⟨rfl, hb0.trans (hb5.mono hb0.size)⟩
    have S1 := Lib.hid (fun W => seq_any h3 W)
    rcases Bool.eq_false_or_eq_true (decide (op.size ≤ 120)) with h4 | h4
    rotate_left
    · have S2 := Lib.hid (fun W => specOp_any f4 h4 W)
      rw [h3, h4] at HN2
      obtain rfl : Z = false := by rw [HN2.out]; rfl
      clear HN2
      have hb0 := below_bx w (.cells #[.int .i64 2, .int .i64 frm, .int .i64 view, .int .i64 seq, .string op, .slice A L.length c] 71)
      have hK := Blk.fresh w 71 [.int .i64 2, .int .i64 frm, .int .i64 view, .int .i64 seq, .string op, .slice A L.length c]
      simp only [List.toArray] at hK
      go_enter Try.func43, Try.ntmps43
      go_wp2_with (first | (go_at_call 87; (with_reducible refine (I1.out _).mono ?_); rintro e w1 ⟨rfl, rfl⟩) | (go_at_call 80; (with_reducible refine (I2.out _).mono ?_); rintro e w1 ⟨rfl, rfl⟩))
      generalize w.alloc (.cells #[.int .i64 2, .int .i64 frm, .int .i64 view, .int .i64 seq, .string op, .slice A L.length c] 71) = w1 at hK hb0 ⊢
      obtain ⟨I, f, hI, g0, gk, gc, ge⟩ := class_grown w1
      have x0 := fun s => kept_cell (gk s) (hK.cell (i := 0) rfl)
      have x1 := fun s => kept_cell (gk s) (hK.cell (i := 1) rfl)
      have x2 := fun s => kept_cell (gk s) (hK.cell (i := 2) rfl)
      have x3 := fun s => kept_cell (gk s) (hK.cell (i := 3) rfl)
      have x4 := fun s => kept_cell (gk s) (hK.cell (i := 4) rfl)
      have x5 := fun s => kept_cell (gk s) (hK.cell (i := 5) rfl)
      refine wp_region_kept f (by kernel_rfl) (by kernel_rfl) g0 ?_
      repeat (first
        | go_big_quiet_skip
        | (go_big_quiet_want; go_big_quiet_op; first
            | go_big_quiet_on
            | (apply Exists.intro; refine ⟨fun s => ?_, ?_⟩; (first | (go_at_call 81; (with_reducible refine (S1.out _).mono ?_); rintro e w4 ⟨rfl, rfl⟩; exact ⟨rfl, gc _ _ (Below.refl _ _)⟩) | (go_at_call 30; (with_reducible refine (S2.out _).mono ?_); rintro e w4 ⟨rfl, rfl⟩; exact ⟨rfl, gc _ _ (Below.refl _ _)⟩)); go_big_quiet_on)))
      refine wpQuiet_nil ?_
      intro w5 h5
      have hb5 := ge _ h5
      go_wp2
      go_ret
      exact ⟨rfl, hb0.trans (hb5.mono hb0.size)⟩
    have S2 := Lib.hid (fun W => specOp_any f4 h4 W)
    rcases Bool.eq_false_or_eq_true (decide (L.length = 0)) with h5 | h5
    rotate_left
    · have e5 : ((L.length : Int) == 0) = false := by have := of_decide_eq_false h5; simp; cases L <;> simp_all
      rw [h3, h4, h5] at HN2
      obtain rfl : Z = false := by rw [HN2.out]; rfl
      clear HN2
      have hb0 := below_bx w (.cells #[.int .i64 2, .int .i64 frm, .int .i64 view, .int .i64 seq, .string op, .slice A L.length c] 71)
      have hK := Blk.fresh w 71 [.int .i64 2, .int .i64 frm, .int .i64 view, .int .i64 seq, .string op, .slice A L.length c]
      simp only [List.toArray] at hK
      go_enter Try.func43, Try.ntmps43
      go_wp2_with (first | (go_at_call 87; (with_reducible refine (I1.out _).mono ?_); rintro e w1 ⟨rfl, rfl⟩) | (go_at_call 80; (with_reducible refine (I2.out _).mono ?_); rintro e w1 ⟨rfl, rfl⟩))
      generalize w.alloc (.cells #[.int .i64 2, .int .i64 frm, .int .i64 view, .int .i64 seq, .string op, .slice A L.length c] 71) = w1 at hK hb0 ⊢
      obtain ⟨I, f, hI, g0, gk, gc, ge⟩ := class_grown w1
      have x0 := fun s => kept_cell (gk s) (hK.cell (i := 0) rfl)
      have x1 := fun s => kept_cell (gk s) (hK.cell (i := 1) rfl)
      have x2 := fun s => kept_cell (gk s) (hK.cell (i := 2) rfl)
      have x3 := fun s => kept_cell (gk s) (hK.cell (i := 3) rfl)
      have x4 := fun s => kept_cell (gk s) (hK.cell (i := 4) rfl)
      have x5 := fun s => kept_cell (gk s) (hK.cell (i := 5) rfl)
      refine wp_region_kept f (by kernel_rfl) (by kernel_rfl) g0 ?_
      repeat (first
        | go_big_quiet_skip
        | (go_big_quiet_want; go_big_quiet_op; first
            | go_big_quiet_on
            | (apply Exists.intro; refine ⟨fun s => ?_, ?_⟩; (first | (go_at_call 81; (with_reducible refine (S1.out _).mono ?_); rintro e w4 ⟨rfl, rfl⟩; exact ⟨rfl, gc _ _ (Below.refl _ _)⟩) | (go_at_call 30; (with_reducible refine (S2.out _).mono ?_); rintro e w4 ⟨rfl, rfl⟩; exact ⟨rfl, gc _ _ (Below.refl _ _)⟩)); go_big_quiet_on)))
      refine wpQuiet_nil ?_
      intro w5 h5
      have hb5 := ge _ h5
      go_wp2
      go_ret
      exact ⟨rfl, hb0.trans (hb5.mono hb0.size)⟩
    have e5 : ((L.length : Int) == 0) = true := by have := of_decide_eq_true h5; simp; cases L <;> simp_all
    rw [h3, h4, h5] at HN2
    obtain rfl : Z = true := by rw [HN2.out]; simp
    clear HN2
    have hb0 := below_bx w (.cells #[.int .i64 2, .int .i64 frm, .int .i64 view, .int .i64 seq, .string op, .slice A L.length c] 71)
    have hK := Blk.fresh w 71 [.int .i64 2, .int .i64 frm, .int .i64 view, .int .i64 seq, .string op, .slice A L.length c]
    simp only [List.toArray] at hK
    go_enter Try.func43, Try.ntmps43
    go_wp2_with (first | (go_at_call 87; (with_reducible refine (I1.out _).mono ?_); rintro e w1 ⟨rfl, rfl⟩) | (go_at_call 80; (with_reducible refine (I2.out _).mono ?_); rintro e w1 ⟨rfl, rfl⟩))
    generalize w.alloc (.cells #[.int .i64 2, .int .i64 frm, .int .i64 view, .int .i64 seq, .string op, .slice A L.length c] 71) = w1 at hK hb0 ⊢
    obtain ⟨I, f, hI, g0, gk, gc, ge⟩ := class_grown w1
    have x0 := fun s => kept_cell (gk s) (hK.cell (i := 0) rfl)
    have x1 := fun s => kept_cell (gk s) (hK.cell (i := 1) rfl)
    have x2 := fun s => kept_cell (gk s) (hK.cell (i := 2) rfl)
    have x3 := fun s => kept_cell (gk s) (hK.cell (i := 3) rfl)
    have x4 := fun s => kept_cell (gk s) (hK.cell (i := 4) rfl)
    have x5 := fun s => kept_cell (gk s) (hK.cell (i := 5) rfl)
    refine wp_region_kept f (by kernel_rfl) (by kernel_rfl) g0 ?_
    repeat (first
      | go_big_quiet_skip
      | (go_big_quiet_want; go_big_quiet_op; first
          | go_big_quiet_on
          | (apply Exists.intro; refine ⟨fun s => ?_, ?_⟩; (first | (go_at_call 81; (with_reducible refine (S1.out _).mono ?_); rintro e w4 ⟨rfl, rfl⟩; exact ⟨rfl, gc _ _ (Below.refl _ _)⟩) | (go_at_call 30; (with_reducible refine (S2.out _).mono ?_); rintro e w4 ⟨rfl, rfl⟩; exact ⟨rfl, gc _ _ (Below.refl _ _)⟩)); go_big_quiet_on)))
    refine wpQuiet_nil ?_
    intro w5 h5
    have hb5 := ge _ h5
    go_wp2
    go_ret
    exact ⟨rfl, hb0.trans (hb5.mono hb0.size)⟩
  by_cases hk3 : kind = 3
  · subst hk3
    obtain rfl : Z = R1 := by rw [HZ.out, HN.out (by omega)]
    clear HN HC HW HO HC2 HW2 HZ
    rcases Bool.eq_false_or_eq_true (decide (1 ≤ seq ∧ seq ≤ 6)) with h3 | h3
    rotate_left
    · have S1 := Lib.hid (fun W => seq_any h3 W)
      rw [h3] at HN2
      obtain rfl : Z = false := by rw [HN2.out]; rfl
      clear HN2

      have hb0 := below_bx w (.cells #[.int .i64 3, .int .i64 frm, .int .i64 view, .int .i64 seq, .string op, .slice A L.length c] 71)
      have hK := Blk.fresh w 71 [.int .i64 3, .int .i64 frm, .int .i64 view, .int .i64 seq, .string op, .slice A L.length c]
      simp only [List.toArray] at hK
      go_enter Try.func43, Try.ntmps43
      go_wp2_with (first | (go_at_call 87; (with_reducible refine (I1.out _).mono ?_); rintro e w1 ⟨rfl, rfl⟩) | (go_at_call 80; (with_reducible refine (I2.out _).mono ?_); rintro e w1 ⟨rfl, rfl⟩))
      generalize w.alloc (.cells #[.int .i64 3, .int .i64 frm, .int .i64 view, .int .i64 seq, .string op, .slice A L.length c] 71) = w1 at hK hb0 ⊢
      obtain ⟨I, f, hI, g0, gk, gc, ge⟩ := class_grown w1
      have x0 := fun s => kept_cell (gk s) (hK.cell (i := 0) rfl)
      have x1 := fun s => kept_cell (gk s) (hK.cell (i := 1) rfl)
      have x2 := fun s => kept_cell (gk s) (hK.cell (i := 2) rfl)
      have x3 := fun s => kept_cell (gk s) (hK.cell (i := 3) rfl)
      have x4 := fun s => kept_cell (gk s) (hK.cell (i := 4) rfl)
      have x5 := fun s => kept_cell (gk s) (hK.cell (i := 5) rfl)
      refine wp_region_kept f (by kernel_rfl) (by kernel_rfl) g0 ?_
      repeat (first
        | go_big_quiet_skip
        | (go_big_quiet_want; go_big_quiet_op; first
            | go_big_quiet_on
            | (apply Exists.intro; refine ⟨fun s => ?_, ?_⟩; (first | (go_at_call 81; (with_reducible refine (S1.out _).mono ?_); rintro e w4 ⟨rfl, rfl⟩; exact ⟨rfl, gc _ _ (Below.refl _ _)⟩)); go_big_quiet_on)))
      refine wpQuiet_nil ?_
      intro w5 h5
      have hb5 := ge _ h5
      go_wp2
      go_ret
      exact ⟨rfl, hb0.trans (hb5.mono hb0.size)⟩
    have S1 := Lib.hid (fun W => seq_any h3 W)
    rcases Bool.eq_false_or_eq_true (decide (op.size ≤ 120)) with h4 | h4
    rotate_left
    · have S2 := Lib.hid (fun W => specOp_any f4 h4 W)
      rw [h3, h4] at HN2
      obtain rfl : Z = false := by rw [HN2.out]; rfl
      clear HN2
      have hb0 := below_bx w (.cells #[.int .i64 3, .int .i64 frm, .int .i64 view, .int .i64 seq, .string op, .slice A L.length c] 71)
      have hK := Blk.fresh w 71 [.int .i64 3, .int .i64 frm, .int .i64 view, .int .i64 seq, .string op, .slice A L.length c]
      simp only [List.toArray] at hK
      go_enter Try.func43, Try.ntmps43
      go_wp2_with (first | (go_at_call 87; (with_reducible refine (I1.out _).mono ?_); rintro e w1 ⟨rfl, rfl⟩) | (go_at_call 80; (with_reducible refine (I2.out _).mono ?_); rintro e w1 ⟨rfl, rfl⟩))
      generalize w.alloc (.cells #[.int .i64 3, .int .i64 frm, .int .i64 view, .int .i64 seq, .string op, .slice A L.length c] 71) = w1 at hK hb0 ⊢
      obtain ⟨I, f, hI, g0, gk, gc, ge⟩ := class_grown w1
      have x0 := fun s => kept_cell (gk s) (hK.cell (i := 0) rfl)
      have x1 := fun s => kept_cell (gk s) (hK.cell (i := 1) rfl)
      have x2 := fun s => kept_cell (gk s) (hK.cell (i := 2) rfl)
      have x3 := fun s => kept_cell (gk s) (hK.cell (i := 3) rfl)
      have x4 := fun s => kept_cell (gk s) (hK.cell (i := 4) rfl)
      have x5 := fun s => kept_cell (gk s) (hK.cell (i := 5) rfl)
      refine wp_region_kept f (by kernel_rfl) (by kernel_rfl) g0 ?_
      repeat (first
        | go_big_quiet_skip
        | (go_big_quiet_want; go_big_quiet_op; first
            | go_big_quiet_on
            | (apply Exists.intro; refine ⟨fun s => ?_, ?_⟩; (first | (go_at_call 81; (with_reducible refine (S1.out _).mono ?_); rintro e w4 ⟨rfl, rfl⟩; exact ⟨rfl, gc _ _ (Below.refl _ _)⟩) | (go_at_call 30; (with_reducible refine (S2.out _).mono ?_); rintro e w4 ⟨rfl, rfl⟩; exact ⟨rfl, gc _ _ (Below.refl _ _)⟩)); go_big_quiet_on)))
      refine wpQuiet_nil ?_
      intro w5 h5
      have hb5 := ge _ h5
      go_wp2
      go_ret
      exact ⟨rfl, hb0.trans (hb5.mono hb0.size)⟩
    have S2 := Lib.hid (fun W => specOp_any f4 h4 W)
    rcases Bool.eq_false_or_eq_true (decide (L.length = 0)) with h5 | h5
    rotate_left
    · have e5 : ((L.length : Int) == 0) = false := by have := of_decide_eq_false h5; simp; cases L <;> simp_all
      rw [h3, h4, h5] at HN2
      obtain rfl : Z = false := by rw [HN2.out]; rfl
      clear HN2
      have hb0 := below_bx w (.cells #[.int .i64 3, .int .i64 frm, .int .i64 view, .int .i64 seq, .string op, .slice A L.length c] 71)
      have hK := Blk.fresh w 71 [.int .i64 3, .int .i64 frm, .int .i64 view, .int .i64 seq, .string op, .slice A L.length c]
      simp only [List.toArray] at hK
      go_enter Try.func43, Try.ntmps43
      go_wp2_with (first | (go_at_call 87; (with_reducible refine (I1.out _).mono ?_); rintro e w1 ⟨rfl, rfl⟩) | (go_at_call 80; (with_reducible refine (I2.out _).mono ?_); rintro e w1 ⟨rfl, rfl⟩))
      generalize w.alloc (.cells #[.int .i64 3, .int .i64 frm, .int .i64 view, .int .i64 seq, .string op, .slice A L.length c] 71) = w1 at hK hb0 ⊢
      obtain ⟨I, f, hI, g0, gk, gc, ge⟩ := class_grown w1
      have x0 := fun s => kept_cell (gk s) (hK.cell (i := 0) rfl)
      have x1 := fun s => kept_cell (gk s) (hK.cell (i := 1) rfl)
      have x2 := fun s => kept_cell (gk s) (hK.cell (i := 2) rfl)
      have x3 := fun s => kept_cell (gk s) (hK.cell (i := 3) rfl)
      have x4 := fun s => kept_cell (gk s) (hK.cell (i := 4) rfl)
      have x5 := fun s => kept_cell (gk s) (hK.cell (i := 5) rfl)
      refine wp_region_kept f (by kernel_rfl) (by kernel_rfl) g0 ?_
      repeat (first
        | go_big_quiet_skip
        | (go_big_quiet_want; go_big_quiet_op; first
            | go_big_quiet_on
            | (apply Exists.intro; refine ⟨fun s => ?_, ?_⟩; (first | (go_at_call 81; (with_reducible refine (S1.out _).mono ?_); rintro e w4 ⟨rfl, rfl⟩; exact ⟨rfl, gc _ _ (Below.refl _ _)⟩) | (go_at_call 30; (with_reducible refine (S2.out _).mono ?_); rintro e w4 ⟨rfl, rfl⟩; exact ⟨rfl, gc _ _ (Below.refl _ _)⟩)); go_big_quiet_on)))
      refine wpQuiet_nil ?_
      intro w5 h5
      have hb5 := ge _ h5
      go_wp2
      go_ret
      exact ⟨rfl, hb0.trans (hb5.mono hb0.size)⟩
    have e5 : ((L.length : Int) == 0) = true := by have := of_decide_eq_true h5; simp; cases L <;> simp_all
    rw [h3, h4, h5] at HN2
    obtain rfl : Z = true := by rw [HN2.out]; simp
    clear HN2
    have hb0 := below_bx w (.cells #[.int .i64 3, .int .i64 frm, .int .i64 view, .int .i64 seq, .string op, .slice A L.length c] 71)
    have hK := Blk.fresh w 71 [.int .i64 3, .int .i64 frm, .int .i64 view, .int .i64 seq, .string op, .slice A L.length c]
    simp only [List.toArray] at hK
    go_enter Try.func43, Try.ntmps43
    go_wp2_with (first | (go_at_call 87; (with_reducible refine (I1.out _).mono ?_); rintro e w1 ⟨rfl, rfl⟩) | (go_at_call 80; (with_reducible refine (I2.out _).mono ?_); rintro e w1 ⟨rfl, rfl⟩))
    generalize w.alloc (.cells #[.int .i64 3, .int .i64 frm, .int .i64 view, .int .i64 seq, .string op, .slice A L.length c] 71) = w1 at hK hb0 ⊢
    obtain ⟨I, f, hI, g0, gk, gc, ge⟩ := class_grown w1
    have x0 := fun s => kept_cell (gk s) (hK.cell (i := 0) rfl)
    have x1 := fun s => kept_cell (gk s) (hK.cell (i := 1) rfl)
    have x2 := fun s => kept_cell (gk s) (hK.cell (i := 2) rfl)
    have x3 := fun s => kept_cell (gk s) (hK.cell (i := 3) rfl)
    have x4 := fun s => kept_cell (gk s) (hK.cell (i := 4) rfl)
    have x5 := fun s => kept_cell (gk s) (hK.cell (i := 5) rfl)
    refine wp_region_kept f (by kernel_rfl) (by kernel_rfl) g0 ?_
    repeat (first
      | go_big_quiet_skip
      | (go_big_quiet_want; go_big_quiet_op; first
          | go_big_quiet_on
          | (apply Exists.intro; refine ⟨fun s => ?_, ?_⟩; (first | (go_at_call 81; (with_reducible refine (S1.out _).mono ?_); rintro e w4 ⟨rfl, rfl⟩; exact ⟨rfl, gc _ _ (Below.refl _ _)⟩) | (go_at_call 30; (with_reducible refine (S2.out _).mono ?_); rintro e w4 ⟨rfl, rfl⟩; exact ⟨rfl, gc _ _ (Below.refl _ _)⟩)); go_big_quiet_on)))
    refine wpQuiet_nil ?_
    intro w5 h5
    have hb5 := ge _ h5
    go_wp2
    go_ret
    exact ⟨rfl, hb0.trans (hb5.mono hb0.size)⟩
  by_cases hk4 : kind = 4
  · subst hk4
    obtain rfl : Z = R2 := by rw [HZ.out, HC.out rfl]
    clear HN HC HW HO HN2 HW2 HZ LD
    rcases Bool.eq_false_or_eq_true (decide (1 ≤ view)) with h3 | h3
    rotate_left
    · rw [h3] at HC2
      obtain rfl : Z = false := by rw [HC2.out]; rfl
      clear HC2
      have hb0 := below_bx w (.cells #[.int .i64 4, .int .i64 frm, .int .i64 view, .int .i64 seq, .string op, .slice A L.length c] 71)
      have hK := Blk.fresh w 71 [.int .i64 4, .int .i64 frm, .int .i64 view, .int .i64 seq, .string op, .slice A L.length c]
      simp only [List.toArray] at hK
      go_enter Try.func43, Try.ntmps43
      go_wp2_with (first | (go_at_call 87; (with_reducible refine (I1.out _).mono ?_); rintro e w1 ⟨rfl, rfl⟩) | (go_at_call 80; (with_reducible refine (I2.out _).mono ?_); rintro e w1 ⟨rfl, rfl⟩))
      generalize w.alloc (.cells #[.int .i64 4, .int .i64 frm, .int .i64 view, .int .i64 seq, .string op, .slice A L.length c] 71) = w1 at hK hb0 ⊢
      obtain ⟨I, f, hI, g0, gk, gc, ge⟩ := class_grown w1
      have x0 := fun s => kept_cell (gk s) (hK.cell (i := 0) rfl)
      have x1 := fun s => kept_cell (gk s) (hK.cell (i := 1) rfl)
      have x2 := fun s => kept_cell (gk s) (hK.cell (i := 2) rfl)
      have x3 := fun s => kept_cell (gk s) (hK.cell (i := 3) rfl)
      have x4 := fun s => kept_cell (gk s) (hK.cell (i := 4) rfl)
      have x5 := fun s => kept_cell (gk s) (hK.cell (i := 5) rfl)
      refine wp_region_kept f (by kernel_rfl) (by kernel_rfl) g0 ?_
      repeat (first
        | go_big_quiet_skip
        | (go_big_quiet_want; go_big_quiet_op; first
            | go_big_quiet_on))
      refine wpQuiet_nil ?_
      intro w5 h5
      have hb5 := ge _ h5
      go_wp2
      go_ret
      exact ⟨rfl, hb0.trans (hb5.mono hb0.size)⟩
    rcases Bool.eq_false_or_eq_true (decide (seq = 0)) with h4 | h4
    rotate_left
    · have e4 : (seq == 0) = false := by have := of_decide_eq_false h4; simp; exact this
      rw [h3, h4] at HC2
      obtain rfl : Z = false := by rw [HC2.out]; rfl
      clear HC2
      have hb0 := below_bx w (.cells #[.int .i64 4, .int .i64 frm, .int .i64 view, .int .i64 seq, .string op, .slice A L.length c] 71)
      have hK := Blk.fresh w 71 [.int .i64 4, .int .i64 frm, .int .i64 view, .int .i64 seq, .string op, .slice A L.length c]
      simp only [List.toArray] at hK
      go_enter Try.func43, Try.ntmps43
      go_wp2_with (first | (go_at_call 87; (with_reducible refine (I1.out _).mono ?_); rintro e w1 ⟨rfl, rfl⟩) | (go_at_call 80; (with_reducible refine (I2.out _).mono ?_); rintro e w1 ⟨rfl, rfl⟩))
      generalize w.alloc (.cells #[.int .i64 4, .int .i64 frm, .int .i64 view, .int .i64 seq, .string op, .slice A L.length c] 71) = w1 at hK hb0 ⊢
      obtain ⟨I, f, hI, g0, gk, gc, ge⟩ := class_grown w1
      have x0 := fun s => kept_cell (gk s) (hK.cell (i := 0) rfl)
      have x1 := fun s => kept_cell (gk s) (hK.cell (i := 1) rfl)
      have x2 := fun s => kept_cell (gk s) (hK.cell (i := 2) rfl)
      have x3 := fun s => kept_cell (gk s) (hK.cell (i := 3) rfl)
      have x4 := fun s => kept_cell (gk s) (hK.cell (i := 4) rfl)
      have x5 := fun s => kept_cell (gk s) (hK.cell (i := 5) rfl)
      refine wp_region_kept f (by kernel_rfl) (by kernel_rfl) g0 ?_
      repeat (first
        | go_big_quiet_skip
        | (go_big_quiet_want; go_big_quiet_op; first
            | go_big_quiet_on))
      refine wpQuiet_nil ?_
      intro w5 h5
      have hb5 := ge _ h5
      go_wp2
      go_ret
      exact ⟨rfl, hb0.trans (hb5.mono hb0.size)⟩
    obtain rfl : seq = 0 := of_decide_eq_true h4
    rcases Bool.eq_false_or_eq_true (decide (op.size = 0)) with h5 | h5
    rotate_left
    · have e5 : (op.toList == []) = false := empty_list h5
      rw [h3, h4, h5] at HC2
      obtain rfl : Z = false := by rw [HC2.out]; rfl
      clear HC2
      have hb0 := below_bx w (.cells #[.int .i64 4, .int .i64 frm, .int .i64 view, .int .i64 0, .string op, .slice A L.length c] 71)
      have hK := Blk.fresh w 71 [.int .i64 4, .int .i64 frm, .int .i64 view, .int .i64 0, .string op, .slice A L.length c]
      simp only [List.toArray] at hK
      go_enter Try.func43, Try.ntmps43
      go_wp2_with (first | (go_at_call 87; (with_reducible refine (I1.out _).mono ?_); rintro e w1 ⟨rfl, rfl⟩) | (go_at_call 80; (with_reducible refine (I2.out _).mono ?_); rintro e w1 ⟨rfl, rfl⟩))
      generalize w.alloc (.cells #[.int .i64 4, .int .i64 frm, .int .i64 view, .int .i64 0, .string op, .slice A L.length c] 71) = w1 at hK hb0 ⊢
      obtain ⟨I, f, hI, g0, gk, gc, ge⟩ := class_grown w1
      have x0 := fun s => kept_cell (gk s) (hK.cell (i := 0) rfl)
      have x1 := fun s => kept_cell (gk s) (hK.cell (i := 1) rfl)
      have x2 := fun s => kept_cell (gk s) (hK.cell (i := 2) rfl)
      have x3 := fun s => kept_cell (gk s) (hK.cell (i := 3) rfl)
      have x4 := fun s => kept_cell (gk s) (hK.cell (i := 4) rfl)
      have x5 := fun s => kept_cell (gk s) (hK.cell (i := 5) rfl)
      refine wp_region_kept f (by kernel_rfl) (by kernel_rfl) g0 ?_
      repeat (first
        | go_big_quiet_skip
        | (go_big_quiet_want; go_big_quiet_op; first
            | go_big_quiet_on))
      refine wpQuiet_nil ?_
      intro w5 h5
      have hb5 := ge _ h5
      go_wp2
      go_ret
      exact ⟨rfl, hb0.trans (hb5.mono hb0.size)⟩
    obtain rfl := empty_eq h5
    rw [h3, h4, h5] at HC2
    by_cases hl : L.length = 1
    rotate_left
    · have e6 : ((L.length : Int) == 1) = false := by simp; omega
      obtain rfl : Z = false := by rw [HC2.out, oneB_len hl]; rfl
      clear HC2 hl
      have hb0 := below_bx w (.cells #[.int .i64 4, .int .i64 frm, .int .i64 view, .int .i64 0, .string ⟨#[]⟩, .slice A L.length c] 71)
      have hK := Blk.fresh w 71 [.int .i64 4, .int .i64 frm, .int .i64 view, .int .i64 0, .string ⟨#[]⟩, .slice A L.length c]
      simp only [List.toArray] at hK
      go_enter Try.func43, Try.ntmps43
      go_wp2_with (first | (go_at_call 87; (with_reducible refine (I1.out _).mono ?_); rintro e w1 ⟨rfl, rfl⟩) | (go_at_call 80; (with_reducible refine (I2.out _).mono ?_); rintro e w1 ⟨rfl, rfl⟩))
      generalize w.alloc (.cells #[.int .i64 4, .int .i64 frm, .int .i64 view, .int .i64 0, .string ⟨#[]⟩, .slice A L.length c] 71) = w1 at hK hb0 ⊢
      obtain ⟨I, f, hI, g0, gk, gc, ge⟩ := class_grown w1
      have x0 := fun s => kept_cell (gk s) (hK.cell (i := 0) rfl)
      have x1 := fun s => kept_cell (gk s) (hK.cell (i := 1) rfl)
      have x2 := fun s => kept_cell (gk s) (hK.cell (i := 2) rfl)
      have x3 := fun s => kept_cell (gk s) (hK.cell (i := 3) rfl)
      have x4 := fun s => kept_cell (gk s) (hK.cell (i := 4) rfl)
      have x5 := fun s => kept_cell (gk s) (hK.cell (i := 5) rfl)
      refine wp_region_kept f (by kernel_rfl) (by kernel_rfl) g0 ?_
      repeat (first
        | go_big_quiet_skip
        | (go_big_quiet_want; go_big_quiet_op; first
            | go_big_quiet_on))
      refine wpQuiet_nil ?_
      intro w5 h5
      have hb5 := ge _ h5
      go_wp2
      go_ret
      exact ⟨rfl, hb0.trans (hb5.mono hb0.size)⟩
    obtain ⟨c0, rfl⟩ := len_one hl
    obtain ⟨a, rfl, hab, C, c1, a0, a1, a2, hC⟩ := hA.at 0 (by simp)
    have hf0 := f5 c0 (by simp)
    simp only [List.getElem_cons_zero] at a0 a1 a2 hC
    obtain ⟨cf, cv, Q⟩ := c0
    simp only at a0 a1 a2 hC
    replace a0 : w.cell? a = some (.int .i64 cf) := by simpa [Addr.add] using a0
    replace a1 : w.cell? ⟨a.block, a.off + 1, none⟩ = some (.int .i64 cv) := by simpa [Addr.add] using a1
    replace a2 : w.cell? ⟨a.block, a.off + 2, none⟩ = some (.slice C Q.length c1) := by simpa [Addr.add] using a2
    have HC3 : Hid (Z = (cngB ⟨cf, cv, Q⟩ && (decide (cf = frm) && decide (cv = view)))) := Lib.hid (by rw [HC2.out]; rfl)
    have CRT := Lib.hid (fun W (h : Below w.heap.size w W) => specChangeRight_any ⟨cf, cv, Q⟩ C c1 W hf0 (hC.on h))
    clear HC2 hl

    rcases Bool.eq_false_or_eq_true (cngB ⟨cf, cv, Q⟩) with h6 | h6
    rotate_left
    · rw [h6] at HC3 CRT
      obtain rfl : Z = false := by rw [HC3.out]; rfl
      clear HC3
      have hb0 := below_bx w (.cells #[.int .i64 4, .int .i64 frm, .int .i64 view, .int .i64 0, .string ⟨#[]⟩, .slice (some a) 1 c] 71)
      have hK := Blk.fresh w 71 [.int .i64 4, .int .i64 frm, .int .i64 view, .int .i64 0, .string ⟨#[]⟩, .slice (some a) 1 c]
      simp only [List.toArray] at hK
      go_enter Try.func43, Try.ntmps43
      go_wp2_with (first | (go_at_call 87; (with_reducible refine (I1.out _).mono ?_); rintro e w1 ⟨rfl, rfl⟩) | (go_at_call 80; (with_reducible refine (I2.out _).mono ?_); rintro e w1 ⟨rfl, rfl⟩))
      generalize w.alloc (.cells #[.int .i64 4, .int .i64 frm, .int .i64 view, .int .i64 0, .string ⟨#[]⟩, .slice (some a) 1 c] 71) = w1 at hK hb0 ⊢
      obtain ⟨I, f, hI, g0, gk, gc, ge⟩ := class_grown w1
      have x0 := fun s => kept_cell (gk s) (hK.cell (i := 0) rfl)
      have x1 := fun s => kept_cell (gk s) (hK.cell (i := 1) rfl)
      have x2 := fun s => kept_cell (gk s) (hK.cell (i := 2) rfl)
      have x3 := fun s => kept_cell (gk s) (hK.cell (i := 3) rfl)
      have x4 := fun s => kept_cell (gk s) (hK.cell (i := 4) rfl)
      have x5 := fun s => kept_cell (gk s) (hK.cell (i := 5) rfl)
      have y0 := fun s => kept_cell (hb0.trans ((gk s).mono hb0.size)) a0
      have y1 := fun s => kept_cell (hb0.trans ((gk s).mono hb0.size)) a1
      have y2 := fun s => kept_cell (hb0.trans ((gk s).mono hb0.size)) a2
      have CT := Lib.hid (fun s => CRT.out (f s) (hb0.trans ((gk s).mono hb0.size)))
      clear a0 a1 a2
      refine wp_region_kept f (by kernel_rfl) (by kernel_rfl) g0 ?_
      repeat (first
        | go_big_quiet_skip
        | (go_big_quiet_want; go_big_quiet_op; first
            | go_big_quiet_on
            | (apply Exists.intro; refine ⟨fun s => ?_, ?_⟩; (first | (go_at_call 38; (with_reducible refine (CT.out _).mono ?_); rintro e w4 ⟨rfl, hb4⟩; exact ⟨rfl, gc _ _ hb4⟩)); go_big_quiet_on)))
      refine wpQuiet_nil ?_
      intro w5 h5
      have hb5 := ge _ h5
      go_wp2
      go_ret
      exact ⟨rfl, hb0.trans (hb5.mono hb0.size)⟩
    rw [h6] at HC3 CRT
    rcases Bool.eq_false_or_eq_true (decide (cf = frm)) with h7 | h7
    rotate_left
    · have e7 : (cf == frm) = false := by have := of_decide_eq_false h7; simp; exact this
      rw [h7] at HC3
      obtain rfl : Z = false := by rw [HC3.out]; rfl
      clear HC3
      have hb0 := below_bx w (.cells #[.int .i64 4, .int .i64 frm, .int .i64 view, .int .i64 0, .string ⟨#[]⟩, .slice (some a) 1 c] 71)
      have hK := Blk.fresh w 71 [.int .i64 4, .int .i64 frm, .int .i64 view, .int .i64 0, .string ⟨#[]⟩, .slice (some a) 1 c]
      simp only [List.toArray] at hK
      go_enter Try.func43, Try.ntmps43
      go_wp2_with (first | (go_at_call 87; (with_reducible refine (I1.out _).mono ?_); rintro e w1 ⟨rfl, rfl⟩) | (go_at_call 80; (with_reducible refine (I2.out _).mono ?_); rintro e w1 ⟨rfl, rfl⟩))
      generalize w.alloc (.cells #[.int .i64 4, .int .i64 frm, .int .i64 view, .int .i64 0, .string ⟨#[]⟩, .slice (some a) 1 c] 71) = w1 at hK hb0 ⊢
      obtain ⟨I, f, hI, g0, gk, gc, ge⟩ := class_grown w1
      have x0 := fun s => kept_cell (gk s) (hK.cell (i := 0) rfl)
      have x1 := fun s => kept_cell (gk s) (hK.cell (i := 1) rfl)
      have x2 := fun s => kept_cell (gk s) (hK.cell (i := 2) rfl)
      have x3 := fun s => kept_cell (gk s) (hK.cell (i := 3) rfl)
      have x4 := fun s => kept_cell (gk s) (hK.cell (i := 4) rfl)
      have x5 := fun s => kept_cell (gk s) (hK.cell (i := 5) rfl)
      have y0 := fun s => kept_cell (hb0.trans ((gk s).mono hb0.size)) a0
      have y1 := fun s => kept_cell (hb0.trans ((gk s).mono hb0.size)) a1
      have y2 := fun s => kept_cell (hb0.trans ((gk s).mono hb0.size)) a2
      have CT := Lib.hid (fun s => CRT.out (f s) (hb0.trans ((gk s).mono hb0.size)))
      clear a0 a1 a2
      refine wp_region_kept f (by kernel_rfl) (by kernel_rfl) g0 ?_
      repeat (first
        | go_big_quiet_skip
        | (go_big_quiet_want; go_big_quiet_op; first
            | go_big_quiet_on
            | (apply Exists.intro; refine ⟨fun s => ?_, ?_⟩; (first | (go_at_call 38; (with_reducible refine (CT.out _).mono ?_); rintro e w4 ⟨rfl, hb4⟩; exact ⟨rfl, gc _ _ hb4⟩)); go_big_quiet_on)))
      refine wpQuiet_nil ?_
      intro w5 h5
      have hb5 := ge _ h5
      go_wp2
      go_ret
      exact ⟨rfl, hb0.trans (hb5.mono hb0.size)⟩
    have e7 : (cf == frm) = true := by have := of_decide_eq_true h7; simp; exact this
    rw [h7] at HC3
    rcases Bool.eq_false_or_eq_true (decide (cv = view)) with h8 | h8
    rotate_left
    · have e8 : (cv == view) = false := by have := of_decide_eq_false h8; simp; exact this
      rw [h8] at HC3
      obtain rfl : Z = false := by rw [HC3.out]; rfl
      clear HC3
      have hb0 := below_bx w (.cells #[.int .i64 4, .int .i64 frm, .int .i64 view, .int .i64 0, .string ⟨#[]⟩, .slice (some a) 1 c] 71)
      have hK := Blk.fresh w 71 [.int .i64 4, .int .i64 frm, .int .i64 view, .int .i64 0, .string ⟨#[]⟩, .slice (some a) 1 c]
      simp only [List.toArray] at hK
      go_enter Try.func43, Try.ntmps43
      go_wp2_with (first | (go_at_call 87; (with_reducible refine (I1.out _).mono ?_); rintro e w1 ⟨rfl, rfl⟩) | (go_at_call 80; (with_reducible refine (I2.out _).mono ?_); rintro e w1 ⟨rfl, rfl⟩))
      generalize w.alloc (.cells #[.int .i64 4, .int .i64 frm, .int .i64 view, .int .i64 0, .string ⟨#[]⟩, .slice (some a) 1 c] 71) = w1 at hK hb0 ⊢
      obtain ⟨I, f, hI, g0, gk, gc, ge⟩ := class_grown w1
      have x0 := fun s => kept_cell (gk s) (hK.cell (i := 0) rfl)
      have x1 := fun s => kept_cell (gk s) (hK.cell (i := 1) rfl)
      have x2 := fun s => kept_cell (gk s) (hK.cell (i := 2) rfl)
      have x3 := fun s => kept_cell (gk s) (hK.cell (i := 3) rfl)
      have x4 := fun s => kept_cell (gk s) (hK.cell (i := 4) rfl)
      have x5 := fun s => kept_cell (gk s) (hK.cell (i := 5) rfl)
      have y0 := fun s => kept_cell (hb0.trans ((gk s).mono hb0.size)) a0
      have y1 := fun s => kept_cell (hb0.trans ((gk s).mono hb0.size)) a1
      have y2 := fun s => kept_cell (hb0.trans ((gk s).mono hb0.size)) a2
      have CT := Lib.hid (fun s => CRT.out (f s) (hb0.trans ((gk s).mono hb0.size)))
      clear a0 a1 a2
      refine wp_region_kept f (by kernel_rfl) (by kernel_rfl) g0 ?_
      repeat (first
        | go_big_quiet_skip
        | (go_big_quiet_want; go_big_quiet_op; first
            | go_big_quiet_on
            | (apply Exists.intro; refine ⟨fun s => ?_, ?_⟩; (first | (go_at_call 38; (with_reducible refine (CT.out _).mono ?_); rintro e w4 ⟨rfl, hb4⟩; exact ⟨rfl, gc _ _ hb4⟩)); go_big_quiet_on)))
      refine wpQuiet_nil ?_
      intro w5 h5
      have hb5 := ge _ h5
      go_wp2
      go_ret
      exact ⟨rfl, hb0.trans (hb5.mono hb0.size)⟩
    have e8 : (cv == view) = true := by have := of_decide_eq_true h8; simp; exact this
    rw [h8] at HC3
    obtain rfl : Z = true := by rw [HC3.out]; rfl
    clear HC3
    have hb0 := below_bx w (.cells #[.int .i64 4, .int .i64 frm, .int .i64 view, .int .i64 0, .string ⟨#[]⟩, .slice (some a) 1 c] 71)
    have hK := Blk.fresh w 71 [.int .i64 4, .int .i64 frm, .int .i64 view, .int .i64 0, .string ⟨#[]⟩, .slice (some a) 1 c]
    simp only [List.toArray] at hK
    go_enter Try.func43, Try.ntmps43
    go_wp2_with (first | (go_at_call 87; (with_reducible refine (I1.out _).mono ?_); rintro e w1 ⟨rfl, rfl⟩) | (go_at_call 80; (with_reducible refine (I2.out _).mono ?_); rintro e w1 ⟨rfl, rfl⟩))
    generalize w.alloc (.cells #[.int .i64 4, .int .i64 frm, .int .i64 view, .int .i64 0, .string ⟨#[]⟩, .slice (some a) 1 c] 71) = w1 at hK hb0 ⊢
    obtain ⟨I, f, hI, g0, gk, gc, ge⟩ := class_grown w1
    have x0 := fun s => kept_cell (gk s) (hK.cell (i := 0) rfl)
    have x1 := fun s => kept_cell (gk s) (hK.cell (i := 1) rfl)
    have x2 := fun s => kept_cell (gk s) (hK.cell (i := 2) rfl)
    have x3 := fun s => kept_cell (gk s) (hK.cell (i := 3) rfl)
    have x4 := fun s => kept_cell (gk s) (hK.cell (i := 4) rfl)
    have x5 := fun s => kept_cell (gk s) (hK.cell (i := 5) rfl)
    have y0 := fun s => kept_cell (hb0.trans ((gk s).mono hb0.size)) a0
    have y1 := fun s => kept_cell (hb0.trans ((gk s).mono hb0.size)) a1
    have y2 := fun s => kept_cell (hb0.trans ((gk s).mono hb0.size)) a2
    have CT := Lib.hid (fun s => CRT.out (f s) (hb0.trans ((gk s).mono hb0.size)))
    clear a0 a1 a2
    refine wp_region_kept f (by kernel_rfl) (by kernel_rfl) g0 ?_
    repeat (first
      | go_big_quiet_skip
      | (go_big_quiet_want; go_big_quiet_op; first
          | go_big_quiet_on
          | (apply Exists.intro; refine ⟨fun s => ?_, ?_⟩; (first | (go_at_call 38; (with_reducible refine (CT.out _).mono ?_); rintro e w4 ⟨rfl, hb4⟩; exact ⟨rfl, gc _ _ hb4⟩)); go_big_quiet_on)))
    refine wpQuiet_nil ?_
    intro w5 h5
    have hb5 := ge _ h5
    go_wp2
    go_ret
    exact ⟨rfl, hb0.trans (hb5.mono hb0.size)⟩

  by_cases hk5 : kind = 5
  · subst hk5
    obtain rfl : Z = R3 := by rw [HZ.out, HW.out rfl]
    clear HN HC HW HO HN2 HC2 HZ
    have CHS := Lib.hid (fun W (h : Below w.heap.size w W) => specChanges_any L view A c W f5 (hA.on h))
    rcases Bool.eq_false_or_eq_true (decide (1 ≤ view)) with h3 | h3
    rotate_left
    · rw [h3] at HW2
      obtain rfl : Z = false := by rw [HW2.out]; rfl
      clear HW2
      have hb0 := below_bx w (.cells #[.int .i64 5, .int .i64 frm, .int .i64 view, .int .i64 seq, .string op, .slice A L.length c] 71)
      have hK := Blk.fresh w 71 [.int .i64 5, .int .i64 frm, .int .i64 view, .int .i64 seq, .string op, .slice A L.length c]
      simp only [List.toArray] at hK
      go_enter Try.func43, Try.ntmps43
      go_wp2_with (first | (go_at_call 87; (with_reducible refine (I1.out _).mono ?_); rintro e w1 ⟨rfl, rfl⟩) | (go_at_call 80; (with_reducible refine (I2.out _).mono ?_); rintro e w1 ⟨rfl, rfl⟩))
      generalize w.alloc (.cells #[.int .i64 5, .int .i64 frm, .int .i64 view, .int .i64 seq, .string op, .slice A L.length c] 71) = w1 at hK hb0 ⊢
      obtain ⟨I, f, hI, g0, gk, gc, ge⟩ := class_grown w1
      have x0 := fun s => kept_cell (gk s) (hK.cell (i := 0) rfl)
      have x1 := fun s => kept_cell (gk s) (hK.cell (i := 1) rfl)
      have x2 := fun s => kept_cell (gk s) (hK.cell (i := 2) rfl)
      have x3 := fun s => kept_cell (gk s) (hK.cell (i := 3) rfl)
      have x4 := fun s => kept_cell (gk s) (hK.cell (i := 4) rfl)
      have x5 := fun s => kept_cell (gk s) (hK.cell (i := 5) rfl)
      refine wp_region_kept f (by kernel_rfl) (by kernel_rfl) g0 ?_
      repeat (first
        | go_big_quiet_skip
        | (go_big_quiet_want; go_big_quiet_op; first
            | go_big_quiet_on))
      refine wpQuiet_nil ?_
      intro w5 h5
      have hb5 := ge _ h5
      go_wp2
      go_ret
      exact ⟨rfl, hb0.trans (hb5.mono hb0.size)⟩
    by_cases hl : frm = ld
    rotate_left
    · have e6 : (frm == ld) = false := by simp [hl]
      obtain rfl : Z = false := by rw [HW2.out, decide_eq_false hl]; simp
      clear HW2 hl
      have hb0 := below_bx w (.cells #[.int .i64 5, .int .i64 frm, .int .i64 view, .int .i64 seq, .string op, .slice A L.length c] 71)
      have hK := Blk.fresh w 71 [.int .i64 5, .int .i64 frm, .int .i64 view, .int .i64 seq, .string op, .slice A L.length c]
      simp only [List.toArray] at hK
      go_enter Try.func43, Try.ntmps43
      go_wp2_with (first | (go_at_call 87; (with_reducible refine (I1.out _).mono ?_); rintro e w1 ⟨rfl, rfl⟩) | (go_at_call 80; (with_reducible refine (I2.out _).mono ?_); rintro e w1 ⟨rfl, rfl⟩))
      generalize w.alloc (.cells #[.int .i64 5, .int .i64 frm, .int .i64 view, .int .i64 seq, .string op, .slice A L.length c] 71) = w1 at hK hb0 ⊢
      obtain ⟨I, f, hI, g0, gk, gc, ge⟩ := class_grown w1
      have x0 := fun s => kept_cell (gk s) (hK.cell (i := 0) rfl)
      have x1 := fun s => kept_cell (gk s) (hK.cell (i := 1) rfl)
      have x2 := fun s => kept_cell (gk s) (hK.cell (i := 2) rfl)
      have x3 := fun s => kept_cell (gk s) (hK.cell (i := 3) rfl)
      have x4 := fun s => kept_cell (gk s) (hK.cell (i := 4) rfl)
      have x5 := fun s => kept_cell (gk s) (hK.cell (i := 5) rfl)
      refine wp_region_kept f (by kernel_rfl) (by kernel_rfl) g0 ?_
      repeat (first
        | go_big_quiet_skip
        | (go_big_quiet_want; go_big_quiet_op; first
            | go_big_quiet_on
            | (apply Exists.intro; refine ⟨fun s => ?_, ?_⟩; (first | (go_at_call 93; (with_reducible refine (LD.out _).mono ?_); rintro e w4 ⟨rfl, rfl⟩; exact ⟨rfl, gc _ _ (Below.refl _ _)⟩)); go_big_quiet_on)))
      refine wpQuiet_nil ?_
      intro w5 h5
      have hb5 := ge _ h5
      go_wp2
      go_ret
      exact ⟨rfl, hb0.trans (hb5.mono hb0.size)⟩
    have e6 : (frm == ld) = true := by simp [hl]
    rw [decide_eq_true hl] at HW2
    rcases Bool.eq_false_or_eq_true (decide (seq = 0)) with h4 | h4
    rotate_left
    · have e4 : (seq == 0) = false := by have := of_decide_eq_false h4; simp; exact this
      rw [h3, h4] at HW2
      obtain rfl : Z = false := by rw [HW2.out]; rfl
      clear HW2 hl
      have hb0 := below_bx w (.cells #[.int .i64 5, .int .i64 frm, .int .i64 view, .int .i64 seq, .string op, .slice A L.length c] 71)
      have hK := Blk.fresh w 71 [.int .i64 5, .int .i64 frm, .int .i64 view, .int .i64 seq, .string op, .slice A L.length c]
      simp only [List.toArray] at hK
      go_enter Try.func43, Try.ntmps43
      go_wp2_with (first | (go_at_call 87; (with_reducible refine (I1.out _).mono ?_); rintro e w1 ⟨rfl, rfl⟩) | (go_at_call 80; (with_reducible refine (I2.out _).mono ?_); rintro e w1 ⟨rfl, rfl⟩))
      generalize w.alloc (.cells #[.int .i64 5, .int .i64 frm, .int .i64 view, .int .i64 seq, .string op, .slice A L.length c] 71) = w1 at hK hb0 ⊢
      obtain ⟨I, f, hI, g0, gk, gc, ge⟩ := class_grown w1
      have x0 := fun s => kept_cell (gk s) (hK.cell (i := 0) rfl)
      have x1 := fun s => kept_cell (gk s) (hK.cell (i := 1) rfl)
      have x2 := fun s => kept_cell (gk s) (hK.cell (i := 2) rfl)
      have x3 := fun s => kept_cell (gk s) (hK.cell (i := 3) rfl)
      have x4 := fun s => kept_cell (gk s) (hK.cell (i := 4) rfl)
      have x5 := fun s => kept_cell (gk s) (hK.cell (i := 5) rfl)
      refine wp_region_kept f (by kernel_rfl) (by kernel_rfl) g0 ?_
      repeat (first
        | go_big_quiet_skip
        | (go_big_quiet_want; go_big_quiet_op; first
            | go_big_quiet_on
            | (apply Exists.intro; refine ⟨fun s => ?_, ?_⟩; (first | (go_at_call 93; (with_reducible refine (LD.out _).mono ?_); rintro e w4 ⟨rfl, rfl⟩; exact ⟨rfl, gc _ _ (Below.refl _ _)⟩)); go_big_quiet_on)))
      refine wpQuiet_nil ?_
      intro w5 h5
      have hb5 := ge _ h5
      go_wp2
      go_ret
      exact ⟨rfl, hb0.trans (hb5.mono hb0.size)⟩
    obtain rfl : seq = 0 := of_decide_eq_true h4
    rcases Bool.eq_false_or_eq_true (decide (op.size = 0)) with h5 | h5
    rotate_left
    · have e5 : (op.toList == []) = false := empty_list h5
      rw [h3, h4, h5] at HW2
      obtain rfl : Z = false := by rw [HW2.out]; rfl
      clear HW2 hl
      have hb0 := below_bx w (.cells #[.int .i64 5, .int .i64 frm, .int .i64 view, .int .i64 0, .string op, .slice A L.length c] 71)
      have hK := Blk.fresh w 71 [.int .i64 5, .int .i64 frm, .int .i64 view, .int .i64 0, .string op, .slice A L.length c]
      simp only [List.toArray] at hK
      go_enter Try.func43, Try.ntmps43
      go_wp2_with (first | (go_at_call 87; (with_reducible refine (I1.out _).mono ?_); rintro e w1 ⟨rfl, rfl⟩) | (go_at_call 80; (with_reducible refine (I2.out _).mono ?_); rintro e w1 ⟨rfl, rfl⟩))
      generalize w.alloc (.cells #[.int .i64 5, .int .i64 frm, .int .i64 view, .int .i64 0, .string op, .slice A L.length c] 71) = w1 at hK hb0 ⊢
      obtain ⟨I, f, hI, g0, gk, gc, ge⟩ := class_grown w1
      have x0 := fun s => kept_cell (gk s) (hK.cell (i := 0) rfl)
      have x1 := fun s => kept_cell (gk s) (hK.cell (i := 1) rfl)
      have x2 := fun s => kept_cell (gk s) (hK.cell (i := 2) rfl)
      have x3 := fun s => kept_cell (gk s) (hK.cell (i := 3) rfl)
      have x4 := fun s => kept_cell (gk s) (hK.cell (i := 4) rfl)
      have x5 := fun s => kept_cell (gk s) (hK.cell (i := 5) rfl)
      refine wp_region_kept f (by kernel_rfl) (by kernel_rfl) g0 ?_
      repeat (first
        | go_big_quiet_skip
        | (go_big_quiet_want; go_big_quiet_op; first
            | go_big_quiet_on
            | (apply Exists.intro; refine ⟨fun s => ?_, ?_⟩; (first | (go_at_call 93; (with_reducible refine (LD.out _).mono ?_); rintro e w4 ⟨rfl, rfl⟩; exact ⟨rfl, gc _ _ (Below.refl _ _)⟩)); go_big_quiet_on)))
      refine wpQuiet_nil ?_
      intro w5 h5
      have hb5 := ge _ h5
      go_wp2
      go_ret
      exact ⟨rfl, hb0.trans (hb5.mono hb0.size)⟩
    obtain rfl := empty_eq h5
    rw [h3, h4, h5] at HW2
    obtain rfl : Z = (cr view (-1) L && decide (3 ≤ L.length)) := by rw [HW2.out]; rfl
    clear HW2 hl
    generalize (cr view (-1) L && decide (3 ≤ L.length)) = Z at CHS ⊢
    have hb0 := below_bx w (.cells #[.int .i64 5, .int .i64 frm, .int .i64 view, .int .i64 0, .string ⟨#[]⟩, .slice A L.length c] 71)
    have hK := Blk.fresh w 71 [.int .i64 5, .int .i64 frm, .int .i64 view, .int .i64 0, .string ⟨#[]⟩, .slice A L.length c]
    simp only [List.toArray] at hK
    go_enter Try.func43, Try.ntmps43
    go_wp2_with (first | (go_at_call 87; (with_reducible refine (I1.out _).mono ?_); rintro e w1 ⟨rfl, rfl⟩) | (go_at_call 80; (with_reducible refine (I2.out _).mono ?_); rintro e w1 ⟨rfl, rfl⟩))
    generalize w.alloc (.cells #[.int .i64 5, .int .i64 frm, .int .i64 view, .int .i64 0, .string ⟨#[]⟩, .slice A L.length c] 71) = w1 at hK hb0 ⊢
    obtain ⟨I, f, hI, g0, gk, gc, ge⟩ := class_grown w1
    have x0 := fun s => kept_cell (gk s) (hK.cell (i := 0) rfl)
    have x1 := fun s => kept_cell (gk s) (hK.cell (i := 1) rfl)
    have x2 := fun s => kept_cell (gk s) (hK.cell (i := 2) rfl)
    have x3 := fun s => kept_cell (gk s) (hK.cell (i := 3) rfl)
    have x4 := fun s => kept_cell (gk s) (hK.cell (i := 4) rfl)
    have x5 := fun s => kept_cell (gk s) (hK.cell (i := 5) rfl)
    have CT := Lib.hid (fun s => CHS.out (f s) (hb0.trans ((gk s).mono hb0.size)))
    refine wp_region_kept f (by kernel_rfl) (by kernel_rfl) g0 ?_
    repeat (first
      | go_big_quiet_skip
      | (go_big_quiet_want; go_big_quiet_op; first
          | go_big_quiet_on
          | (apply Exists.intro; refine ⟨fun s => ?_, ?_⟩; (first | (go_at_call 93; (with_reducible refine (LD.out _).mono ?_); rintro e w4 ⟨rfl, rfl⟩; exact ⟨rfl, gc _ _ (Below.refl _ _)⟩) | (go_at_call 94; (with_reducible refine (CT.out _).mono ?_); rintro e w4 ⟨rfl, hb4⟩; exact ⟨rfl, gc _ _ hb4⟩)); go_big_quiet_on)))
    refine wpQuiet_nil ?_
    intro w5 h5
    have hb5 := ge _ h5
    go_wp2
    go_ret
    exact ⟨rfl, hb0.trans (hb5.mono hb0.size)⟩
  obtain rfl : Z = false := by rw [HZ.out, HO.out hk1 hk2 hk3 hk4 hk5]
  have e1 : (kind == 1) = false := by simp; exact hk1
  have e2 : (kind == 2) = false := by simp; exact hk2
  have e3 : (kind == 3) = false := by simp; exact hk3
  have e4 : (kind == 4) = false := by simp; exact hk4
  have e5 : (kind == 5) = false := by simp; exact hk5
  clear HN HC HW HO HN2 HC2 HW2 HZ
  have hb0 := below_bx w (.cells #[.int .i64 kind, .int .i64 frm, .int .i64 view, .int .i64 seq, .string op, .slice A L.length c] 71)
  go_enter Try.func43, Try.ntmps43
  go_wp2_with (first | (go_at_call 87; (with_reducible refine (I1.out _).mono ?_); rintro e w1 ⟨rfl, rfl⟩) | (go_at_call 80; (with_reducible refine (I2.out _).mono ?_); rintro e w1 ⟨rfl, rfl⟩))
  go_ret
  exact ⟨rfl, hb0⟩
end Go.Proofs.Ytjnbhppnchmeoaa
