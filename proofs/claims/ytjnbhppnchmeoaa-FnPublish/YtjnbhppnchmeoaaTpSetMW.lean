/- Strings compared, as a walk spells it. The place of a group: plain mathematics. The groups of a topic with one among them. What TopicAck, TopicSeek and TopicFetch answer. -/
import Derived.Test.YtjnbhppnchmeoaaDrawW
import Derived.Test.YtjnbhppnchmeoaaTpWkW
import Derived.Lib.Bytealg
import Derived.Test.YtjnbhppnchmeoaaTpOpFW
namespace Go.Proofs.Ytjnbhppnchmeoaa
open Go.RowKit
set_option linter.unusedVariables false

theorem str_beq_t {a b : ByteArray} (h : a = b) : (a.toList == b.toList) = true := by rw [h]; simp
theorem str_beq_f {a b : ByteArray} (h : ¬ a = b) : (a.toList == b.toList) = false := by
  rw [beq_eq_false_iff_ne]; intro e; rw [Lib.toList_data, Lib.toList_data] at e; exact h (ByteArray.ext (Array.toList_inj.1 e))
theorem str_bne_f {a b : ByteArray} (h : a = b) : (a.toList != b.toList) = false := by rw [bne, str_beq_t h]; rfl
theorem str_bne_t {a b : ByteArray} (h : ¬ a = b) : (a.toList != b.toList) = true := by rw [bne, str_beq_f h]; rfl
end Go.Proofs.Ytjnbhppnchmeoaa

namespace Go.Proofs.Ytjnbhppnchmeoaa
open Go.RowKit
set_option linter.unusedVariables false

theorem gless_iff : ∀ x y : List UInt8, Op.bytesLess x y = true ↔ x < y
  | [], [] => by simp [Op.bytesLess]
  | [], _ :: _ => by simp [Op.bytesLess]
  | _ :: _, [] => by simp [Op.bytesLess]
  | a :: x, b :: y => by
    rw [Op.bytesLess, List.cons_lt_cons_iff]
    have := gless_iff x y
    simp only [Bool.or_eq_true, decide_eq_true_eq, Bool.and_eq_true, beq_iff_eq, this]
theorem lessG_iff (a b : ByteArray) : lessB a b = true ↔ a.data.toList < b.data.toList := by
  unfold lessB; rw [gless_iff, Lib.toList_data, Lib.toList_data]
theorem lessG_trans {a b c : ByteArray} (h1 : lessB a b = true) (h2 : lessB b c = true) : lessB a c = true := by
  rw [lessG_iff] at *; exact List.lt_trans h1 h2
theorem lessG_irrefl (a : ByteArray) : lessB a a = false := by
  cases h : lessB a a
  · rfl
  · rw [lessG_iff] at h; exact absurd h (List.lt_irrefl _)
theorem u8_tri {a b : UInt8} (h1 : ¬ a < b) (h2 : ¬ b < a) : a = b := by
  rw [UInt8.lt_iff_toNat_lt] at h1 h2
  exact UInt8.toNat_inj.1 (by omega)
theorem comp_neg : ∀ x y : List UInt8, Lib.compareBytes x y < 0 ↔ x < y
  | [], [] => by simp [Lib.compareBytes]
  | [], _ :: _ => by simp [Lib.compareBytes]
  | _ :: _, [] => by simp [Lib.compareBytes]
  | a :: x, b :: y => by
    unfold Lib.compareBytes
    rw [List.cons_lt_cons_iff]
    have ih := comp_neg x y
    by_cases h : a < b
    · simp [h]
    · by_cases h2 : b < a
      · have hne : a ≠ b := by rintro rfl; exact h h2
        simp [h, h2, hne]
      · have e := u8_tri h h2
        subst e
        simp [h, ih]
theorem comp_zero : ∀ x y : List UInt8, Lib.compareBytes x y = 0 ↔ x = y
  | [], [] => by simp [Lib.compareBytes]
  | [], _ :: _ => by simp [Lib.compareBytes]
  | _ :: _, [] => by simp [Lib.compareBytes]
  | a :: x, b :: y => by
    unfold Lib.compareBytes
    have ih := comp_zero x y
    by_cases h : a < b
    · have hne : a ≠ b := by rintro rfl; exact absurd h (UInt8.lt_irrefl _)
      simp [h, hne]
    · by_cases h2 : b < a
      · have hne : a ≠ b := by rintro rfl; exact h h2
        simp [h, h2, hne]
      · have e := u8_tri h h2
        subst e
        simp [h, ih]
/-- How the program compares two names. -/
def cmpG (a b : ByteArray) : Int := Lib.compareBytes a.data.toList b.data.toList
theorem cmpG_neg (a b : ByteArray) : cmpG a b < 0 ↔ lessB a b = true := by unfold cmpG; rw [comp_neg, lessG_iff]
theorem cmpG_zero (a b : ByteArray) : cmpG a b = 0 ↔ a = b := by
  unfold cmpG; rw [comp_zero]
  exact ⟨fun h => ByteArray.ext (Array.toList_inj.1 h), fun h => by rw [h]⟩
theorem comp_rng : ∀ x y : List UInt8, -1 ≤ Lib.compareBytes x y ∧ Lib.compareBytes x y ≤ 1
  | [], [] => by simp [Lib.compareBytes]
  | [], _ :: _ => by simp [Lib.compareBytes]
  | _ :: _, [] => by simp [Lib.compareBytes]
  | a :: x, b :: y => by
    unfold Lib.compareBytes
    have ih := comp_rng x y
    split
    · simp
    · split
      · simp
      · exact ih
theorem cmpG_rng (a b : ByteArray) : -1 ≤ cmpG a b ∧ cmpG a b ≤ 1 := comp_rng _ _
/-- Groups that rise by name. -/
def RisingG (G : List Grp) : Prop := ∀ i j (hi : i < j) (hj : j < G.length), lessB (G[i]'(by omega)).name G[j].name = true
theorem rising_of {t : Tpc} (h : topOK t) : RisingG t.groups := by
  have step : ∀ i (hi : i + 1 < t.groups.length), lessB (t.groups[i]'(by omega)).name t.groups[i + 1].name = true := fun i hi => (h.2.2.2.2.2.2 (i + 1) hi).2.2 (by omega)
  intro i j hij hj
  induction j with
  | zero => omega
  | succ j ih =>
    by_cases e : i = j
    · subst e; exact step i hj
    · exact lessG_trans (ih (by omega) (by omega)) (step j hj)
/-- Where a group is, or would have to be. -/
def posG : List Grp → ByteArray → Nat
  | [], _ => 0
  | g :: G, s => if lessB g.name s then posG G s + 1 else 0
theorem posG_le : ∀ (G : List Grp) (s : ByteArray), posG G s ≤ G.length
  | [], _ => Nat.le_refl _
  | g :: G, s => by unfold posG; have := posG_le G s; split <;> simp <;> omega
theorem posG_lt : ∀ (G : List Grp) (s : ByteArray) (i : Nat) (h : i < G.length), i < posG G s → lessB G[i].name s = true
  | [], _, i, h, _ => by simp at h
  | g :: G, s, i, h, hi => by
    unfold posG at hi
    split at hi
    · cases i with
      | zero => assumption
      | succ i => exact posG_lt G s i (by simpa using h) (by omega)
    · omega
theorem posG_at : ∀ (G : List Grp) (s : ByteArray) (h : posG G s < G.length), lessB (G[posG G s]).name s = false
  | [], _, h => by simp at h
  | g :: G, s, h => by
    by_cases hl : lessB g.name s = true
    · have e : posG (g :: G) s = posG G s + 1 := by simp [posG, hl]
      simp only [e, List.getElem_cons_succ]
      exact posG_at G s (by rw [e] at h; simpa using h)
    · have e : posG (g :: G) s = 0 := by simp [posG, hl]
      simp only [e, List.getElem_cons_zero]
      simpa using hl
/-- The place is found by halves. -/
theorem posG_iff {G : List Grp} {s : ByteArray} (hr : RisingG G) {i : Nat} (h : i < G.length) : lessB G[i].name s = true ↔ i < posG G s := by
  refine ⟨fun hl => ?_, posG_lt G s i h⟩
  rcases Nat.lt_or_ge i (posG G s) with h1 | h1
  · exact h1
  · have h2 := posG_at G s (by omega)
    rcases Nat.eq_or_lt_of_le h1 with e | h3
    · simp only [e] at h2; rw [hl] at h2; cases h2
    · have := lessG_trans (hr _ _ h3 h) hl
      rw [this] at h2; cases h2
/-- Whether a group is there. -/
noncomputable def isG (G : List Grp) (s : ByteArray) : Bool := @decide (∃ h : posG G s < G.length, (G[posG G s]).name = s) (Classical.propDecidable _)
theorem isG_iff {G : List Grp} {s : ByteArray} : isG G s = true ↔ ∃ h : posG G s < G.length, (G[posG G s]).name = s :=
  ⟨fun h => by unfold isG at h; exact @of_decide_eq_true _ (Classical.propDecidable _) h, fun h => by unfold isG; exact @decide_eq_true _ (Classical.propDecidable _) h⟩
theorem isG_not {G : List Grp} {s : ByteArray} (h : ¬ ∃ h : posG G s < G.length, (G[posG G s]).name = s) : isG G s = false := by
  unfold isG; exact @decide_eq_false _ (Classical.propDecidable _) h
theorem isG_at {G : List Grp} {s : ByteArray} (hr : RisingG G) {i : Nat} (h : i < G.length) (e : G[i].name = s) : i = posG G s ∧ isG G s = true := by
  have hi : ¬ i < posG G s := fun hl => by have := posG_lt G s i h hl; rw [e, lessG_irrefl] at this; cases this
  have hp : ¬ posG G s < i := fun hl => by
    have h2 := hr _ _ hl h
    rw [e] at h2
    rw [posG_at G s (by omega)] at h2; cases h2
  obtain rfl : i = posG G s := by omega
  exact ⟨rfl, isG_iff.2 ⟨h, e⟩⟩
/-- TopicLag. -/
noncomputable def lagT (t : Tpc) (s : ByteArray) : Int :=
  if topB t = false then 0 else if isG t.groups s = false then 0 else t.base + t.held.length - (t.groups.getD (posG t.groups s) zeroGrp).acked
end Go.Proofs.Ytjnbhppnchmeoaa

namespace Go.Proofs.Ytjnbhppnchmeoaa
open Go.RowKit
set_option linter.unusedVariables false
/-- The groups with one more, in its place. -/
def insG (t : Tpc) (s : ByteArray) : List Grp := t.groups.take (posG t.groups s) ++ [⟨s, t.base⟩] ++ t.groups.drop (posG t.groups s)
/-- The groups with this one among them. -/
noncomputable def hasG (t : Tpc) (s : ByteArray) : List Grp := if isG t.groups s = true then t.groups else insG t s
end Go.Proofs.Ytjnbhppnchmeoaa

namespace Go.Proofs.Ytjnbhppnchmeoaa
open Go.RowKit
set_option linter.unusedVariables false
/-- The code that begins a group's operation. -/
noncomputable def begC (t : Tpc) (g : ByteArray) (ok : Bool) : Int :=
  if 20000 < g.size then 2 else if (topB t && (nameB g && ok)) = false then 1 else if isG t.groups g = false ∧ 4 ≤ t.groups.length then 9 else 0
theorem beg_long {t : Tpc} {g : ByteArray} {ok : Bool} (h : 20000 < g.size) : begC t g ok = 2 := by unfold begC; rw [if_pos h]
theorem beg_form {t : Tpc} {g : ByteArray} {ok : Bool} (h : ¬ 20000 < g.size) (h2 : (topB t && (nameB g && ok)) = false) : begC t g ok = 1 := by unfold begC; rw [if_neg h, if_pos h2]
theorem beg_full {t : Tpc} {g : ByteArray} {ok : Bool} (h : ¬ 20000 < g.size) (h2 : ¬ (topB t && (nameB g && ok)) = false) (h3 : isG t.groups g = false ∧ 4 ≤ t.groups.length) : begC t g ok = 9 := by unfold begC; rw [if_neg h, if_neg h2, if_pos h3]
theorem beg_ok {t : Tpc} {g : ByteArray} {ok : Bool} (h : ¬ 20000 < g.size) (h2 : ¬ (topB t && (nameB g && ok)) = false) (h3 : ¬ (isG t.groups g = false ∧ 4 ≤ t.groups.length)) : begC t g ok = 0 := by unfold begC; rw [if_neg h, if_neg h2, if_neg h3]
theorem beg_top {t : Tpc} {g : ByteArray} {ok : Bool} (h : begC t g ok = 0) : topOK t := by
  unfold begC at h
  split at h
  · exact absurd h (by decide)
  · split at h
    · exact absurd h (by decide)
    · rename_i h2
      refine topB_iff.1 ?_
      cases ht : topB t with
      | true => rfl
      | false => rw [ht] at h2; exact absurd rfl h2
theorem hasG_lt (t : Tpc) (s : ByteArray) : posG t.groups s < (hasG t s).length := by
  have hp := posG_le t.groups s
  unfold hasG
  split
  · next h => exact (isG_iff.1 h).1
  · unfold insG; simp; omega
theorem hasG_len (t : Tpc) (s : ByteArray) : (hasG t s).length ≤ t.groups.length + 1 := by
  have hp := posG_le t.groups s
  unfold hasG
  split
  · omega
  · unfold insG; simp; omega
/-- What an operation of a group answers. -/
noncomputable def forR (t : Tpc) (g : ByteArray) (ok : Bool) (R : Ans) : Ans := if begC t g ok = 0 then R else ill (begC t g ok)
noncomputable abbrev withG (t : Tpc) (g : ByteArray) : Tpc := ⟨t.name, t.base, t.held, hasG t g⟩
/-- What TopicAck and TopicSeek answer. -/
noncomputable def setT (t : Tpc) (gn : ByteArray) (n : Int) (back : Bool) : Ans :=
  forR t gn true (moveA ⟨t.name, t.base, t.held, hasG t gn⟩ (posG t.groups gn) n (inB n (if back = true then t.base else ((hasG t gn).getD (posG t.groups gn) zeroGrp).acked) (t.base + t.held.length)))
theorem setT_ok {t : Tpc} {gn : ByteArray} {n : Int} {back : Bool} (h : begC t gn true = 0) : setT t gn n back = moveA ⟨t.name, t.base, t.held, hasG t gn⟩ (posG t.groups gn) n (inB n (if back = true then t.base else ((hasG t gn).getD (posG t.groups gn) zeroGrp).acked) (t.base + t.held.length)) := by
  unfold setT forR; rw [if_pos h]
theorem setT_ill {t : Tpc} {gn : ByteArray} {n : Int} {back : Bool} (h : ¬ begC t gn true = 0) : setT t gn n back = ill (begC t gn true) := by
  unfold setT forR; rw [if_neg h]
/-- What TopicFetch answers. -/
noncomputable def fetT (t : Tpc) (gn : ByteArray) (n : Int) : Ans := forR t gn (inB n 0 20) (fetchA ⟨t.name, t.base, t.held, hasG t gn⟩ (posG t.groups gn) n)
end Go.Proofs.Ytjnbhppnchmeoaa
