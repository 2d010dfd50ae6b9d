/- The encoding of a command. The encoding of a broker: plain mathematics. Strings compared, as a walk spells it. The place of a group: plain mathematics. -/
import Derived.Test.YtkimieeabmjfgaaTextW
import Derived.Test.YtkimieeabmjfgaaTpRSW
import Derived.Test.YtkimieeabmjfgaaBrToW
import Derived.Test.YtkimieeabmjfgaaRwkW
import Derived.Lib.Bytealg
namespace Go.Proofs.Ytkimieeabmjfgaa
open Go.RowKit
set_option linter.unusedVariables false

def numS (n : Int) : ByteArray := strOfNums (vint (zig n))
theorem numS_size (n : Int) : (numS n).size = (vint (zig n)).length := strOfNums_size _
def Cmd.zero : Cmd := ⟨0, 0, 0, ⟨#[]⟩, ⟨#[]⟩, ⟨#[]⟩, 0⟩
/-- Its encoding. -/
def Cmd.enc (c : Cmd) : ByteArray := numS c.client ++ numS c.number ++ numS c.kind ++ ptext c.topic ++ ptext c.group ++ ptext c.text ++ numS c.n
/-- CommandBytes. -/
noncomputable def cmdBytes (c : Cmd) : ByteArray := if cmdB c = true then c.enc else ⟨#[]⟩
theorem name_size {s : ByteArray} (h : nameB s = true) : s.size ≤ 20 := by simp [nameB] at h; omega
theorem empty_size {s : ByteArray} (h : emptyB s = true) : s.size = 0 := of_decide_eq_true h
/-- What a right command's fields are bounded by. -/
theorem cmdB_sizes {c : Cmd} (h : cmdB c = true) : (1 ≤ c.client ∧ c.client ≤ 9) ∧ (1 ≤ c.number ∧ c.number ≤ 1000000000) ∧ (1 ≤ c.kind ∧ c.kind ≤ 7) ∧ (0 ≤ c.n ∧ c.n ≤ 1000000000) ∧ c.topic.size ≤ 20 ∧ c.group.size ≤ 20 ∧ c.text.size ≤ 40 := by
  obtain ⟨a, b, k, t, g, x, n⟩ := c
  unfold cmdB at h
  simp only [Bool.and_eq_true] at h
  obtain ⟨h1, h2, h3, h4⟩ := h
  have h3' := name_size h3
  simp only [inB, Bool.and_eq_true, decide_eq_true_eq] at h1 h2
  unfold kindB at h4
  simp only
  split at h4
  · simp only [Bool.and_eq_true, decide_eq_true_eq] at h4
    have e1 := empty_size h4.1
    have e2 := empty_size h4.2.1
    omega
  split at h4
  · simp only [Bool.and_eq_true, decide_eq_true_eq, inB] at h4
    have e1 := empty_size h4.1
    omega
  split at h4
  · simp only [Bool.and_eq_true, decide_eq_true_eq, inB] at h4
    have e1 := name_size h4.1
    have e2 := empty_size h4.2.1
    omega
  split at h4
  · simp only [Bool.and_eq_true, decide_eq_true_eq, inB] at h4
    have e1 := empty_size h4.1
    have e2 := empty_size h4.2.1
    omega
  · cases h4
theorem numS_le {n : Int} (h0 : -9223372036854775808 ≤ n) (h1 : n ≤ 9223372036854775807) : (numS n).size ≤ 10 := by
  rw [numS_size]; exact vint_len10 _ (zig_lt h0 h1)
theorem ptext_le {t : ByteArray} (h : t.size ≤ 1048576) : (ptext t).size ≤ t.size + 10 := by
  have := vint_size t h
  unfold ptext
  rw [ByteArray.size_append]
  omega
end Go.Proofs.Ytkimieeabmjfgaa

namespace Go.Proofs.Ytkimieeabmjfgaa
open Go.RowKit
set_option linter.unusedVariables false
set_option maxRecDepth 1000000

/-- Strings one behind the other. -/
def cat {α : Type} (f : α → ByteArray) : List α → ByteArray
  | [] => ⟨#[]⟩
  | a :: L => f a ++ cat f L
theorem nil_app (s : ByteArray) : (⟨#[]⟩ : ByteArray) ++ s = s := by apply ByteArray.ext; simp
theorem app_nil (s : ByteArray) : s ++ (⟨#[]⟩ : ByteArray) = s := by apply ByteArray.ext; simp
theorem app_assoc (a b c : ByteArray) : a ++ b ++ c = a ++ (b ++ c) := by apply ByteArray.ext; simp
theorem cat_snoc {α : Type} (f : α → ByteArray) (L : List α) (a : α) : cat f (L ++ [a]) = cat f L ++ f a := by
  induction L with
  | nil => show f a ++ ⟨#[]⟩ = ⟨#[]⟩ ++ f a; rw [app_nil, nil_app]
  | cons b L ih => show f b ++ cat f (L ++ [a]) = f b ++ cat f L ++ f a; rw [ih, app_assoc]
theorem cat_next {α : Type} (f : α → ByteArray) (L : List α) {k : Nat} (h : k < L.length) (e : ByteArray) : e ++ cat f (L.take (k + 1)) = e ++ cat f (L.take k) ++ f L[k] := by
  rw [List.take_succ_eq_append_getElem h, cat_snoc, app_assoc]
theorem cat_zero {α : Type} (f : α → ByteArray) (L : List α) (e : ByteArray) : e ++ cat f (L.take 0) = e := by
  rw [List.take_zero]; exact app_nil e
theorem cat_all {α : Type} (f : α → ByteArray) (L : List α) : cat f (L.take L.length) = cat f L := by rw [List.take_of_length_le (Nat.le_refl _)]
theorem cat_le {α : Type} (f : α → ByteArray) (m : Nat) : ∀ (L : List α), (∀ i (h : i < L.length), (f L[i]).size ≤ m) → (cat f L).size ≤ L.length * m
  | [], _ => Nat.zero_le _
  | a :: L, h => by
    have h0 := h 0 (by simp)
    have h1 := cat_le f m L (fun i hi => h (i + 1) (by simpa using hi))
    show (f a ++ cat f L).size ≤ _
    rw [ByteArray.size_append, List.length_cons, Nat.succ_mul]
    simp only [List.getElem_cons_zero] at h0
    omega
def grpE (g : Grp) : ByteArray := ptext g.name ++ numS g.acked
def repE (r : Rep) : ByteArray := numS r.client ++ numS r.number ++ ptext r.text
def topE (t : Tpc) : ByteArray := ptext t.name ++ numS t.base ++ numS t.held.length ++ cat ptext t.held ++ numS t.groups.length ++ cat grpE t.groups
/-- The encoding of a broker. -/
def broE (b : Bro) : ByteArray := numS b.topics.length ++ cat topE b.topics ++ numS b.replies.length ++ cat repE b.replies
/-- BrokerBytes. -/
noncomputable def broBytes (b : Bro) : ByteArray := if broB b = true then broE b else ⟨#[]⟩
/-- What a right topic's parts are bounded by. -/
structure TopSz (t : Tpc) : Prop where
  name : t.name.size ≤ 20
  base : 0 ≤ t.base ∧ t.base ≤ 1000000000
  heldn : t.held.length ≤ 20
  held : ∀ i (h : i < t.held.length), t.held[i].size ≤ 40
  groupsn : t.groups.length ≤ 4
  group : ∀ i (h : i < t.groups.length), t.groups[i].name.size ≤ 20 ∧ 0 ≤ t.groups[i].acked ∧ t.groups[i].acked ≤ 1000000000
theorem topSz {t : Tpc} (h : topOK t) : TopSz t := by
  obtain ⟨h1, h2, h3, h4, h5, h6, h7⟩ := h
  have b := inB_true h2
  refine ⟨name_size h1, b, h3, fun i hi => ?_, h5, fun i hi => ?_⟩
  · have := inB_true (h4 i hi); omega
  · obtain ⟨q1, q2, _⟩ := h7 i hi
    have := inB_true q2
    exact ⟨name_size q1, by omega, by omega⟩
structure RepSz (r : Rep) : Prop where
  client : 0 ≤ r.client ∧ r.client ≤ 9
  number : 0 ≤ r.number ∧ r.number ≤ 1000000000
  text : r.text.size ≤ 900
theorem repSz {r : Rep} (h : repB r = true) : RepSz r := by
  obtain ⟨h1, h2, h3⟩ := repB_iff.1 h
  have b1 := inB_true h1
  have b2 := inB_true h2
  exact ⟨by omega, by omega, h3⟩
theorem numS10 {n : Int} (h0 : 0 ≤ n) (h1 : n ≤ 1000000000) : (numS n).size ≤ 10 := numS_le (by omega) (by omega)
theorem grpE_le {g : Grp} (h : g.name.size ≤ 20 ∧ 0 ≤ g.acked ∧ g.acked ≤ 1000000000) : (grpE g).size ≤ 40 := by
  have h1 := ptext_le (t := g.name) (by omega)
  have h2 := numS10 h.2.1 h.2.2
  unfold grpE; rw [ByteArray.size_append]; omega
theorem repE_le {r : Rep} (h : RepSz r) : (repE r).size ≤ 930 := by
  have h1 := ptext_le (t := r.text) (by have := h.text; omega)
  have h2 := numS10 (n := r.client) h.client.1 (by have := h.client; omega)
  have h3 := numS10 h.number.1 h.number.2
  have := h.text
  unfold repE; rw [ByteArray.size_append, ByteArray.size_append]; omega
theorem topE_le {t : Tpc} (h : TopSz t) : (topE t).size ≤ 1220 := by
  have h1 := ptext_le (t := t.name) (by have := h.name; omega)
  have h2 := numS10 h.base.1 h.base.2
  have h3 := numS10 (n := (t.held.length : Int)) (by omega) (by have := h.heldn; omega)
  have h4 := numS10 (n := (t.groups.length : Int)) (by omega) (by have := h.groupsn; omega)
  have h5 := cat_le ptext 50 t.held (fun i hi => by have := h.held i hi; have := ptext_le (t := t.held[i]) (by omega); omega)
  have h6 := cat_le grpE 40 t.groups (fun i hi => grpE_le (h.group i hi))
  have h7 := h.heldn
  have h8 := h.groupsn
  have h9 := h.name
  unfold topE; simp only [ByteArray.size_append]; omega
/-- The parts of a topic's encoding. -/
theorem topE_eq (nm : ByteArray) (bs : Int) (H : List ByteArray) (G : List Grp) : topE ⟨nm, bs, H, G⟩ = ptext nm ++ numS bs ++ numS H.length ++ cat ptext H ++ numS G.length ++ cat grpE G := rfl
end Go.Proofs.Ytkimieeabmjfgaa

namespace Go.Proofs.Ytkimieeabmjfgaa
open Go.RowKit
set_option linter.unusedVariables false

theorem str_beq_t {a b : ByteArray} (h : a = b) : (a.toList == b.toList) = true := by rw [h]; simp
theorem str_beq_f {a b : ByteArray} (h : ¬ a = b) : (a.toList == b.toList) = false := by
  rw [beq_eq_false_iff_ne]; intro e; rw [Lib.toList_data, Lib.toList_data] at e; exact h (ByteArray.ext (Array.toList_inj.1 e))
theorem str_bne_f {a b : ByteArray} (h : a = b) : (a.toList != b.toList) = false := by rw [bne, str_beq_t h]; rfl
theorem str_bne_t {a b : ByteArray} (h : ¬ a = b) : (a.toList != b.toList) = true := by rw [bne, str_beq_f h]; rfl
end Go.Proofs.Ytkimieeabmjfgaa

namespace Go.Proofs.Ytkimieeabmjfgaa
open Go.RowKit
set_option linter.unusedVariables false

theorem gless_iff : ∀ x y : List UInt8, Op.bytesLess x y = true ↔ x < y
  | [], [] => by simp [Op.bytesLess]
  | [], _ :: _ => by simp [Op.bytesLess]
  | _ :: _, [] => by simp [Op.bytesLess]
  | a :: x, b :: y => by
    rw [Op.bytesLess, List.cons_lt_cons_iff]
    have := gless_iff x y
    simp only [Bool.or_eq_true, decide_eq_true_eq, Bool.and_eq_true, beq_iff_eq, this]
theorem lessG_iff (a b : ByteArray) : lessB a b = true ↔ a.data.toList < b.data.toList := by
  unfold lessB; rw [gless_iff, Lib.toList_data, Lib.toList_data]
theorem lessG_trans {a b c : ByteArray} (h1 : lessB a b = true) (h2 : lessB b c = true) : lessB a c = true := by
  rw [lessG_iff] at *; exact List.lt_trans h1 h2
theorem lessG_irrefl (a : ByteArray) : lessB a a = false := by
  cases h : lessB a a
  · rfl
  · rw [lessG_iff] at h; exact absurd h (List.lt_irrefl _)
theorem u8_tri {a b : UInt8} (h1 : ¬ a < b) (h2 : ¬ b < a) : a = b := by
  rw [UInt8.lt_iff_toNat_lt] at h1 h2
  exact UInt8.toNat_inj.1 (by omega)
theorem comp_neg : ∀ x y : List UInt8, Lib.compareBytes x y < 0 ↔ x < y
  | [], [] => by simp [Lib.compareBytes]
  | [], _ :: _ => by simp [Lib.compareBytes]
  | _ :: _, [] => by simp [Lib.compareBytes]
  | a :: x, b :: y => by
    unfold Lib.compareBytes
    rw [List.cons_lt_cons_iff]
    have ih := comp_neg x y
    by_cases h : a < b
    · simp [h]
    · by_cases h2 : b < a
      · have hne : a ≠ b := by rintro rfl; exact h h2
        simp [h, h2, hne]
      · have e := u8_tri h h2
        subst e
        simp [h, ih]
theorem comp_zero : ∀ x y : List UInt8, Lib.compareBytes x y = 0 ↔ x = y
  | [], [] => by simp [Lib.compareBytes]
  | [], _ :: _ => by simp [Lib.compareBytes]
  | _ :: _, [] => by simp [Lib.compareBytes]
  | a :: x, b :: y => by
    unfold Lib.compareBytes
    have ih := comp_zero x y
    by_cases h : a < b
    · have hne : a ≠ b := by rintro rfl; exact absurd h (UInt8.lt_irrefl _)
      simp [h, hne]
    · by_cases h2 : b < a
      · have hne : a ≠ b := by rintro rfl; exact h h2
        simp [h, h2, hne]
      · have e := u8_tri h h2
        subst e
        simp [h, ih]
/-- How the program compares two names. -/
def cmpG (a b : ByteArray) : Int := Lib.compareBytes a.data.toList b.data.toList
theorem cmpG_neg (a b : ByteArray) : cmpG a b < 0 ↔ lessB a b = true := by unfold cmpG; rw [comp_neg, lessG_iff]
theorem cmpG_zero (a b : ByteArray) : cmpG a b = 0 ↔ a = b := by
  unfold cmpG; rw [comp_zero]
  exact ⟨fun h => ByteArray.ext (Array.toList_inj.1 h), fun h => by rw [h]⟩
theorem comp_rng : ∀ x y : List UInt8, -1 ≤ Lib.compareBytes x y ∧ Lib.compareBytes x y ≤ 1
  | [], [] => by simp [Lib.compareBytes]
  | [], _ :: _ => by simp [Lib.compareBytes]
  | _ :: _, [] => by simp [Lib.compareBytes]
  | a :: x, b :: y => by
    unfold Lib.compareBytes
    have ih := comp_rng x y
    split
    · simp
    · split
      · simp
      · exact ih
theorem cmpG_rng (a b : ByteArray) : -1 ≤ cmpG a b ∧ cmpG a b ≤ 1 := comp_rng _ _
/-- Groups that rise by name. -/
def RisingG (G : List Grp) : Prop := ∀ i j (hi : i < j) (hj : j < G.length), lessB (G[i]'(by omega)).name G[j].name = true
theorem rising_of {t : Tpc} (h : topOK t) : RisingG t.groups := by
  have step : ∀ i (hi : i + 1 < t.groups.length), lessB (t.groups[i]'(by omega)).name t.groups[i + 1].name = true := fun i hi => (h.2.2.2.2.2.2 (i + 1) hi).2.2 (by omega)
  intro i j hij hj
  induction j with
  | zero => omega
  | succ j ih =>
    by_cases e : i = j
    · subst e; exact step i hj
    · exact lessG_trans (ih (by omega) (by omega)) (step j hj)
/-- Where a group is, or would have to be. -/
def posG : List Grp → ByteArray → Nat
  | [], _ => 0
  | g :: G, s => if lessB g.name s then posG G s + 1 else 0
theorem posG_le : ∀ (G : List Grp) (s : ByteArray), posG G s ≤ G.length
  | [], _ => Nat.le_refl _
  | g :: G, s => by unfold posG; have := posG_le G s; split <;> simp <;> omega
theorem posG_lt : ∀ (G : List Grp) (s : ByteArray) (i : Nat) (h : i < G.length), i < posG G s → lessB G[i].name s = true
  | [], _, i, h, _ => by simp at h
  | g :: G, s, i, h, hi => by
    unfold posG at hi
    split at hi
    · cases i with
      | zero => assumption
      | succ i => exact posG_lt G s i (by simpa using h) (by omega)
    · omega
theorem posG_at : ∀ (G : List Grp) (s : ByteArray) (h : posG G s < G.length), lessB (G[posG G s]).name s = false
  | [], _, h => by simp at h
  | g :: G, s, h => by
    by_cases hl : lessB g.name s = true
    · have e : posG (g :: G) s = posG G s + 1 := by simp [posG, hl]
      simp only [e, List.getElem_cons_succ]
      exact posG_at G s (by rw [e] at h; simpa using h)
    · have e : posG (g :: G) s = 0 := by simp [posG, hl]
      simp only [e, List.getElem_cons_zero]
      simpa using hl
/-- The place is found by halves. -/
theorem posG_iff {G : List Grp} {s : ByteArray} (hr : RisingG G) {i : Nat} (h : i < G.length) : lessB G[i].name s = true ↔ i < posG G s := by
  refine ⟨fun hl => ?_, posG_lt G s i h⟩
  rcases Nat.lt_or_ge i (posG G s) with h1 | h1
  · exact h1
  · have h2 := posG_at G s (by omega)
    rcases Nat.eq_or_lt_of_le h1 with e | h3
    · simp only [e] at h2; rw [hl] at h2; cases h2
    · have := lessG_trans (hr _ _ h3 h) hl
      rw [this] at h2; cases h2
/-- Whether a group is there. -/
noncomputable def isG (G : List Grp) (s : ByteArray) : Bool := @decide (∃ h : posG G s < G.length, (G[posG G s]).name = s) (Classical.propDecidable _)
theorem isG_iff {G : List Grp} {s : ByteArray} : isG G s = true ↔ ∃ h : posG G s < G.length, (G[posG G s]).name = s :=
  ⟨fun h => by unfold isG at h; exact @of_decide_eq_true _ (Classical.propDecidable _) h, fun h => by unfold isG; exact @decide_eq_true _ (Classical.propDecidable _) h⟩
theorem isG_not {G : List Grp} {s : ByteArray} (h : ¬ ∃ h : posG G s < G.length, (G[posG G s]).name = s) : isG G s = false := by
  unfold isG; exact @decide_eq_false _ (Classical.propDecidable _) h
theorem isG_at {G : List Grp} {s : ByteArray} (hr : RisingG G) {i : Nat} (h : i < G.length) (e : G[i].name = s) : i = posG G s ∧ isG G s = true := by
  have hi : ¬ i < posG G s := fun hl => by have := posG_lt G s i h hl; rw [e, lessG_irrefl] at this; cases this
  have hp : ¬ posG G s < i := fun hl => by
    have h2 := hr _ _ hl h
    rw [e] at h2
    rw [posG_at G s (by omega)] at h2; cases h2
  obtain rfl : i = posG G s := by omega
  exact ⟨rfl, isG_iff.2 ⟨h, e⟩⟩
/-- TopicLag. -/
noncomputable def lagT (t : Tpc) (s : ByteArray) : Int :=
  if topB t = false then 0 else if isG t.groups s = false then 0 else t.base + t.held.length - (t.groups.getD (posG t.groups s) zeroGrp).acked
end Go.Proofs.Ytkimieeabmjfgaa
