/- Contracts of PutText: spec and impl answer the same string. The encoding of a command. Strings one behind the other; numbers of no great size. The encoding of proofs, changes, says: plain mathematics. -/
import Derived.Test.YtjnbhppnchmeoaaCloneW
import Derived.Test.YtjnbhppnchmeoaaSySRW
import Derived.Test.YtjnbhppnchmeoaaSyPRW
namespace Go.Proofs.Ytjnbhppnchmeoaa
open Go.RowKit
set_option linter.unusedVariables false

def ptext (t : ByteArray) : ByteArray := strOfNums (vint (zig t.size)) ++ t
theorem vint_size (t : ByteArray) (h : t.size ≤ 1048576) : (strOfNums (vint (zig t.size))).size ≤ 10 := by
  rw [strOfNums_size]; exact vint_len10 _ (zig_lt (by omega) (by omega))

set_option maxHeartbeats 1000000 in
theorem specPutText_any (t : ByteArray) (w : World) (h : t.size ≤ 20000) :
    Calls Try.prog 123 #[.string t] w fun e w' => e = .returned (.string (ptext t)) ∧ Below w.heap.size w w' := by
  have HV := Lib.hid (fun w => specPutNum_any t.size w (by omega) (by omega))
  have hv := vint_size t (by omega)
  obtain ⟨s, HE⟩ : ∃ s, Hid (strOfNums (vint (zig t.size)) = s) := ⟨_, rfl⟩
  rw [HE.out] at HV hv
  go_enter Try.func123, Try.ntmps123
  go_wp2_with (go_at_call 122; refine (HV.out _).mono ?_; rintro e w1 ⟨rfl, hb1⟩)
  go_ret
  exact ⟨retS (by unfold ptext; rw [HE.out]), hb1⟩

set_option maxHeartbeats 1000000 in
theorem specPutText_out (t : ByteArray) (w : World) (hs : t.size ≤ maxLen) (h : 20000 < t.size) :
    Calls Try.prog 123 #[.string t] w fun e w' => e = .returned (.string ⟨#[]⟩) ∧ Below w.heap.size w w' := by
  unfold maxLen at hs
  go_enter Try.func123, Try.ntmps123
  go_wp2
  go_ret
  exact ⟨rfl, Below.refl _ _⟩

set_option maxHeartbeats 1000000 in
theorem implPutText_any (t : ByteArray) (w : World) (h : t.size ≤ 20000) :
    Calls Try.prog 103 #[.string t] w fun e w' => e = .returned (.string (ptext t)) ∧ Below w.heap.size w w' := by
  have HV := Lib.hid (fun w => implPutNum_any t.size w (by omega) (by omega))
  have hv := vint_size t (by omega)
  obtain ⟨s, HE⟩ : ∃ s, Hid (strOfNums (vint (zig t.size)) = s) := ⟨_, rfl⟩
  rw [HE.out] at HV hv
  go_enter Try.func103, Try.ntmps103
  go_wp2_with (first
    | (go_at_call 53; go_in)
    | (go_at_call 102; refine (HV.out _).mono ?_; rintro e w1 ⟨rfl, hb1⟩)
    | (go_at_call 126; refine (joined_any _ _ _ (by omega)).mono ?_; rintro e w2 ⟨rfl, hb2⟩))
  go_ret
  exact ⟨retS (by unfold ptext; rw [HE.out]), hb1.trans (hb2.mono hb1.size)⟩

set_option maxHeartbeats 1000000 in
theorem implPutText_out (t : ByteArray) (w : World) (hs : t.size ≤ maxLen) (h : 20000 < t.size) :
    Calls Try.prog 103 #[.string t] w fun e w' => e = .returned (.string ⟨#[]⟩) ∧ Below w.heap.size w w' := by
  unfold maxLen at hs
  go_enter Try.func103, Try.ntmps103
  go_wp2
  go_ret
  exact ⟨rfl, Below.refl _ _⟩

end Go.Proofs.Ytjnbhppnchmeoaa

namespace Go.Proofs.Ytjnbhppnchmeoaa
open Go.RowKit
set_option linter.unusedVariables false

def numS (n : Int) : ByteArray := strOfNums (vint (zig n))
theorem numS_size (n : Int) : (numS n).size = (vint (zig n)).length := strOfNums_size _
def Cmd.zero : Cmd := ⟨0, 0, 0, ⟨#[]⟩, ⟨#[]⟩, ⟨#[]⟩, 0⟩
/-- Its encoding. -/
def Cmd.enc (c : Cmd) : ByteArray := numS c.client ++ numS c.number ++ numS c.kind ++ ptext c.topic ++ ptext c.group ++ ptext c.text ++ numS c.n
/-- CommandBytes. -/
noncomputable def cmdBytes (c : Cmd) : ByteArray := if cmdB c = true then c.enc else ⟨#[]⟩
theorem name_size {s : ByteArray} (h : nameB s = true) : s.size ≤ 20 := by simp [nameB] at h; omega
theorem empty_size {s : ByteArray} (h : emptyB s = true) : s.size = 0 := of_decide_eq_true h
/-- What a right command's fields are bounded by. -/
theorem cmdB_sizes {c : Cmd} (h : cmdB c = true) : (1 ≤ c.client ∧ c.client ≤ 9) ∧ (1 ≤ c.number ∧ c.number ≤ 1000000000) ∧ (1 ≤ c.kind ∧ c.kind ≤ 7) ∧ (0 ≤ c.n ∧ c.n ≤ 1000000000) ∧ c.topic.size ≤ 20 ∧ c.group.size ≤ 20 ∧ c.text.size ≤ 40 := by
  obtain ⟨a, b, k, t, g, x, n⟩ := c
  unfold cmdB at h
  simp only [Bool.and_eq_true] at h
  obtain ⟨h1, h2, h3, h4⟩ := h
  have h3' := name_size h3
  simp only [inB, Bool.and_eq_true, decide_eq_true_eq] at h1 h2
  unfold kindB at h4
  simp only
  split at h4
  · simp only [Bool.and_eq_true, decide_eq_true_eq] at h4
    have e1 := empty_size h4.1
    have e2 := empty_size h4.2.1
    omega
  split at h4
  · simp only [Bool.and_eq_true, decide_eq_true_eq, inB] at h4
    have e1 := empty_size h4.1
    omega
  split at h4
  · simp only [Bool.and_eq_true, decide_eq_true_eq, inB] at h4
    have e1 := name_size h4.1
    have e2 := empty_size h4.2.1
    omega
  split at h4
  · simp only [Bool.and_eq_true, decide_eq_true_eq, inB] at h4
    have e1 := empty_size h4.1
    have e2 := empty_size h4.2.1
    omega
  · cases h4
theorem numS_le {n : Int} (h0 : -9223372036854775808 ≤ n) (h1 : n ≤ 9223372036854775807) : (numS n).size ≤ 10 := by
  rw [numS_size]; exact vint_len10 _ (zig_lt h0 h1)
theorem ptext_le {t : ByteArray} (h : t.size ≤ 1048576) : (ptext t).size ≤ t.size + 10 := by
  have := vint_size t h
  unfold ptext
  rw [ByteArray.size_append]
  omega
end Go.Proofs.Ytjnbhppnchmeoaa

namespace Go.Proofs.Ytjnbhppnchmeoaa
open Go.RowKit
set_option linter.unusedVariables false

/-- Strings one behind the other. -/
def cat {α : Type} (f : α → ByteArray) : List α → ByteArray
  | [] => ⟨#[]⟩
  | a :: L => f a ++ cat f L
theorem nil_app (s : ByteArray) : (⟨#[]⟩ : ByteArray) ++ s = s := by apply ByteArray.ext; simp
theorem app_nil (s : ByteArray) : s ++ (⟨#[]⟩ : ByteArray) = s := by apply ByteArray.ext; simp
theorem app_assoc (a b c : ByteArray) : a ++ b ++ c = a ++ (b ++ c) := by apply ByteArray.ext; simp
theorem cat_snoc {α : Type} (f : α → ByteArray) (L : List α) (a : α) : cat f (L ++ [a]) = cat f L ++ f a := by
  induction L with
  | nil => show f a ++ ⟨#[]⟩ = ⟨#[]⟩ ++ f a; rw [app_nil, nil_app]
  | cons b L ih => show f b ++ cat f (L ++ [a]) = f b ++ cat f L ++ f a; rw [ih, app_assoc]
theorem cat_next {α : Type} (f : α → ByteArray) (L : List α) {k : Nat} (h : k < L.length) (e : ByteArray) : e ++ cat f (L.take (k + 1)) = e ++ cat f (L.take k) ++ f L[k] := by
  rw [List.take_succ_eq_append_getElem h, cat_snoc, app_assoc]
theorem cat_zero {α : Type} (f : α → ByteArray) (L : List α) (e : ByteArray) : e ++ cat f (L.take 0) = e := by
  rw [List.take_zero]; exact app_nil e
theorem cat_all {α : Type} (f : α → ByteArray) (L : List α) : cat f (L.take L.length) = cat f L := by rw [List.take_of_length_le (Nat.le_refl _)]
theorem cat_le {α : Type} (f : α → ByteArray) (m : Nat) : ∀ (L : List α), (∀ i (h : i < L.length), (f L[i]).size ≤ m) → (cat f L).size ≤ L.length * m
  | [], _ => Nat.zero_le _
  | a :: L, h => by
    have h0 := h 0 (by simp)
    have h1 := cat_le f m L (fun i hi => h (i + 1) (by simpa using hi))
    show (f a ++ cat f L).size ≤ _
    rw [ByteArray.size_append, List.length_cons, Nat.succ_mul]
    simp only [List.getElem_cons_zero] at h0
    omega
theorem numS10 {n : Int} (h0 : 0 ≤ n) (h1 : n ≤ 1000000000) : (numS n).size ≤ 10 := numS_le (by omega) (by omega)
end Go.Proofs.Ytjnbhppnchmeoaa

namespace Go.Proofs.Ytjnbhppnchmeoaa
open Go.RowKit
set_option linter.unusedVariables false

def prfE (p : Prf) : ByteArray := numS p.view ++ numS p.seq ++ ptext p.op ++ numS p.who.length ++ cat numS p.who
def cngE (c : Cng) : ByteArray := numS c.frm ++ numS c.view ++ numS c.proofs.length ++ cat prfE c.proofs
def syE (y : Sy) : ByteArray := numS y.kind ++ numS y.frm ++ numS y.view ++ numS y.seq ++ ptext y.op ++ numS y.changes.length ++ cat cngE y.changes
/-- SayBytes. -/
def syBytes (y : Sy) : ByteArray := if sayB y = true then syE y else ⟨#[]⟩
theorem syBytes_no {y : Sy} (h : sayB y = false) : syBytes y = ⟨#[]⟩ := by unfold syBytes; rw [h]; rfl
theorem syBytes_ok {y : Sy} (h : sayB y = true) : syBytes y = syE y := by unfold syBytes; rw [h]; rfl
/-- What a right proof is bounded by. -/
structure PrfSz (p : Prf) : Prop where
  view : 0 ≤ p.view ∧ p.view ≤ 7
  seq : 0 ≤ p.seq ∧ p.seq ≤ 6
  op : p.op.size ≤ 120
  whon : p.who.length ≤ 4
  who : ∀ i (h : i < p.who.length), 0 ≤ p.who[i] ∧ p.who[i] ≤ 3
theorem five_sz {L : List Int} (h : quorum L = true) : L.length ≤ 4 ∧ ∀ i (h : i < L.length), 0 ≤ L[i] ∧ L[i] ≤ 3 := by
  have : ∀ M ∈ five, M.length ≤ 4 ∧ ∀ x ∈ M, 0 ≤ x ∧ x ≤ 3 := by decide
  obtain ⟨a, b⟩ := this L (quorum_five h)
  exact ⟨a, fun i hi => b _ (List.getElem_mem hi)⟩
theorem prfSz {p : Prf} (h : prfB p = true) : PrfSz p := by
  unfold prfB at h
  simp only [Bool.and_eq_true, decide_eq_true_eq] at h
  obtain ⟨h1, h2, h3, h4⟩ := h
  obtain ⟨q1, q2⟩ := five_sz h4
  exact ⟨h1, by omega, h3, q1, q2⟩
theorem pr_all (v : Int) : ∀ (L : List Prf) (last : Int), pr v last L = true → (L = [] ∨ last + L.length ≤ 6) ∧ ∀ i (h : i < L.length), prfB L[i] = true
  | [], _, _ => ⟨.inl rfl, fun i h => absurd h (by simp)⟩
  | p :: t, last, h => by
    unfold pr at h
    rw [Bool.and_eq_true, decide_eq_true_eq] at h
    obtain ⟨⟨h1, h2, h3⟩, h4⟩ := h
    obtain ⟨q1, q2⟩ := pr_all v t p.seq h4
    have hs := (prfSz h1).seq
    refine ⟨.inr ?_, fun i hi => ?_⟩
    · rcases q1 with e | e
      · subst e; simp; omega
      · simp only [List.length_cons]; omega
    · cases i with
      | zero => exact h1
      | succ i => exact q2 i (by simpa using hi)
structure CngSz (c : Cng) : Prop where
  frm : 0 ≤ c.frm ∧ c.frm ≤ 3
  view : 0 ≤ c.view ∧ c.view ≤ 7
  proofsn : c.proofs.length ≤ 6
  proofs : ∀ i (h : i < c.proofs.length), PrfSz c.proofs[i]
theorem cngSz {c : Cng} (h : cngB c = true) : CngSz c := by
  unfold cngB balB chP at h
  simp only [Bool.and_eq_true, decide_eq_true_eq] at h
  obtain ⟨⟨h1, h2⟩, h3⟩ := h
  obtain ⟨q1, q2⟩ := pr_all _ _ _ h3
  refine ⟨h1, by omega, ?_, fun i hi => prfSz (q2 i hi)⟩
  rcases q1 with e | e
  · rw [e]; simp
  · omega
theorem cr_all (v : Int) : ∀ (L : List Cng) (last : Int), cr v last L = true → ∀ i (h : i < L.length), cngB L[i] = true
  | [], _, _ => fun i h => absurd h (by simp)
  | c :: t, last, h => by
    unfold cr at h
    rw [Bool.and_eq_true, decide_eq_true_eq] at h
    obtain ⟨⟨h1, h2, h3⟩, h4⟩ := h
    intro i hi
    cases i with
    | zero => exact h1
    | succ i => exact cr_all v t c.frm h4 i (by simpa using hi)
theorem cr_len {v : Int} {L : List Cng} (h : cr v (-1) L = true) : L.length ≤ 4 := by
  have h1 := cr_br v L (-1)
  rw [h] at h1
  have h' := h1.symm
  rw [Bool.and_eq_true] at h'
  rcases br_len _ _ _ h'.1 with e | e
  · rw [e]; simp
  · omega
structure SySz (y : Sy) : Prop where
  kind : 0 ≤ y.kind ∧ y.kind ≤ 5
  frm : 0 ≤ y.frm ∧ y.frm ≤ 3
  view : 0 ≤ y.view ∧ y.view ≤ 7
  seq : 0 ≤ y.seq ∧ y.seq ≤ 6
  op : y.op.size ≤ 120
  changesn : y.changes.length ≤ 4
  changes : ∀ i (h : i < y.changes.length), CngSz y.changes[i]
theorem sySz {y : Sy} (h : sayB y = true) : SySz y := by
  unfold sayB at h
  simp only [Bool.and_eq_true, decide_eq_true_eq] at h
  obtain ⟨h1, h2, h3⟩ := h
  unfold restB at h3
  split at h3
  · next hk =>
    unfold numB at h3
    simp only [Bool.and_eq_true, decide_eq_true_eq] at h3
    obtain ⟨h4, h5, h6, h7⟩ := h3
    exact ⟨by omega, h1, h2, by omega, h5, by omega, fun i hi => by omega⟩
  · split at h3
    · next hk =>
      unfold chgB at h3
      simp only [Bool.and_eq_true, decide_eq_true_eq] at h3
      obtain ⟨h4, h5, h6, h7⟩ := h3
      by_cases hl : y.changes.length = 1
      · obtain ⟨c, hc⟩ := len_one hl
        rw [hc] at h7
        unfold oneB at h7
        simp only [Bool.and_eq_true] at h7
        refine ⟨by omega, h1, h2, by omega, by omega, by omega, fun i hi => ?_⟩
        obtain rfl : i = 0 := by omega
        simp only [hc, List.getElem_cons_zero]
        exact cngSz h7.1
      · rw [oneB_len hl] at h7; cases h7
    · split at h3
      · next hk =>
        unfold newB at h3
        simp only [Bool.and_eq_true, decide_eq_true_eq] at h3
        obtain ⟨h4, _, h5, h6, h7, h8⟩ := h3
        exact ⟨by omega, h1, h2, by omega, by omega, cr_len h7, fun i hi => cngSz (cr_all _ _ _ h7 i hi)⟩
      · cases h3
theorem prfE_le {p : Prf} (h : PrfSz p) : (prfE p).size ≤ 210 := by
  have h1 := numS10 (n := p.view) h.view.1 (by have := h.view; omega)
  have h2 := numS10 (n := p.seq) h.seq.1 (by have := h.seq; omega)
  have h3 := ptext_le (t := p.op) (by have := h.op; omega)
  have h4 := numS10 (n := (p.who.length : Int)) (by omega) (by have := h.whon; omega)
  have h5 := cat_le numS 10 p.who (fun i hi => by have := h.who i hi; exact numS10 (by omega) (by omega))
  have h6 := h.whon
  have h7 := h.op
  unfold prfE; simp only [ByteArray.size_append]; omega
theorem cngE_le {c : Cng} (h : CngSz c) : (cngE c).size ≤ 1300 := by
  have h1 := numS10 (n := c.frm) h.frm.1 (by have := h.frm; omega)
  have h2 := numS10 (n := c.view) h.view.1 (by have := h.view; omega)
  have h4 := numS10 (n := (c.proofs.length : Int)) (by omega) (by have := h.proofsn; omega)
  have h5 := cat_le prfE 210 c.proofs (fun i hi => prfE_le (h.proofs i hi))
  have h6 := h.proofsn
  unfold cngE; simp only [ByteArray.size_append]; omega
end Go.Proofs.Ytjnbhppnchmeoaa
