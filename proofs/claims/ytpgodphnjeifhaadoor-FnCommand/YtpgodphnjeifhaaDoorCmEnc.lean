/- The encoding of a command. -/
import Derived.Test.YtpgodphnjeifhaaDoorText
import Derived.Test.YtpgodphnjeifhaaDoorCm
namespace Go.Proofs.YtpgodphnjeifhaaDoor
open Go.RowKit
set_option linter.unusedVariables false

def numS (n : Int) : ByteArray := strOfNums (vint (zig n))
theorem numS_size (n : Int) : (numS n).size = (vint (zig n)).length := strOfNums_size _
def Cmd.zero : Cmd := ⟨0, 0, 0, ⟨#[]⟩, ⟨#[]⟩, ⟨#[]⟩, 0⟩
/-- Its encoding. -/
def Cmd.enc (c : Cmd) : ByteArray := numS c.client ++ numS c.number ++ numS c.kind ++ ptext c.topic ++ ptext c.group ++ ptext c.text ++ numS c.n
/-- CommandBytes. -/
noncomputable def cmdBytes (c : Cmd) : ByteArray := if cmdB c = true then c.enc else ⟨#[]⟩
theorem name_size {s : ByteArray} (h : nameB s = true) : s.size ≤ 20 := by simp [nameB] at h; omega
theorem empty_size {s : ByteArray} (h : emptyB s = true) : s.size = 0 := of_decide_eq_true h
/-- What a right command's fields are bounded by. -/
theorem cmdB_sizes {c : Cmd} (h : cmdB c = true) : (1 ≤ c.client ∧ c.client ≤ 9) ∧ (1 ≤ c.number ∧ c.number ≤ 1000000000) ∧ (1 ≤ c.kind ∧ c.kind ≤ 7) ∧ (0 ≤ c.n ∧ c.n ≤ 1000000000) ∧ c.topic.size ≤ 20 ∧ c.group.size ≤ 20 ∧ c.text.size ≤ 40 := by
  obtain ⟨a, b, k, t, g, x, n⟩ := c
  unfold cmdB at h
  simp only [Bool.and_eq_true] at h
  obtain ⟨h1, h2, h3, h4⟩ := h
  have h3' := name_size h3
  simp only [inB, Bool.and_eq_true, decide_eq_true_eq] at h1 h2
  unfold kindB at h4
  simp only
  split at h4
  · simp only [Bool.and_eq_true, decide_eq_true_eq] at h4
    have e1 := empty_size h4.1
    have e2 := empty_size h4.2.1
    omega
  split at h4
  · simp only [Bool.and_eq_true, decide_eq_true_eq, inB] at h4
    have e1 := empty_size h4.1
    omega
  split at h4
  · simp only [Bool.and_eq_true, decide_eq_true_eq, inB] at h4
    have e1 := name_size h4.1
    have e2 := empty_size h4.2.1
    omega
  split at h4
  · simp only [Bool.and_eq_true, decide_eq_true_eq, inB] at h4
    have e1 := empty_size h4.1
    have e2 := empty_size h4.2.1
    omega
  · cases h4
theorem numS_le {n : Int} (h0 : -9223372036854775808 ≤ n) (h1 : n ≤ 9223372036854775807) : (numS n).size ≤ 10 := by
  rw [numS_size]; exact vint_len10 _ (zig_lt h0 h1)
theorem ptext_le {t : ByteArray} (h : t.size ≤ 1048576) : (ptext t).size ≤ t.size + 10 := by
  have := vint_size t h
  unfold ptext
  rw [ByteArray.size_append]
  omega
end Go.Proofs.YtpgodphnjeifhaaDoor
