/- What GetText answers, as a function of the string and the place; the contracts of GetText in these words. -/
import Derived.Test.YtpgodphnjeifhaaDoorGetTxt
namespace Go.Proofs.YtpgodphnjeifhaaDoor
open Go.RowKit
set_option linter.unusedVariables false

theorem rd_err_ne {s : ByteArray} {p : Nat} : ∀ (n k u : Nat) {c : Int}, rd s p n k u = .error c → c ≠ 0 := by
  intro n
  induction n with
  | zero => intro k u c h; simp [rd] at h; omega
  | succ n ih =>
    intro k u c h
    rw [rd] at h
    split at h
    · split at h
      · cases h; omega
      · split at h
        · split at h
          · cases h; omega
          · cases h
        · exact ih _ _ h
    · cases h; omega
def gt (s : ByteArray) (p : Nat) : Except Int (ByteArray × Nat) :=
  match rd s p 10 0 0 with
  | .error c => .error c
  | .ok (u, m) => if unzig u < 0 ∨ 20000 < unzig u then .error 3 else if s.size < p + m + (unzig u).toNat then .error 4
      else .ok (s.extract (p + m) (p + m + (unzig u).toNat), p + m + (unzig u).toNat)
def txV : Except Int (ByteArray × Nat) → Value
  | .error c => textOut ⟨#[]⟩ 0 c
  | .ok (t, q) => textOut t q 0
theorem gt_err {s : ByteArray} {p : Nat} {c : Int} (h : gt s p = .error c) : c ≠ 0 := by
  unfold gt at h
  cases hr : rd s p 10 0 0 with
  | error c' => rw [hr] at h; cases h; exact rd_err_ne _ _ _ hr
  | ok x =>
    obtain ⟨u, m⟩ := x
    rw [hr] at h
    simp only at h
    split at h
    · cases h; omega
    · split at h
      · cases h; omega
      · cases h
theorem gt_ok {s : ByteArray} {p : Nat} {t : ByteArray} {q : Nat} (h : gt s p = .ok (t, q)) : t.size ≤ s.size ∧ p ≤ q ∧ q ≤ s.size := by
  unfold gt at h
  cases hr : rd s p 10 0 0 with
  | error c' => rw [hr] at h; cases h
  | ok x =>
    obtain ⟨u, m⟩ := x
    rw [hr] at h
    simp only at h
    split at h
    · cases h
    · split at h
      · cases h
      · cases h
        refine ⟨?_, by omega, by omega⟩
        simp
        omega
theorem textV_rd {s : ByteArray} {p : Nat} :
    (∀ c, rd s p 10 0 0 = .error c → textV s 0 0 c = txV (gt s p)) ∧ (∀ u m, rd s p 10 0 0 = .ok (u, m) → textV s (unzig u) ((p : Int) + m) 0 = txV (gt s p)) := by
  constructor
  · intro c h
    rw [textV_c (rd_err_ne _ _ _ h)]
    unfold gt; rw [h]; rfl
  · intro u m h
    unfold gt; rw [h]
    simp only
    by_cases h1 : unzig u < 0 ∨ 20000 < unzig u
    · rw [if_pos h1, textV_n h1]; rfl
    · rw [if_neg h1]
      by_cases h2 : s.size < p + m + (unzig u).toNat
      · rw [if_pos h2, textV_e h1 (by omega)]; rfl
      · rw [if_neg h2, textV_ok h1 (by omega)]
        have e1 : ((p : Int) + m).toNat = p + m := by omega
        have e2 : ((p : Int) + m + unzig u).toNat = p + m + (unzig u).toNat := by omega
        have e3 : (p : Int) + m + unzig u = ((p + m + (unzig u).toNat : Nat) : Int) := by omega
        rw [e1, e2, e3]; rfl

theorem specGetText_gt (s : ByteArray) (p : Nat) (w : World) (hs : s.size ≤ 20000) (hp : (p : Int) ≤ 9223372036854775807) :
    Calls Tryd.prog 56 #[.string s, .int .i64 p] w fun e w' => e = .returned (txV (gt s p)) ∧ Below w.heap.size w w' := by
  have hN := fun w => specGetNum_any s p w hs hp
  cases hr : rd s p 10 0 0 with
  | error c =>
    rw [hr] at hN
    rw [← textV_rd.1 c hr]
    exact specGetText_of s p 0 0 c w (Lib.hid hN) (fun e => absurd e (rd_err_ne _ _ _ hr))
  | ok x =>
    obtain ⟨u, m⟩ := x
    rw [hr] at hN
    rw [← textV_rd.2 u m hr]
    have := rd_within _ _ _ hr
    exact specGetText_of s p (unzig u) ((p : Int) + m) 0 w (Lib.hid hN) (fun _ => ⟨by omega, by omega, hs⟩)
theorem implGetText_gt (s : ByteArray) (p : Nat) (w : World) (hg : Handle w) (hs : s.size ≤ 20000) (hp : (p : Int) ≤ 9223372036854775807) :
    Calls Tryd.prog 48 #[.string s, .int .i64 p] w fun e w' => e = .returned (txV (gt s p)) ∧ Below w.heap.size w w' := by
  have hN := fun w hg => implGetNum_any s p w hs hp hg
  cases hr : rd s p 10 0 0 with
  | error c =>
    rw [hr] at hN
    rw [← textV_rd.1 c hr]
    exact implGetText_of s p 0 0 c w hg (Lib.hid hN) (fun e => absurd e (rd_err_ne _ _ _ hr))
  | ok x =>
    obtain ⟨u, m⟩ := x
    rw [hr] at hN
    rw [← textV_rd.2 u m hr]
    have := rd_within _ _ _ hr
    exact implGetText_of s p (unzig u) ((p : Int) + m) 0 w hg (Lib.hid hN) (fun _ => ⟨by omega, by omega, hs⟩)

end Go.Proofs.YtpgodphnjeifhaaDoor
