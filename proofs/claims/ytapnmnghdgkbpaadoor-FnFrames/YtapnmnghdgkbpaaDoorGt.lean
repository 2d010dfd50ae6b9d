/- What GetText, Unseal and FrameAt answer, as functions of the string and the place; the contracts of GetText and Unseal in these words. -/
import Derived.Test.YtapnmnghdgkbpaaDoorGetTxt
import Derived.Test.YtapnmnghdgkbpaaDoorUnseal
namespace Go.Proofs.YtapnmnghdgkbpaaDoor
open Go.RowKit
set_option linter.unusedVariables false

theorem rd_err_ne {s : ByteArray} {p : Nat} : ∀ (n k u : Nat) {c : Int}, rd s p n k u = .error c → c ≠ 0 := by
  intro n
  induction n with
  | zero => intro k u c h; simp [rd] at h; omega
  | succ n ih =>
    intro k u c h
    rw [rd] at h
    split at h
    · split at h
      · cases h; omega
      · split at h
        · split at h
          · cases h; omega
          · cases h
        · exact ih _ _ h
    · cases h; omega
def gt (s : ByteArray) (p : Nat) : Except Int (ByteArray × Nat) :=
  match rd s p 10 0 0 with
  | .error c => .error c
  | .ok (u, m) => if unzig u < 0 ∨ 20000 < unzig u then .error 3 else if s.size < p + m + (unzig u).toNat then .error 4
      else .ok (s.extract (p + m) (p + m + (unzig u).toNat), p + m + (unzig u).toNat)
def txV : Except Int (ByteArray × Nat) → Value
  | .error c => textOut ⟨#[]⟩ 0 c
  | .ok (t, q) => textOut t q 0
theorem gt_err {s : ByteArray} {p : Nat} {c : Int} (h : gt s p = .error c) : c ≠ 0 := by
  unfold gt at h
  cases hr : rd s p 10 0 0 with
  | error c' => rw [hr] at h; cases h; exact rd_err_ne _ _ _ hr
  | ok x =>
    obtain ⟨u, m⟩ := x
    rw [hr] at h
    simp only at h
    split at h
    · cases h; omega
    · split at h
      · cases h; omega
      · cases h
theorem gt_ok {s : ByteArray} {p : Nat} {t : ByteArray} {q : Nat} (h : gt s p = .ok (t, q)) : t.size ≤ s.size ∧ p ≤ q ∧ q ≤ s.size := by
  unfold gt at h
  cases hr : rd s p 10 0 0 with
  | error c' => rw [hr] at h; cases h
  | ok x =>
    obtain ⟨u, m⟩ := x
    rw [hr] at h
    simp only at h
    split at h
    · cases h
    · split at h
      · cases h
      · cases h
        refine ⟨?_, by omega, by omega⟩
        simp
        omega
theorem textV_rd {s : ByteArray} {p : Nat} :
    (∀ c, rd s p 10 0 0 = .error c → textV s 0 0 c = txV (gt s p)) ∧ (∀ u m, rd s p 10 0 0 = .ok (u, m) → textV s (unzig u) ((p : Int) + m) 0 = txV (gt s p)) := by
  constructor
  · intro c h
    rw [textV_c (rd_err_ne _ _ _ h)]
    unfold gt; rw [h]; rfl
  · intro u m h
    unfold gt; rw [h]
    simp only
    by_cases h1 : unzig u < 0 ∨ 20000 < unzig u
    · rw [if_pos h1, textV_n h1]; rfl
    · rw [if_neg h1]
      by_cases h2 : s.size < p + m + (unzig u).toNat
      · rw [if_pos h2, textV_e h1 (by omega)]; rfl
      · rw [if_neg h2, textV_ok h1 (by omega)]
        have e1 : ((p : Int) + m).toNat = p + m := by omega
        have e2 : ((p : Int) + m + unzig u).toNat = p + m + (unzig u).toNat := by omega
        have e3 : (p : Int) + m + unzig u = ((p + m + (unzig u).toNat : Nat) : Int) := by omega
        rw [e1, e2, e3]; rfl

theorem specGetText_gt (s : ByteArray) (p : Nat) (w : World) (hs : s.size ≤ 20000) (hp : (p : Int) ≤ 9223372036854775807) :
    Calls Tryd.prog 96 #[.string s, .int .i64 p] w fun e w' => e = .returned (txV (gt s p)) ∧ Below w.heap.size w w' := by
  have hN := fun w => specGetNum_any s p w hs hp
  cases hr : rd s p 10 0 0 with
  | error c =>
    rw [hr] at hN
    rw [← textV_rd.1 c hr]
    exact specGetText_of s p 0 0 c w (Lib.hid hN) (fun e => absurd e (rd_err_ne _ _ _ hr))
  | ok x =>
    obtain ⟨u, m⟩ := x
    rw [hr] at hN
    rw [← textV_rd.2 u m hr]
    have := rd_within _ _ _ hr
    exact specGetText_of s p (unzig u) ((p : Int) + m) 0 w (Lib.hid hN) (fun _ => ⟨by omega, by omega, hs⟩)
theorem implGetText_gt (s : ByteArray) (p : Nat) (w : World) (hg : Handle w) (hs : s.size ≤ 20000) (hp : (p : Int) ≤ 9223372036854775807) :
    Calls Tryd.prog 56 #[.string s, .int .i64 p] w fun e w' => e = .returned (txV (gt s p)) ∧ Below w.heap.size w w' := by
  have hN := fun w hg => implGetNum_any s p w hs hp hg
  cases hr : rd s p 10 0 0 with
  | error c =>
    rw [hr] at hN
    rw [← textV_rd.1 c hr]
    exact implGetText_of s p 0 0 c w hg (Lib.hid hN) (fun e => absurd e (rd_err_ne _ _ _ hr))
  | ok x =>
    obtain ⟨u, m⟩ := x
    rw [hr] at hN
    rw [← textV_rd.2 u m hr]
    have := rd_within _ _ _ hr
    exact implGetText_of s p (unzig u) ((p : Int) + m) 0 w hg (Lib.hid hN) (fun _ => ⟨by omega, by omega, hs⟩)

noncomputable def uns (t : ByteArray) : Except Int ByteArray :=
  if t.size < 4 then .error 4
  else if ((strOfNums (fourN (crcOf 0 (t.extract 0 (t.size - 4))))).toList == (t.extract (t.size - 4) t.size).toList) = true then .ok (t.extract 0 (t.size - 4)) else .error 5
def unV : Except Int ByteArray → Value
  | .error c => textOut ⟨#[]⟩ 0 c
  | .ok t => textOut t 0 0
theorem uns_err {t : ByteArray} {c : Int} (h : uns t = .error c) : c ≠ 0 := by
  unfold uns at h
  split at h
  · cases h; omega
  · split at h
    · cases h
    · cases h; omega
theorem uns_ok {t x : ByteArray} (h : uns t = .ok x) : x.size + 4 = t.size := by
  unfold uns at h
  split at h
  · cases h
  · split at h
    · cases h; rw [extract_size t (by omega)]; omega
    · cases h
theorem unsealV_uns {t : ByteArray} (h : 4 ≤ t.size) : unsealV t = unV (uns t) := by
  have h4 : ¬ t.size < 4 := by omega
  by_cases hc : ((strOfNums (fourN (crcOf 0 (t.extract 0 (t.size - 4))))).toList == (t.extract (t.size - 4) t.size).toList) = true
  · rw [show uns t = .ok (t.extract 0 (t.size - 4)) by unfold uns; rw [if_neg h4, if_pos hc]]
    unfold unsealV; rw [if_pos hc]; rfl
  · rw [show uns t = .error 5 by unfold uns; rw [if_neg h4, if_neg hc]]
    unfold unsealV; rw [if_neg hc]; rfl
theorem specUnseal_uns (t : ByteArray) (w : World) (h : t.size ≤ 20000) :
    Calls Tryd.prog 97 #[.string t] w fun e w' => e = .returned (unV (uns t)) ∧ Below w.heap.size w w' := by
  by_cases k4 : t.size < 4
  · have : uns t = .error 4 := by unfold uns; rw [if_pos k4]
    rw [this]; exact specUnseal_short t w k4
  · rw [← unsealV_uns (by omega)]; exact specUnseal_any t w (by omega) h
theorem implUnseal_uns (t : ByteArray) (w : World) (h : t.size ≤ 20000) :
    Calls Tryd.prog 57 #[.string t] w fun e w' => e = .returned (unV (uns t)) ∧ Below w.heap.size w w' := by
  by_cases k4 : t.size < 4
  · have : uns t = .error 4 := by unfold uns; rw [if_pos k4]
    rw [this]; exact implUnseal_short t w k4
  · rw [← unsealV_uns (by omega)]; exact implUnseal_any t w (by omega) h

/-- FrameAt, behind GetText. -/
noncomputable def frU (t : ByteArray) (q : Nat) : Except Int (ByteArray × Nat) :=
  match uns t with
  | .error c => .error c
  | .ok x => if 1000 < x.size then .error 2 else .ok (x, q)
/-- FrameAt. -/
noncomputable def fr (s : ByteArray) (p : Nat) : Except Int (ByteArray × Nat) :=
  match gt s p with
  | .error c => .error c
  | .ok (t, q) => frU t q
end Go.Proofs.YtapnmnghdgkbpaaDoor
