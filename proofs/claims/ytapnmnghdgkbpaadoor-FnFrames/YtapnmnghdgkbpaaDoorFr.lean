/- Plain facts on frames one behind the other. -/
import Derived.Test.YtapnmnghdgkbpaaDoorGt
namespace Go.Proofs.YtapnmnghdgkbpaaDoor
open Go.RowKit
set_option linter.unusedVariables false

theorem rd_low {s : ByteArray} {p : Nat} : ∀ (n k u : Nat) {u' m : Nat}, rd s p n k u = .ok (u', m) → k < m ∧ (1 < m → 2 ^ (7 * (m - 1)) ≤ u') := by
  intro n
  induction n with
  | zero => intro k u u' m h; simp [rd] at h
  | succ n ih =>
    intro k u u' m h
    rw [rd] at h
    split at h
    · rename_i hlt
      split at h
      · cases h
      · split at h
        · split at h
          · cases h
          · rename_i hz
            cases h
            refine ⟨by omega, fun hm => ?_⟩
            have hb : 1 ≤ s[p + k].toNat := by omega
            have := Nat.mul_le_mul_right (2 ^ (7 * k)) hb
            rw [Nat.add_sub_cancel]
            omega
        · have := ih _ _ h
          exact ⟨by omega, this.2⟩
    · cases h
theorem rd_cut {s : ByteArray} {p e : Nat} (he : e ≤ s.size) (h2 : p + 10 ≤ e ∨ e = s.size) : ∀ (n k u : Nat), k + n ≤ 10 → rd (s.extract p e) 0 n k u = rd s p n k u := by
  intro n
  induction n with
  | zero => intro k u _; rfl
  | succ n ih =>
    intro k u hk
    have hsz : (s.extract p e).size = e - p := by simp; omega
    rw [rd, rd]
    by_cases h : p + k < s.size
    · have h' : 0 + k < (s.extract p e).size := by omega
      have hb : (s.extract p e)[0 + k] = s[p + k] := by
        rw [ByteArray.getElem_extract]
        simp
      rw [dif_pos h, dif_pos h', hb, ih _ _ (by omega)]
    · have h' : ¬ 0 + k < (s.extract p e).size := by omega
      rw [dif_neg h, dif_neg h']
theorem extract_cut {s : ByteArray} {p e a b : Nat} (he : p + b ≤ e) : (s.extract p e).extract a b = s.extract (p + a) (p + b) := by
  rw [ByteArray.extract_extract]
  congr 1
  omega

theorem fr_err {s : ByteArray} {p : Nat} {c : Int} (h : fr s p = .error c) : c ≠ 0 := by
  unfold fr at h
  cases hg : gt s p with
  | error d => rw [hg] at h; cases h; exact gt_err hg
  | ok x =>
    obtain ⟨t, q⟩ := x
    rw [hg] at h
    simp only [frU] at h
    cases hu : uns t with
    | error d => rw [hu] at h; cases h; exact uns_err hu
    | ok x =>
      rw [hu] at h
      simp only at h
      split at h
      · cases h; omega
      · cases h
theorem fr_ok {s : ByteArray} {p : Nat} {t : ByteArray} {q : Nat} (h : fr s p = .ok (t, q)) : p < q ∧ q ≤ s.size ∧ t.size ≤ 1000 := by
  unfold fr gt at h
  cases hr : rd s p 10 0 0 with
  | error c => rw [hr] at h; cases h
  | ok x =>
    obtain ⟨u, m⟩ := x
    have hm := (rd_low _ _ _ hr).1
    rw [hr] at h
    simp only at h
    by_cases h1 : unzig u < 0 ∨ 20000 < unzig u
    · rw [if_pos h1] at h; cases h
    · rw [if_neg h1] at h
      by_cases h2 : s.size < p + m + (unzig u).toNat
      · rw [if_pos h2] at h; cases h
      · rw [if_neg h2] at h
        simp only [frU] at h
        split at h
        · cases h
        · split at h
          · cases h
          · cases h
            exact ⟨by omega, by omega, by omega⟩
/-- A frame is read alike in a cut that holds the greatest frame. -/
theorem fr_cut {s : ByteArray} {p : Nat} (hp : p ≤ s.size) :
    (∀ t q, fr s p = .ok (t, q) → fr (s.extract p (min (p + 1006) s.size)) 0 = .ok (t, q - p)) ∧ (∀ c, fr s p = .error c → ∃ d, fr (s.extract p (min (p + 1006) s.size)) 0 = .error d) := by
  obtain ⟨e, he⟩ : ∃ e, min (p + 1006) s.size = e := ⟨_, rfl⟩
  rw [he]
  have he1 : e ≤ s.size := by omega
  have he2 : p + 10 ≤ e ∨ e = s.size := by omega
  have hsz : (s.extract p e).size = e - p := by simp; omega
  have hrd := rd_cut (s := s) (p := p) he1 he2 10 0 0 (by omega)
  unfold fr gt
  rw [hrd]
  cases hr : rd s p 10 0 0 with
  | error c => exact ⟨fun t q h => (by cases h), fun d h => ⟨_, rfl⟩⟩
  | ok x =>
    obtain ⟨u, m⟩ := x
    have hm := rd_low _ _ _ hr
    simp only
    by_cases h1 : unzig u < 0 ∨ 20000 < unzig u
    · simp only [if_pos h1]; exact ⟨fun t q h => (by cases h), fun d h => ⟨_, rfl⟩⟩
    · rw [if_neg h1, if_neg h1]
      obtain ⟨N, hN⟩ : ∃ N, (unzig u).toNat = N := ⟨_, rfl⟩
      have hNu : u = 2 * N := by
        have h3 : ¬ unzig u < 0 := by omega
        unfold unzig at h3 hN
        split at h3
        · omega
        · rename_i h4; rw [if_neg h4] at hN; omega
      rw [hN, hsz]
      by_cases h2 : s.size < p + m + N
      · rw [if_pos h2, if_pos (by omega)]; exact ⟨fun t q h => (by cases h), fun d h => ⟨_, rfl⟩⟩
      · rw [if_neg h2]
        by_cases h3 : N ≤ 1004
        · have hm2 : m ≤ 2 := by
            rcases Nat.lt_or_ge 2 m with h4 | h4
            · have h5 := hm.2 (by omega)
              have h6 : 2 ^ 14 ≤ 2 ^ (7 * (m - 1)) := Nat.pow_le_pow_right (by omega) (by omega)
              have h7 : (2 : Nat) ^ 14 = 16384 := by decide
              omega
            · exact h4
          rw [if_neg (by omega)]
          simp only
          have e1 : (s.extract p e).extract (0 + m) (0 + m + N) = s.extract (p + m) (p + m + N) := by
            rw [extract_cut (by omega)]
            congr 1
            · omega
            · omega
          rw [e1]
          unfold frU
          cases hu : uns (s.extract (p + m) (p + m + N)) with
          | error c => exact ⟨fun t q h => (by cases h), fun d h => ⟨_, rfl⟩⟩
          | ok x =>
            simp only
            split
            · exact ⟨fun t q h => (by cases h), fun d h => ⟨_, rfl⟩⟩
            · refine ⟨fun t q h => ?_, fun d h => (by cases h)⟩
              cases h
              congr 2
              omega
        · have key : ∀ (t : ByteArray) (r : Nat), t.size = N → ∃ d, frU t r = .error d := by
            intro t r ht
            unfold frU
            cases hu : uns t with
            | error c => exact ⟨_, rfl⟩
            | ok x =>
              have := uns_ok hu
              simp only
              rw [if_pos (by omega)]
              exact ⟨_, rfl⟩
          have z1 : (s.extract (p + m) (p + m + N)).size = N := by simp; omega
          obtain ⟨d, hd⟩ := key _ (p + m + N) z1
          refine ⟨fun t q h => ?_, fun c h => ?_⟩
          · simp only [hd] at h; cases h
          · by_cases h5 : e - p < 0 + m + N
            · rw [if_pos h5]; exact ⟨_, rfl⟩
            · rw [if_neg h5]
              simp only
              exact key _ _ (by simp; omega)

/-- The frames from p on: each string, and the offset behind its frame. -/
noncomputable def frs (s : ByteArray) (p : Nat) : List (ByteArray × Nat) :=
  match fr s p with
  | .error _ => []
  | .ok (t, q) => if h : p < q ∧ q ≤ s.size then (t, q) :: frs s q else []
termination_by s.size - p
decreasing_by omega
theorem frs_err {s : ByteArray} {p : Nat} {c : Int} (h : fr s p = .error c) : frs s p = [] := by rw [frs, h]
theorem frs_ok {s : ByteArray} {p : Nat} {t : ByteArray} {q : Nat} (h : fr s p = .ok (t, q)) : frs s p = (t, q) :: frs s q := by
  have := fr_ok h
  rw [frs, h]
  simp only
  rw [dif_pos ⟨this.1, this.2.1⟩]
theorem frs_len {s : ByteArray} : ∀ (n p : Nat), s.size - p ≤ n → (frs s p).length ≤ n := by
  intro n
  induction n with
  | zero =>
    intro p hp
    cases h : fr s p with
    | error c => rw [frs_err h]; simp
    | ok x => obtain ⟨t, q⟩ := x; have := fr_ok h; omega
  | succ n ih =>
    intro p hp
    cases h : fr s p with
    | error c => rw [frs_err h]; simp
    | ok x =>
      obtain ⟨t, q⟩ := x
      have := fr_ok h
      rw [frs_ok h]
      simp
      exact ih q (by omega)
def endOf (l : List (ByteArray × Nat)) : Nat := (l.getLast?.map Prod.snd).getD 0
theorem endOf_snoc (l : List (ByteArray × Nat)) (x : ByteArray × Nat) : endOf (l ++ [x]) = x.2 := by simp [endOf]
end Go.Proofs.YtapnmnghdgkbpaaDoor
