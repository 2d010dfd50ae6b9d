/- Contracts of Unseal. What GetText, Unseal and FrameAt answer, as functions of the string and the place; the contracts of GetText and Unseal in these words. Plain facts on frames one behind the other. -/
import Derived.Test.YtebkblmejkkhfaaGreatDoorSealW
import Derived.Deep.RegionWith
import Derived.IntWalk
import Derived.Test.YtebkblmejkkhfaaGreatDoorNumW
namespace Go.Proofs.YtebkblmejkkhfaaGreatDoor
open Go.RowKit
set_option linter.unusedVariables false

set_option maxHeartbeats 1000000 in
theorem specUnseal_size (t : ByteArray) (w : World) (hs : t.size ≤ maxLen) (h : 20000 < t.size) :
    Calls Tryz.prog 186 #[.string t] w fun e w' => e = .returned (textOut ⟨#[]⟩ 0 2) ∧ Below w.heap.size w w' := by
  unfold maxLen at hs
  go_enter Tryz.func186, Tryz.ntmps186
  go_wp2
  exact bodyPost_ret (v := textOut ⟨#[]⟩ 0 2) (by simp [results, Tryz.results186, go_sem]) rfl ⟨rfl, (Below.refl _ _).alloc (Nat.le_refl _) _⟩

set_option maxHeartbeats 1000000 in
theorem specUnseal_short (t : ByteArray) (w : World) (h : t.size < 4) :
    Calls Tryz.prog 186 #[.string t] w fun e w' => e = .returned (textOut ⟨#[]⟩ 0 4) ∧ Below w.heap.size w w' := by
  go_enter Tryz.func186, Tryz.ntmps186
  go_wp2
  exact bodyPost_ret (v := textOut ⟨#[]⟩ 0 4) (by simp [results, Tryz.results186, go_sem]) rfl ⟨rfl, (Below.refl _ _).alloc (Nat.le_refl _) _⟩

theorem extract_size (t : ByteArray) (h : 4 ≤ t.size) : (t.extract 0 (t.size - 4)).size = t.size - 4 := by simp

noncomputable def unsealV (t : ByteArray) : Value :=
  if ((strOfNums (fourN (crcOf 0 (t.extract 0 (t.size - 4))))).toList == (t.extract (t.size - 4) t.size).toList) = true then textOut (t.extract 0 (t.size - 4)) 0 0 else textOut ⟨#[]⟩ 0 5
theorem unsealV_bad {t s4 : ByteArray} {c : Int} (HE : crcOf 0 (t.extract 0 (t.size - 4)) = c) (HS : strOfNums (fourN c) = s4) (h : (!s4.toList == (t.extract (t.size - 4) t.size).toList) = true) : unsealV t = textOut ⟨#[]⟩ 0 5 := by
  unfold unsealV; rw [HE, HS]; rw [if_neg (by simpa using h)]
theorem unsealV_good {t s4 : ByteArray} {c : Int} (HE : crcOf 0 (t.extract 0 (t.size - 4)) = c) (HS : strOfNums (fourN c) = s4) (h : (!s4.toList == (t.extract (t.size - 4) t.size).toList) = false) : unsealV t = textOut (t.extract 0 (t.size - 4)) 0 0 := by
  unfold unsealV; rw [HE, HS]; rw [if_pos (by simpa using h)]
theorem not_beq_comm {a b : List UInt8} {x : Bool} (h : (!a == b) = x) : (!b == a) = x := by rw [← h]; cases h1 : b == a <;> cases h2 : a == b <;> simp_all

set_option maxHeartbeats 2000000 in
theorem specUnseal_any (t : ByteArray) (w : World) (h : 4 ≤ t.size) (h2 : t.size ≤ 20000) :
    Calls Tryz.prog 186 #[.string t] w fun e w' => e = .returned (unsealV t) ∧ Below w.heap.size w w' := by
  have hx := extract_size t h
  obtain ⟨c0, c1⟩ := crcOf_bd 0 (t.extract 0 (t.size - 4))
  have HC := Lib.hid (fun w => l01Crc_any 0 (t.extract 0 (t.size - 4)) w (by omega) (by omega) (by unfold maxLen; omega))
  obtain ⟨c, HE⟩ : ∃ c, Hid (crcOf 0 (t.extract 0 (t.size - 4)) = c) := ⟨_, rfl⟩
  rw [HE.out] at HC c0 c1
  have HF := Lib.hid (fun w => four_any c w c0 c1)
  obtain ⟨s4, HS⟩ : ∃ s, Hid (strOfNums (fourN c) = s) := ⟨_, rfl⟩
  rw [HS.out] at HF
  clear hx
  have i1 : IntKind.i64.wrap ((t.size : Int) - 4) = (t.size : Int) - 4 := IntWalk.i64_in _ (by omega)
  have i2 : (0 : Int) ≤ (t.size : Int) - 4 := by omega
  have i3 : (t.size : Int) - 4 ≤ (t.size : Int) := by omega
  have i4 : ((t.size : Int) - 4).toNat = t.size - 4 := by omega
  have i5 : (4 : Int) ≤ (t.size : Int) := by omega
  go_enter Tryz.func186, Tryz.ntmps186
  go_wp2
  go_region_with (first
    | (go_at_call 165; refine (HC.out _).mono ?_; rintro e w1 ⟨rfl, rfl⟩)
    | (go_at_call 164; refine (HF.out _).mono ?_; rintro e w2 ⟨rfl, hb2⟩))
  obtain ⟨hc2, hf2⟩ := bcell hb2
  have hz2 := hb2.size
  simp at hz2
  go_wp2
  · refine bodyPost_ret (v := textOut ⟨#[]⟩ 0 5) (by simp [results, Tryz.results186, hc2, go_sem]) rfl ⟨by rw [unsealV_bad HE.out HS.out ‹_›], ?_⟩
    exact (((((((Below.refl w.heap.size w).alloc (Nat.le_refl _) _).drew).trans (hb2.mono (by simp))).setCell (Nat.le_refl _) _).setCell (Nat.le_refl _) _).setCell (Nat.le_refl _) _)
  · refine bodyPost_ret (v := textOut (t.extract 0 (t.size - 4)) 0 0) (by simp [results, Tryz.results186, hc2, go_sem]) rfl ⟨by rw [unsealV_good HE.out HS.out ‹_›], ?_⟩
    exact (((((((Below.refl w.heap.size w).alloc (Nat.le_refl _) _).drew).trans (hb2.mono (by simp))).setCell (Nat.le_refl _) _).setCell (Nat.le_refl _) _).setCell (Nat.le_refl _) _)

set_option maxHeartbeats 1000000 in
theorem implUnseal_size (t : ByteArray) (w : World) (hs : t.size ≤ maxLen) (h : 20000 < t.size) :
    Calls Tryz.prog 222 #[.string t] w fun e w' => e = .returned (textOut ⟨#[]⟩ 0 2) ∧ Below w.heap.size w w' := by
  unfold maxLen at hs
  go_enter Tryz.func222, Tryz.ntmps222
  go_wp2
  exact bodyPost_ret (v := textOut ⟨#[]⟩ 0 2) (by simp [results, Tryz.results222, go_sem]) rfl ⟨rfl, (Below.refl _ _).alloc (Nat.le_refl _) _⟩

set_option maxHeartbeats 1000000 in
theorem implUnseal_short (t : ByteArray) (w : World) (h : t.size < 4) :
    Calls Tryz.prog 222 #[.string t] w fun e w' => e = .returned (textOut ⟨#[]⟩ 0 4) ∧ Below w.heap.size w w' := by
  go_enter Tryz.func222, Tryz.ntmps222
  go_wp2
  exact bodyPost_ret (v := textOut ⟨#[]⟩ 0 4) (by simp [results, Tryz.results222, go_sem]) rfl ⟨rfl, (Below.refl _ _).alloc (Nat.le_refl _) _⟩

set_option maxHeartbeats 2000000 in
theorem implUnseal_any (t : ByteArray) (w : World) (h : 4 ≤ t.size) (h2 : t.size ≤ 20000) :
    Calls Tryz.prog 222 #[.string t] w fun e w' => e = .returned (unsealV t) ∧ Below w.heap.size w w' := by
  have hx := extract_size t h
  obtain ⟨c0, c1⟩ := crcOf_bd 0 (t.extract 0 (t.size - 4))
  have HC := Lib.hid (fun w => implCrc_any (t.extract 0 (t.size - 4)) w (by omega))
  have HK := Lib.hid (fun w => clone_any (t.extract 0 (t.size - 4)) w (by omega))
  obtain ⟨c, HE⟩ : ∃ c, Hid (crcOf 0 (t.extract 0 (t.size - 4)) = c) := ⟨_, rfl⟩
  rw [HE.out] at HC c0 c1
  have HF := Lib.hid (fun w => crcText_any c w c0 c1)
  obtain ⟨s4, HS⟩ : ∃ s, Hid (strOfNums (fourN c) = s) := ⟨_, rfl⟩
  rw [HS.out] at HF
  clear hx
  have i2 : (0 : Int) ≤ (t.size : Int) - 4 := by omega
  have i3 : (t.size : Int) - 4 ≤ (t.size : Int) := by omega
  have i4 : ((t.size : Int) - 4).toNat = t.size - 4 := by omega
  have i5 : (4 : Int) ≤ (t.size : Int) := by omega
  go_enter Tryz.func222, Tryz.ntmps222
  go_wp2
  go_region_with (first
    | (go_at_call 169; refine (HC.out _).mono ?_; rintro e w1 ⟨rfl, rfl⟩)
    | (go_at_call 168; refine (HF.out _).mono ?_; rintro e w2 ⟨rfl, hb2⟩))
  obtain ⟨hc2, hf2⟩ := bcell hb2
  have hz2 := hb2.size
  simp at hz2
  have hlt : w.heap.size < w2.heap.size := by omega
  go_wp2_with (go_at_call 86; refine (HK.out _).mono ?_; rintro e w3 ⟨rfl, hb3⟩; obtain ⟨hc3, hf3⟩ := bcell hb3; have hz3 := hb3.size)
  · refine bodyPost_ret (v := textOut ⟨#[]⟩ 0 5) (by simp [results, Tryz.results222, hc2, go_sem]) rfl ⟨by rw [unsealV_bad HE.out HS.out (not_beq_comm ‹_›)], ?_⟩
    exact (((((((Below.refl w.heap.size w).alloc (Nat.le_refl _) _).drew).trans (hb2.mono (by simp))).setCell (Nat.le_refl _) _).setCell (Nat.le_refl _) _).setCell (Nat.le_refl _) _)
  · refine bodyPost_ret (v := textOut (t.extract 0 (t.size - 4)) 0 0) (by simp [results, Tryz.results222, hc2, hc3, hlt, go_sem]) rfl ⟨by rw [unsealV_good HE.out HS.out (not_beq_comm ‹_›)], ?_⟩
    exact ((((((((Below.refl w.heap.size w).alloc (Nat.le_refl _) _).drew).trans (hb2.mono (by simp))).trans (hb3.mono (by omega))).setCell (Nat.le_refl _) _).setCell (Nat.le_refl _) _).setCell (Nat.le_refl _) _)

end Go.Proofs.YtebkblmejkkhfaaGreatDoor

namespace Go.Proofs.YtebkblmejkkhfaaGreatDoor
open Go.RowKit
set_option linter.unusedVariables false

theorem rd_err_ne {s : ByteArray} {p : Nat} : ∀ (n k u : Nat) {c : Int}, rd s p n k u = .error c → c ≠ 0 := by
  intro n
  induction n with
  | zero => intro k u c h; simp [rd] at h; omega
  | succ n ih =>
    intro k u c h
    rw [rd] at h
    split at h
    · split at h
      · cases h; omega
      · split at h
        · split at h
          · cases h; omega
          · cases h
        · exact ih _ _ h
    · cases h; omega
def gt (s : ByteArray) (p : Nat) : Except Int (ByteArray × Nat) :=
  match rd s p 10 0 0 with
  | .error c => .error c
  | .ok (u, m) => if unzig u < 0 ∨ 20000 < unzig u then .error 3 else if s.size < p + m + (unzig u).toNat then .error 4
      else .ok (s.extract (p + m) (p + m + (unzig u).toNat), p + m + (unzig u).toNat)
def txV : Except Int (ByteArray × Nat) → Value
  | .error c => textOut ⟨#[]⟩ 0 c
  | .ok (t, q) => textOut t q 0
theorem gt_err {s : ByteArray} {p : Nat} {c : Int} (h : gt s p = .error c) : c ≠ 0 := by
  unfold gt at h
  cases hr : rd s p 10 0 0 with
  | error c' => rw [hr] at h; cases h; exact rd_err_ne _ _ _ hr
  | ok x =>
    obtain ⟨u, m⟩ := x
    rw [hr] at h
    simp only at h
    split at h
    · cases h; omega
    · split at h
      · cases h; omega
      · cases h
theorem gt_ok {s : ByteArray} {p : Nat} {t : ByteArray} {q : Nat} (h : gt s p = .ok (t, q)) : t.size ≤ s.size ∧ p ≤ q ∧ q ≤ s.size := by
  unfold gt at h
  cases hr : rd s p 10 0 0 with
  | error c' => rw [hr] at h; cases h
  | ok x =>
    obtain ⟨u, m⟩ := x
    rw [hr] at h
    simp only at h
    split at h
    · cases h
    · split at h
      · cases h
      · cases h
        refine ⟨?_, by omega, by omega⟩
        simp
        omega
theorem textV_rd {s : ByteArray} {p : Nat} :
    (∀ c, rd s p 10 0 0 = .error c → textV s 0 0 c = txV (gt s p)) ∧ (∀ u m, rd s p 10 0 0 = .ok (u, m) → textV s (unzig u) ((p : Int) + m) 0 = txV (gt s p)) := by
  constructor
  · intro c h
    rw [textV_c (rd_err_ne _ _ _ h)]
    unfold gt; rw [h]; rfl
  · intro u m h
    unfold gt; rw [h]
    simp only
    by_cases h1 : unzig u < 0 ∨ 20000 < unzig u
    · rw [if_pos h1, textV_n h1]; rfl
    · rw [if_neg h1]
      by_cases h2 : s.size < p + m + (unzig u).toNat
      · rw [if_pos h2, textV_e h1 (by omega)]; rfl
      · rw [if_neg h2, textV_ok h1 (by omega)]
        have e1 : ((p : Int) + m).toNat = p + m := by omega
        have e2 : ((p : Int) + m + unzig u).toNat = p + m + (unzig u).toNat := by omega
        have e3 : (p : Int) + m + unzig u = ((p + m + (unzig u).toNat : Nat) : Int) := by omega
        rw [e1, e2, e3]; rfl

theorem specGetText_gt (s : ByteArray) (p : Nat) (w : World) (hs : s.size ≤ 20000) (hp : (p : Int) ≤ 9223372036854775807) :
    Calls Tryz.prog 185 #[.string s, .int .i64 p] w fun e w' => e = .returned (txV (gt s p)) ∧ Below w.heap.size w w' := by
  have hN := fun w => specGetNum_any s p w hs hp
  cases hr : rd s p 10 0 0 with
  | error c =>
    rw [hr] at hN
    rw [← textV_rd.1 c hr]
    exact specGetText_of s p 0 0 c w (Lib.hid hN) (fun e => absurd e (rd_err_ne _ _ _ hr))
  | ok x =>
    obtain ⟨u, m⟩ := x
    rw [hr] at hN
    rw [← textV_rd.2 u m hr]
    have := rd_within _ _ _ hr
    exact specGetText_of s p (unzig u) ((p : Int) + m) 0 w (Lib.hid hN) (fun _ => ⟨by omega, by omega, hs⟩)
theorem implGetText_gt (s : ByteArray) (p : Nat) (w : World) (hg : Handle w) (hs : s.size ≤ 20000) (hp : (p : Int) ≤ 9223372036854775807) :
    Calls Tryz.prog 221 #[.string s, .int .i64 p] w fun e w' => e = .returned (txV (gt s p)) ∧ Below w.heap.size w w' := by
  have hN := fun w hg => implGetNum_any s p w hs hp hg
  cases hr : rd s p 10 0 0 with
  | error c =>
    rw [hr] at hN
    rw [← textV_rd.1 c hr]
    exact implGetText_of s p 0 0 c w hg (Lib.hid hN) (fun e => absurd e (rd_err_ne _ _ _ hr))
  | ok x =>
    obtain ⟨u, m⟩ := x
    rw [hr] at hN
    rw [← textV_rd.2 u m hr]
    have := rd_within _ _ _ hr
    exact implGetText_of s p (unzig u) ((p : Int) + m) 0 w hg (Lib.hid hN) (fun _ => ⟨by omega, by omega, hs⟩)

noncomputable def uns (t : ByteArray) : Except Int ByteArray :=
  if t.size < 4 then .error 4
  else if ((strOfNums (fourN (crcOf 0 (t.extract 0 (t.size - 4))))).toList == (t.extract (t.size - 4) t.size).toList) = true then .ok (t.extract 0 (t.size - 4)) else .error 5
def unV : Except Int ByteArray → Value
  | .error c => textOut ⟨#[]⟩ 0 c
  | .ok t => textOut t 0 0
theorem uns_err {t : ByteArray} {c : Int} (h : uns t = .error c) : c ≠ 0 := by
  unfold uns at h
  split at h
  · cases h; omega
  · split at h
    · cases h
    · cases h; omega
theorem uns_ok {t x : ByteArray} (h : uns t = .ok x) : x.size + 4 = t.size := by
  unfold uns at h
  split at h
  · cases h
  · split at h
    · cases h; rw [extract_size t (by omega)]; omega
    · cases h
theorem unsealV_uns {t : ByteArray} (h : 4 ≤ t.size) : unsealV t = unV (uns t) := by
  have h4 : ¬ t.size < 4 := by omega
  by_cases hc : ((strOfNums (fourN (crcOf 0 (t.extract 0 (t.size - 4))))).toList == (t.extract (t.size - 4) t.size).toList) = true
  · rw [show uns t = .ok (t.extract 0 (t.size - 4)) by unfold uns; rw [if_neg h4, if_pos hc]]
    unfold unsealV; rw [if_pos hc]; rfl
  · rw [show uns t = .error 5 by unfold uns; rw [if_neg h4, if_neg hc]]
    unfold unsealV; rw [if_neg hc]; rfl
theorem specUnseal_uns (t : ByteArray) (w : World) (h : t.size ≤ 20000) :
    Calls Tryz.prog 186 #[.string t] w fun e w' => e = .returned (unV (uns t)) ∧ Below w.heap.size w w' := by
  by_cases k4 : t.size < 4
  · have : uns t = .error 4 := by unfold uns; rw [if_pos k4]
    rw [this]; exact specUnseal_short t w k4
  · rw [← unsealV_uns (by omega)]; exact specUnseal_any t w (by omega) h
theorem implUnseal_uns (t : ByteArray) (w : World) (h : t.size ≤ 20000) :
    Calls Tryz.prog 222 #[.string t] w fun e w' => e = .returned (unV (uns t)) ∧ Below w.heap.size w w' := by
  by_cases k4 : t.size < 4
  · have : uns t = .error 4 := by unfold uns; rw [if_pos k4]
    rw [this]; exact implUnseal_short t w k4
  · rw [← unsealV_uns (by omega)]; exact implUnseal_any t w (by omega) h

/-- FrameAt, behind GetText. -/
noncomputable def frU (t : ByteArray) (q : Nat) : Except Int (ByteArray × Nat) :=
  match uns t with
  | .error c => .error c
  | .ok x => if 1000 < x.size then .error 2 else .ok (x, q)
/-- FrameAt. -/
noncomputable def fr (s : ByteArray) (p : Nat) : Except Int (ByteArray × Nat) :=
  match gt s p with
  | .error c => .error c
  | .ok (t, q) => frU t q
end Go.Proofs.YtebkblmejkkhfaaGreatDoor

namespace Go.Proofs.YtebkblmejkkhfaaGreatDoor
open Go.RowKit
set_option linter.unusedVariables false

theorem rd_low {s : ByteArray} {p : Nat} : ∀ (n k u : Nat) {u' m : Nat}, rd s p n k u = .ok (u', m) → k < m ∧ (1 < m → 2 ^ (7 * (m - 1)) ≤ u') := by
  intro n
  induction n with
  | zero => intro k u u' m h; simp [rd] at h
  | succ n ih =>
    intro k u u' m h
    rw [rd] at h
    split at h
    · rename_i hlt
      split at h
      · cases h
      · split at h
        · split at h
          · cases h
          · rename_i hz
            cases h
            refine ⟨by omega, fun hm => ?_⟩
            have hb : 1 ≤ s[p + k].toNat := by omega
            have := Nat.mul_le_mul_right (2 ^ (7 * k)) hb
            rw [Nat.add_sub_cancel]
            omega
        · have := ih _ _ h
          exact ⟨by omega, this.2⟩
    · cases h
theorem rd_cut {s : ByteArray} {p e : Nat} (he : e ≤ s.size) (h2 : p + 10 ≤ e ∨ e = s.size) : ∀ (n k u : Nat), k + n ≤ 10 → rd (s.extract p e) 0 n k u = rd s p n k u := by
  intro n
  induction n with
  | zero => intro k u _; rfl
  | succ n ih =>
    intro k u hk
    have hsz : (s.extract p e).size = e - p := by simp; omega
    rw [rd, rd]
    by_cases h : p + k < s.size
    · have h' : 0 + k < (s.extract p e).size := by omega
      have hb : (s.extract p e)[0 + k] = s[p + k] := by
        rw [ByteArray.getElem_extract]
        simp
      rw [dif_pos h, dif_pos h', hb, ih _ _ (by omega)]
    · have h' : ¬ 0 + k < (s.extract p e).size := by omega
      rw [dif_neg h, dif_neg h']
theorem extract_cut {s : ByteArray} {p e a b : Nat} (he : p + b ≤ e) : (s.extract p e).extract a b = s.extract (p + a) (p + b) := by
  rw [ByteArray.extract_extract]
  congr 1
  omega

theorem fr_err {s : ByteArray} {p : Nat} {c : Int} (h : fr s p = .error c) : c ≠ 0 := by
  unfold fr at h
  cases hg : gt s p with
  | error d => rw [hg] at h; cases h; exact gt_err hg
  | ok x =>
    obtain ⟨t, q⟩ := x
    rw [hg] at h
    simp only [frU] at h
    cases hu : uns t with
    | error d => rw [hu] at h; cases h; exact uns_err hu
    | ok x =>
      rw [hu] at h
      simp only at h
      split at h
      · cases h; omega
      · cases h
theorem fr_ok {s : ByteArray} {p : Nat} {t : ByteArray} {q : Nat} (h : fr s p = .ok (t, q)) : p < q ∧ q ≤ s.size ∧ t.size ≤ 1000 := by
  unfold fr gt at h
  cases hr : rd s p 10 0 0 with
  | error c => rw [hr] at h; cases h
  | ok x =>
    obtain ⟨u, m⟩ := x
    have hm := (rd_low _ _ _ hr).1
    rw [hr] at h
    simp only at h
    by_cases h1 : unzig u < 0 ∨ 20000 < unzig u
    · rw [if_pos h1] at h; cases h
    · rw [if_neg h1] at h
      by_cases h2 : s.size < p + m + (unzig u).toNat
      · rw [if_pos h2] at h; cases h
      · rw [if_neg h2] at h
        simp only [frU] at h
        split at h
        · cases h
        · split at h
          · cases h
          · cases h
            exact ⟨by omega, by omega, by omega⟩
/-- A frame is read alike in a cut that holds the greatest frame. -/
theorem fr_cut {s : ByteArray} {p : Nat} (hp : p ≤ s.size) :
    (∀ t q, fr s p = .ok (t, q) → fr (s.extract p (min (p + 1006) s.size)) 0 = .ok (t, q - p)) ∧ (∀ c, fr s p = .error c → ∃ d, fr (s.extract p (min (p + 1006) s.size)) 0 = .error d) := by
  obtain ⟨e, he⟩ : ∃ e, min (p + 1006) s.size = e := ⟨_, rfl⟩
  rw [he]
  have he1 : e ≤ s.size := by omega
  have he2 : p + 10 ≤ e ∨ e = s.size := by omega
  have hsz : (s.extract p e).size = e - p := by simp; omega
  have hrd := rd_cut (s := s) (p := p) he1 he2 10 0 0 (by omega)
  unfold fr gt
  rw [hrd]
  cases hr : rd s p 10 0 0 with
  | error c => exact ⟨fun t q h => (by cases h), fun d h => ⟨_, rfl⟩⟩
  | ok x =>
    obtain ⟨u, m⟩ := x
    have hm := rd_low _ _ _ hr
    simp only
    by_cases h1 : unzig u < 0 ∨ 20000 < unzig u
    · simp only [if_pos h1]; exact ⟨fun t q h => (by cases h), fun d h => ⟨_, rfl⟩⟩
    · rw [if_neg h1, if_neg h1]
      obtain ⟨N, hN⟩ : ∃ N, (unzig u).toNat = N := ⟨_, rfl⟩
      have hNu : u = 2 * N := by
        have h3 : ¬ unzig u < 0 := by omega
        unfold unzig at h3 hN
        split at h3
        · omega
        · rename_i h4; rw [if_neg h4] at hN; omega
      rw [hN, hsz]
      by_cases h2 : s.size < p + m + N
      · rw [if_pos h2, if_pos (by omega)]; exact ⟨fun t q h => (by cases h), fun d h => ⟨_, rfl⟩⟩
      · rw [if_neg h2]
        by_cases h3 : N ≤ 1004
        · have hm2 : m ≤ 2 := by
            rcases Nat.lt_or_ge 2 m with h4 | h4
            · have h5 := hm.2 (by omega)
              have h6 : 2 ^ 14 ≤ 2 ^ (7 * (m - 1)) := Nat.pow_le_pow_right (by omega) (by omega)
              have h7 : (2 : Nat) ^ 14 = 16384 := by decide
              omega
            · exact h4
          rw [if_neg (by omega)]
          simp only
          have e1 : (s.extract p e).extract (0 + m) (0 + m + N) = s.extract (p + m) (p + m + N) := by
            rw [extract_cut (by omega)]
            congr 1
            · omega
            · omega
          rw [e1]
          unfold frU
          cases hu : uns (s.extract (p + m) (p + m + N)) with
          | error c => exact ⟨fun t q h => (by cases h), fun d h => ⟨_, rfl⟩⟩
          | ok x =>
            simp only
            split
            · exact ⟨fun t q h => (by cases h), fun d h => ⟨_, rfl⟩⟩
            · refine ⟨fun t q h => ?_, fun d h => (by cases h)⟩
              cases h
              congr 2
              omega
        · have key : ∀ (t : ByteArray) (r : Nat), t.size = N → ∃ d, frU t r = .error d := by
            intro t r ht
            unfold frU
            cases hu : uns t with
            | error c => exact ⟨_, rfl⟩
            | ok x =>
              have := uns_ok hu
              simp only
              rw [if_pos (by omega)]
              exact ⟨_, rfl⟩
          have z1 : (s.extract (p + m) (p + m + N)).size = N := by simp; omega
          obtain ⟨d, hd⟩ := key _ (p + m + N) z1
          refine ⟨fun t q h => ?_, fun c h => ?_⟩
          · simp only [hd] at h; cases h
          · by_cases h5 : e - p < 0 + m + N
            · rw [if_pos h5]; exact ⟨_, rfl⟩
            · rw [if_neg h5]
              simp only
              exact key _ _ (by simp; omega)

/-- The frames from p on: each string, and the offset behind its frame. -/
noncomputable def frs (s : ByteArray) (p : Nat) : List (ByteArray × Nat) :=
  match fr s p with
  | .error _ => []
  | .ok (t, q) => if h : p < q ∧ q ≤ s.size then (t, q) :: frs s q else []
termination_by s.size - p
decreasing_by omega
theorem frs_err {s : ByteArray} {p : Nat} {c : Int} (h : fr s p = .error c) : frs s p = [] := by rw [frs, h]
theorem frs_ok {s : ByteArray} {p : Nat} {t : ByteArray} {q : Nat} (h : fr s p = .ok (t, q)) : frs s p = (t, q) :: frs s q := by
  have := fr_ok h
  rw [frs, h]
  simp only
  rw [dif_pos ⟨this.1, this.2.1⟩]
theorem frs_len {s : ByteArray} : ∀ (n p : Nat), s.size - p ≤ n → (frs s p).length ≤ n := by
  intro n
  induction n with
  | zero =>
    intro p hp
    cases h : fr s p with
    | error c => rw [frs_err h]; simp
    | ok x => obtain ⟨t, q⟩ := x; have := fr_ok h; omega
  | succ n ih =>
    intro p hp
    cases h : fr s p with
    | error c => rw [frs_err h]; simp
    | ok x =>
      obtain ⟨t, q⟩ := x
      have := fr_ok h
      rw [frs_ok h]
      simp
      exact ih q (by omega)
def endOf (l : List (ByteArray × Nat)) : Nat := (l.getLast?.map Prod.snd).getD 0
theorem endOf_snoc (l : List (ByteArray × Nat)) (x : ByteArray × Nat) : endOf (l ++ [x]) = x.2 := by simp [endOf]
end Go.Proofs.YtebkblmejkkhfaaGreatDoor
