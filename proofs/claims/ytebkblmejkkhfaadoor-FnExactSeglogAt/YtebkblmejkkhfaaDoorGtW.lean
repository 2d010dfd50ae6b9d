/- Contracts of Unseal. What GetText, Unseal and FrameAt answer, as functions of the string and the place; the contracts of GetText and Unseal in these words. -/
import Derived.Test.YtebkblmejkkhfaaDoorSealW
import Derived.Deep.RegionWith
import Derived.IntWalk
import Derived.Test.YtebkblmejkkhfaaDoorJoinedW
namespace Go.Proofs.YtebkblmejkkhfaaDoor
open Go.RowKit
set_option linter.unusedVariables false

set_option maxHeartbeats 1000000 in
theorem specUnseal_size (t : ByteArray) (w : World) (hs : t.size ≤ maxLen) (h : 20000 < t.size) :
    Calls Tryd.prog 68 #[.string t] w fun e w' => e = .returned (textOut ⟨#[]⟩ 0 2) ∧ Below w.heap.size w w' := by
  unfold maxLen at hs
  go_enter Tryd.func68, Tryd.ntmps68
  go_wp2
  exact bodyPost_ret (v := textOut ⟨#[]⟩ 0 2) (by simp [results, Tryd.results68, go_sem]) rfl ⟨rfl, (Below.refl _ _).alloc (Nat.le_refl _) _⟩

set_option maxHeartbeats 1000000 in
theorem specUnseal_short (t : ByteArray) (w : World) (h : t.size < 4) :
    Calls Tryd.prog 68 #[.string t] w fun e w' => e = .returned (textOut ⟨#[]⟩ 0 4) ∧ Below w.heap.size w w' := by
  go_enter Tryd.func68, Tryd.ntmps68
  go_wp2
  exact bodyPost_ret (v := textOut ⟨#[]⟩ 0 4) (by simp [results, Tryd.results68, go_sem]) rfl ⟨rfl, (Below.refl _ _).alloc (Nat.le_refl _) _⟩

theorem extract_size (t : ByteArray) (h : 4 ≤ t.size) : (t.extract 0 (t.size - 4)).size = t.size - 4 := by simp

noncomputable def unsealV (t : ByteArray) : Value :=
  if ((strOfNums (fourN (crcOf 0 (t.extract 0 (t.size - 4))))).toList == (t.extract (t.size - 4) t.size).toList) = true then textOut (t.extract 0 (t.size - 4)) 0 0 else textOut ⟨#[]⟩ 0 5
theorem unsealV_bad {t s4 : ByteArray} {c : Int} (HE : crcOf 0 (t.extract 0 (t.size - 4)) = c) (HS : strOfNums (fourN c) = s4) (h : (!s4.toList == (t.extract (t.size - 4) t.size).toList) = true) : unsealV t = textOut ⟨#[]⟩ 0 5 := by
  unfold unsealV; rw [HE, HS]; rw [if_neg (by simpa using h)]
theorem unsealV_good {t s4 : ByteArray} {c : Int} (HE : crcOf 0 (t.extract 0 (t.size - 4)) = c) (HS : strOfNums (fourN c) = s4) (h : (!s4.toList == (t.extract (t.size - 4) t.size).toList) = false) : unsealV t = textOut (t.extract 0 (t.size - 4)) 0 0 := by
  unfold unsealV; rw [HE, HS]; rw [if_pos (by simpa using h)]
theorem not_beq_comm {a b : List UInt8} {x : Bool} (h : (!a == b) = x) : (!b == a) = x := by rw [← h]; cases h1 : b == a <;> cases h2 : a == b <;> simp_all

set_option maxHeartbeats 2000000 in
theorem specUnseal_any (t : ByteArray) (w : World) (h : 4 ≤ t.size) (h2 : t.size ≤ 20000) :
    Calls Tryd.prog 68 #[.string t] w fun e w' => e = .returned (unsealV t) ∧ Below w.heap.size w w' := by
  have hx := extract_size t h
  obtain ⟨c0, c1⟩ := crcOf_bd 0 (t.extract 0 (t.size - 4))
  have HC := Lib.hid (fun w => l01Crc_any 0 (t.extract 0 (t.size - 4)) w (by omega) (by omega) (by unfold maxLen; omega))
  obtain ⟨c, HE⟩ : ∃ c, Hid (crcOf 0 (t.extract 0 (t.size - 4)) = c) := ⟨_, rfl⟩
  rw [HE.out] at HC c0 c1
  have HF := Lib.hid (fun w => four_any c w c0 c1)
  obtain ⟨s4, HS⟩ : ∃ s, Hid (strOfNums (fourN c) = s) := ⟨_, rfl⟩
  rw [HS.out] at HF
  clear hx
  have i1 : IntKind.i64.wrap ((t.size : Int) - 4) = (t.size : Int) - 4 := IntWalk.i64_in _ (by omega)
  have i2 : (0 : Int) ≤ (t.size : Int) - 4 := by omega
  have i3 : (t.size : Int) - 4 ≤ (t.size : Int) := by omega
  have i4 : ((t.size : Int) - 4).toNat = t.size - 4 := by omega
  have i5 : (4 : Int) ≤ (t.size : Int) := by omega
  go_enter Tryd.func68, Tryd.ntmps68
  go_wp2
  go_region_with (first
    | (go_at_call 76; refine (HC.out _).mono ?_; rintro e w1 ⟨rfl, rfl⟩)
    | (go_at_call 75; refine (HF.out _).mono ?_; rintro e w2 ⟨rfl, hb2⟩))
  obtain ⟨hc2, hf2⟩ := bcell hb2
  have hz2 := hb2.size
  simp at hz2
  go_wp2
  · refine bodyPost_ret (v := textOut ⟨#[]⟩ 0 5) (by simp [results, Tryd.results68, hc2, go_sem]) rfl ⟨by rw [unsealV_bad HE.out HS.out ‹_›], ?_⟩
    exact (((((((Below.refl w.heap.size w).alloc (Nat.le_refl _) _).drew).trans (hb2.mono (by simp))).setCell (Nat.le_refl _) _).setCell (Nat.le_refl _) _).setCell (Nat.le_refl _) _)
  · refine bodyPost_ret (v := textOut (t.extract 0 (t.size - 4)) 0 0) (by simp [results, Tryd.results68, hc2, go_sem]) rfl ⟨by rw [unsealV_good HE.out HS.out ‹_›], ?_⟩
    exact (((((((Below.refl w.heap.size w).alloc (Nat.le_refl _) _).drew).trans (hb2.mono (by simp))).setCell (Nat.le_refl _) _).setCell (Nat.le_refl _) _).setCell (Nat.le_refl _) _)

set_option maxHeartbeats 1000000 in
theorem implUnseal_size (t : ByteArray) (w : World) (hs : t.size ≤ maxLen) (h : 20000 < t.size) :
    Calls Tryd.prog 78 #[.string t] w fun e w' => e = .returned (textOut ⟨#[]⟩ 0 2) ∧ Below w.heap.size w w' := by
  unfold maxLen at hs
  go_enter Tryd.func78, Tryd.ntmps78
  go_wp2
  exact bodyPost_ret (v := textOut ⟨#[]⟩ 0 2) (by simp [results, Tryd.results78, go_sem]) rfl ⟨rfl, (Below.refl _ _).alloc (Nat.le_refl _) _⟩

set_option maxHeartbeats 1000000 in
theorem implUnseal_short (t : ByteArray) (w : World) (h : t.size < 4) :
    Calls Tryd.prog 78 #[.string t] w fun e w' => e = .returned (textOut ⟨#[]⟩ 0 4) ∧ Below w.heap.size w w' := by
  go_enter Tryd.func78, Tryd.ntmps78
  go_wp2
  exact bodyPost_ret (v := textOut ⟨#[]⟩ 0 4) (by simp [results, Tryd.results78, go_sem]) rfl ⟨rfl, (Below.refl _ _).alloc (Nat.le_refl _) _⟩

set_option maxHeartbeats 2000000 in
theorem implUnseal_any (t : ByteArray) (w : World) (h : 4 ≤ t.size) (h2 : t.size ≤ 20000) :
    Calls Tryd.prog 78 #[.string t] w fun e w' => e = .returned (unsealV t) ∧ Below w.heap.size w w' := by
  have hx := extract_size t h
  obtain ⟨c0, c1⟩ := crcOf_bd 0 (t.extract 0 (t.size - 4))
  have HC := Lib.hid (fun w => implCrc_any (t.extract 0 (t.size - 4)) w (by omega))
  have HK := Lib.hid (fun w => clone_any (t.extract 0 (t.size - 4)) w (by omega))
  obtain ⟨c, HE⟩ : ∃ c, Hid (crcOf 0 (t.extract 0 (t.size - 4)) = c) := ⟨_, rfl⟩
  rw [HE.out] at HC c0 c1
  have HF := Lib.hid (fun w => crcText_any c w c0 c1)
  obtain ⟨s4, HS⟩ : ∃ s, Hid (strOfNums (fourN c) = s) := ⟨_, rfl⟩
  rw [HS.out] at HF
  clear hx
  have i2 : (0 : Int) ≤ (t.size : Int) - 4 := by omega
  have i3 : (t.size : Int) - 4 ≤ (t.size : Int) := by omega
  have i4 : ((t.size : Int) - 4).toNat = t.size - 4 := by omega
  have i5 : (4 : Int) ≤ (t.size : Int) := by omega
  go_enter Tryd.func78, Tryd.ntmps78
  go_wp2
  go_region_with (first
    | (go_at_call 82; refine (HC.out _).mono ?_; rintro e w1 ⟨rfl, rfl⟩)
    | (go_at_call 81; refine (HF.out _).mono ?_; rintro e w2 ⟨rfl, hb2⟩))
  obtain ⟨hc2, hf2⟩ := bcell hb2
  have hz2 := hb2.size
  simp at hz2
  have hlt : w.heap.size < w2.heap.size := by omega
  go_wp2_with (go_at_call 80; refine (HK.out _).mono ?_; rintro e w3 ⟨rfl, hb3⟩; obtain ⟨hc3, hf3⟩ := bcell hb3; have hz3 := hb3.size)
  · refine bodyPost_ret (v := textOut ⟨#[]⟩ 0 5) (by simp [results, Tryd.results78, hc2, go_sem]) rfl ⟨by rw [unsealV_bad HE.out HS.out (not_beq_comm ‹_›)], ?_⟩
    exact (((((((Below.refl w.heap.size w).alloc (Nat.le_refl _) _).drew).trans (hb2.mono (by simp))).setCell (Nat.le_refl _) _).setCell (Nat.le_refl _) _).setCell (Nat.le_refl _) _)
  · refine bodyPost_ret (v := textOut (t.extract 0 (t.size - 4)) 0 0) (by simp [results, Tryd.results78, hc2, hc3, hlt, go_sem]) rfl ⟨by rw [unsealV_good HE.out HS.out (not_beq_comm ‹_›)], ?_⟩
    exact ((((((((Below.refl w.heap.size w).alloc (Nat.le_refl _) _).drew).trans (hb2.mono (by simp))).trans (hb3.mono (by omega))).setCell (Nat.le_refl _) _).setCell (Nat.le_refl _) _).setCell (Nat.le_refl _) _)

end Go.Proofs.YtebkblmejkkhfaaDoor

namespace Go.Proofs.YtebkblmejkkhfaaDoor
open Go.RowKit
set_option linter.unusedVariables false

theorem rd_err_ne {s : ByteArray} {p : Nat} : ∀ (n k u : Nat) {c : Int}, rd s p n k u = .error c → c ≠ 0 := by
  intro n
  induction n with
  | zero => intro k u c h; simp [rd] at h; omega
  | succ n ih =>
    intro k u c h
    rw [rd] at h
    split at h
    · split at h
      · cases h; omega
      · split at h
        · split at h
          · cases h; omega
          · cases h
        · exact ih _ _ h
    · cases h; omega
def gt (s : ByteArray) (p : Nat) : Except Int (ByteArray × Nat) :=
  match rd s p 10 0 0 with
  | .error c => .error c
  | .ok (u, m) => if unzig u < 0 ∨ 20000 < unzig u then .error 3 else if s.size < p + m + (unzig u).toNat then .error 4
      else .ok (s.extract (p + m) (p + m + (unzig u).toNat), p + m + (unzig u).toNat)
def txV : Except Int (ByteArray × Nat) → Value
  | .error c => textOut ⟨#[]⟩ 0 c
  | .ok (t, q) => textOut t q 0
theorem gt_err {s : ByteArray} {p : Nat} {c : Int} (h : gt s p = .error c) : c ≠ 0 := by
  unfold gt at h
  cases hr : rd s p 10 0 0 with
  | error c' => rw [hr] at h; cases h; exact rd_err_ne _ _ _ hr
  | ok x =>
    obtain ⟨u, m⟩ := x
    rw [hr] at h
    simp only at h
    split at h
    · cases h; omega
    · split at h
      · cases h; omega
      · cases h
theorem gt_ok {s : ByteArray} {p : Nat} {t : ByteArray} {q : Nat} (h : gt s p = .ok (t, q)) : t.size ≤ s.size ∧ p ≤ q ∧ q ≤ s.size := by
  unfold gt at h
  cases hr : rd s p 10 0 0 with
  | error c' => rw [hr] at h; cases h
  | ok x =>
    obtain ⟨u, m⟩ := x
    rw [hr] at h
    simp only at h
    split at h
    · cases h
    · split at h
      · cases h
      · cases h
        refine ⟨?_, by omega, by omega⟩
        simp
        omega
theorem textV_rd {s : ByteArray} {p : Nat} :
    (∀ c, rd s p 10 0 0 = .error c → textV s 0 0 c = txV (gt s p)) ∧ (∀ u m, rd s p 10 0 0 = .ok (u, m) → textV s (unzig u) ((p : Int) + m) 0 = txV (gt s p)) := by
  constructor
  · intro c h
    rw [textV_c (rd_err_ne _ _ _ h)]
    unfold gt; rw [h]; rfl
  · intro u m h
    unfold gt; rw [h]
    simp only
    by_cases h1 : unzig u < 0 ∨ 20000 < unzig u
    · rw [if_pos h1, textV_n h1]; rfl
    · rw [if_neg h1]
      by_cases h2 : s.size < p + m + (unzig u).toNat
      · rw [if_pos h2, textV_e h1 (by omega)]; rfl
      · rw [if_neg h2, textV_ok h1 (by omega)]
        have e1 : ((p : Int) + m).toNat = p + m := by omega
        have e2 : ((p : Int) + m + unzig u).toNat = p + m + (unzig u).toNat := by omega
        have e3 : (p : Int) + m + unzig u = ((p + m + (unzig u).toNat : Nat) : Int) := by omega
        rw [e1, e2, e3]; rfl

theorem specGetText_gt (s : ByteArray) (p : Nat) (w : World) (hs : s.size ≤ 20000) (hp : (p : Int) ≤ 9223372036854775807) :
    Calls Tryd.prog 67 #[.string s, .int .i64 p] w fun e w' => e = .returned (txV (gt s p)) ∧ Below w.heap.size w w' := by
  have hN := fun w => specGetNum_any s p w hs hp
  cases hr : rd s p 10 0 0 with
  | error c =>
    rw [hr] at hN
    rw [← textV_rd.1 c hr]
    exact specGetText_of s p 0 0 c w (Lib.hid hN) (fun e => absurd e (rd_err_ne _ _ _ hr))
  | ok x =>
    obtain ⟨u, m⟩ := x
    rw [hr] at hN
    rw [← textV_rd.2 u m hr]
    have := rd_within _ _ _ hr
    exact specGetText_of s p (unzig u) ((p : Int) + m) 0 w (Lib.hid hN) (fun _ => ⟨by omega, by omega, hs⟩)
theorem implGetText_gt (s : ByteArray) (p : Nat) (w : World) (hg : Handle w) (hs : s.size ≤ 20000) (hp : (p : Int) ≤ 9223372036854775807) :
    Calls Tryd.prog 77 #[.string s, .int .i64 p] w fun e w' => e = .returned (txV (gt s p)) ∧ Below w.heap.size w w' := by
  have hN := fun w hg => implGetNum_any s p w hs hp hg
  cases hr : rd s p 10 0 0 with
  | error c =>
    rw [hr] at hN
    rw [← textV_rd.1 c hr]
    exact implGetText_of s p 0 0 c w hg (Lib.hid hN) (fun e => absurd e (rd_err_ne _ _ _ hr))
  | ok x =>
    obtain ⟨u, m⟩ := x
    rw [hr] at hN
    rw [← textV_rd.2 u m hr]
    have := rd_within _ _ _ hr
    exact implGetText_of s p (unzig u) ((p : Int) + m) 0 w hg (Lib.hid hN) (fun _ => ⟨by omega, by omega, hs⟩)

noncomputable def uns (t : ByteArray) : Except Int ByteArray :=
  if t.size < 4 then .error 4
  else if ((strOfNums (fourN (crcOf 0 (t.extract 0 (t.size - 4))))).toList == (t.extract (t.size - 4) t.size).toList) = true then .ok (t.extract 0 (t.size - 4)) else .error 5
def unV : Except Int ByteArray → Value
  | .error c => textOut ⟨#[]⟩ 0 c
  | .ok t => textOut t 0 0
theorem uns_err {t : ByteArray} {c : Int} (h : uns t = .error c) : c ≠ 0 := by
  unfold uns at h
  split at h
  · cases h; omega
  · split at h
    · cases h
    · cases h; omega
theorem uns_ok {t x : ByteArray} (h : uns t = .ok x) : x.size + 4 = t.size := by
  unfold uns at h
  split at h
  · cases h
  · split at h
    · cases h; rw [extract_size t (by omega)]; omega
    · cases h
theorem unsealV_uns {t : ByteArray} (h : 4 ≤ t.size) : unsealV t = unV (uns t) := by
  have h4 : ¬ t.size < 4 := by omega
  by_cases hc : ((strOfNums (fourN (crcOf 0 (t.extract 0 (t.size - 4))))).toList == (t.extract (t.size - 4) t.size).toList) = true
  · rw [show uns t = .ok (t.extract 0 (t.size - 4)) by unfold uns; rw [if_neg h4, if_pos hc]]
    unfold unsealV; rw [if_pos hc]; rfl
  · rw [show uns t = .error 5 by unfold uns; rw [if_neg h4, if_neg hc]]
    unfold unsealV; rw [if_neg hc]; rfl
theorem specUnseal_uns (t : ByteArray) (w : World) (h : t.size ≤ 20000) :
    Calls Tryd.prog 68 #[.string t] w fun e w' => e = .returned (unV (uns t)) ∧ Below w.heap.size w w' := by
  by_cases k4 : t.size < 4
  · have : uns t = .error 4 := by unfold uns; rw [if_pos k4]
    rw [this]; exact specUnseal_short t w k4
  · rw [← unsealV_uns (by omega)]; exact specUnseal_any t w (by omega) h
theorem implUnseal_uns (t : ByteArray) (w : World) (h : t.size ≤ 20000) :
    Calls Tryd.prog 78 #[.string t] w fun e w' => e = .returned (unV (uns t)) ∧ Below w.heap.size w w' := by
  by_cases k4 : t.size < 4
  · have : uns t = .error 4 := by unfold uns; rw [if_pos k4]
    rw [this]; exact implUnseal_short t w k4
  · rw [← unsealV_uns (by omega)]; exact implUnseal_any t w (by omega) h

/-- FrameAt, behind GetText. -/
noncomputable def frU (t : ByteArray) (q : Nat) : Except Int (ByteArray × Nat) :=
  match uns t with
  | .error c => .error c
  | .ok x => if 1000 < x.size then .error 2 else .ok (x, q)
/-- FrameAt. -/
noncomputable def fr (s : ByteArray) (p : Nat) : Except Int (ByteArray × Nat) :=
  match gt s p with
  | .error c => .error c
  | .ok (t, q) => frU t q
end Go.Proofs.YtebkblmejkkhfaaDoor
