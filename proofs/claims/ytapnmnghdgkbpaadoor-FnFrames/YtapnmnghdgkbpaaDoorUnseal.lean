/- Contracts of Unseal. -/
import Derived.Test.YtapnmnghdgkbpaaDoorSeal
import Derived.Deep.RegionWith
import Derived.IntWalk
namespace Go.Proofs.YtapnmnghdgkbpaaDoor
open Go.RowKit
set_option linter.unusedVariables false

set_option maxHeartbeats 1000000 in
theorem specUnseal_size (t : ByteArray) (w : World) (hs : t.size ≤ maxLen) (h : 20000 < t.size) :
    Calls Tryd.prog 97 #[.string t] w fun e w' => e = .returned (textOut ⟨#[]⟩ 0 2) ∧ Below w.heap.size w w' := by
  unfold maxLen at hs
  go_enter Tryd.func97, Tryd.ntmps97
  go_wp2
  exact bodyPost_ret (v := textOut ⟨#[]⟩ 0 2) (by simp [results, Tryd.results97, go_sem]) rfl ⟨rfl, (Below.refl _ _).alloc (Nat.le_refl _) _⟩

set_option maxHeartbeats 1000000 in
theorem specUnseal_short (t : ByteArray) (w : World) (h : t.size < 4) :
    Calls Tryd.prog 97 #[.string t] w fun e w' => e = .returned (textOut ⟨#[]⟩ 0 4) ∧ Below w.heap.size w w' := by
  go_enter Tryd.func97, Tryd.ntmps97
  go_wp2
  exact bodyPost_ret (v := textOut ⟨#[]⟩ 0 4) (by simp [results, Tryd.results97, go_sem]) rfl ⟨rfl, (Below.refl _ _).alloc (Nat.le_refl _) _⟩

theorem extract_size (t : ByteArray) (h : 4 ≤ t.size) : (t.extract 0 (t.size - 4)).size = t.size - 4 := by simp

noncomputable def unsealV (t : ByteArray) : Value :=
  if ((strOfNums (fourN (crcOf 0 (t.extract 0 (t.size - 4))))).toList == (t.extract (t.size - 4) t.size).toList) = true then textOut (t.extract 0 (t.size - 4)) 0 0 else textOut ⟨#[]⟩ 0 5
theorem unsealV_bad {t s4 : ByteArray} {c : Int} (HE : crcOf 0 (t.extract 0 (t.size - 4)) = c) (HS : strOfNums (fourN c) = s4) (h : (!s4.toList == (t.extract (t.size - 4) t.size).toList) = true) : unsealV t = textOut ⟨#[]⟩ 0 5 := by
  unfold unsealV; rw [HE, HS]; rw [if_neg (by simpa using h)]
theorem unsealV_good {t s4 : ByteArray} {c : Int} (HE : crcOf 0 (t.extract 0 (t.size - 4)) = c) (HS : strOfNums (fourN c) = s4) (h : (!s4.toList == (t.extract (t.size - 4) t.size).toList) = false) : unsealV t = textOut (t.extract 0 (t.size - 4)) 0 0 := by
  unfold unsealV; rw [HE, HS]; rw [if_pos (by simpa using h)]
theorem not_beq_comm {a b : List UInt8} {x : Bool} (h : (!a == b) = x) : (!b == a) = x := by rw [← h]; cases h1 : b == a <;> cases h2 : a == b <;> simp_all

set_option maxHeartbeats 2000000 in
theorem specUnseal_any (t : ByteArray) (w : World) (h : 4 ≤ t.size) (h2 : t.size ≤ 20000) :
    Calls Tryd.prog 97 #[.string t] w fun e w' => e = .returned (unsealV t) ∧ Below w.heap.size w w' := by
  have hx := extract_size t h
  obtain ⟨c0, c1⟩ := crcOf_bd 0 (t.extract 0 (t.size - 4))
  have HC := Lib.hid (fun w => l01Crc_any 0 (t.extract 0 (t.size - 4)) w (by omega) (by omega) (by unfold maxLen; omega))
  obtain ⟨c, HE⟩ : ∃ c, Hid (crcOf 0 (t.extract 0 (t.size - 4)) = c) := ⟨_, rfl⟩
  rw [HE.out] at HC c0 c1
  have HF := Lib.hid (fun w => four_any c w c0 c1)
  obtain ⟨s4, HS⟩ : ∃ s, Hid (strOfNums (fourN c) = s) := ⟨_, rfl⟩
  rw [HS.out] at HF
  clear hx
  have i1 : IntKind.i64.wrap ((t.size : Int) - 4) = (t.size : Int) - 4 := IntWalk.i64_in _ (by omega)
  have i2 : (0 : Int) ≤ (t.size : Int) - 4 := by omega
  have i3 : (t.size : Int) - 4 ≤ (t.size : Int) := by omega
  have i4 : ((t.size : Int) - 4).toNat = t.size - 4 := by omega
  have i5 : (4 : Int) ≤ (t.size : Int) := by omega
  go_enter Tryd.func97, Tryd.ntmps97
  go_wp2
  go_region_with (first
    | (go_at_call 102; refine (HC.out _).mono ?_; rintro e w1 ⟨rfl, rfl⟩)
    | (go_at_call 101; refine (HF.out _).mono ?_; rintro e w2 ⟨rfl, hb2⟩))
  obtain ⟨hc2, hf2⟩ := bcell hb2
  have hz2 := hb2.size
  simp at hz2
  go_wp2
  · refine bodyPost_ret (v := textOut ⟨#[]⟩ 0 5) (by simp [results, Tryd.results97, hc2, go_sem]) rfl ⟨by rw [unsealV_bad HE.out HS.out ‹_›], ?_⟩
    exact (((((((Below.refl w.heap.size w).alloc (Nat.le_refl _) _).drew).trans (hb2.mono (by simp))).setCell (Nat.le_refl _) _).setCell (Nat.le_refl _) _).setCell (Nat.le_refl _) _)
  · refine bodyPost_ret (v := textOut (t.extract 0 (t.size - 4)) 0 0) (by simp [results, Tryd.results97, hc2, go_sem]) rfl ⟨by rw [unsealV_good HE.out HS.out ‹_›], ?_⟩
    exact (((((((Below.refl w.heap.size w).alloc (Nat.le_refl _) _).drew).trans (hb2.mono (by simp))).setCell (Nat.le_refl _) _).setCell (Nat.le_refl _) _).setCell (Nat.le_refl _) _)

set_option maxHeartbeats 1000000 in
theorem implUnseal_size (t : ByteArray) (w : World) (hs : t.size ≤ maxLen) (h : 20000 < t.size) :
    Calls Tryd.prog 57 #[.string t] w fun e w' => e = .returned (textOut ⟨#[]⟩ 0 2) ∧ Below w.heap.size w w' := by
  unfold maxLen at hs
  go_enter Tryd.func57, Tryd.ntmps57
  go_wp2
  exact bodyPost_ret (v := textOut ⟨#[]⟩ 0 2) (by simp [results, Tryd.results57, go_sem]) rfl ⟨rfl, (Below.refl _ _).alloc (Nat.le_refl _) _⟩

set_option maxHeartbeats 1000000 in
theorem implUnseal_short (t : ByteArray) (w : World) (h : t.size < 4) :
    Calls Tryd.prog 57 #[.string t] w fun e w' => e = .returned (textOut ⟨#[]⟩ 0 4) ∧ Below w.heap.size w w' := by
  go_enter Tryd.func57, Tryd.ntmps57
  go_wp2
  exact bodyPost_ret (v := textOut ⟨#[]⟩ 0 4) (by simp [results, Tryd.results57, go_sem]) rfl ⟨rfl, (Below.refl _ _).alloc (Nat.le_refl _) _⟩

set_option maxHeartbeats 2000000 in
theorem implUnseal_any (t : ByteArray) (w : World) (h : 4 ≤ t.size) (h2 : t.size ≤ 20000) :
    Calls Tryd.prog 57 #[.string t] w fun e w' => e = .returned (unsealV t) ∧ Below w.heap.size w w' := by
  have hx := extract_size t h
  obtain ⟨c0, c1⟩ := crcOf_bd 0 (t.extract 0 (t.size - 4))
  have HC := Lib.hid (fun w => implCrc_any (t.extract 0 (t.size - 4)) w (by omega))
  have HK := Lib.hid (fun w => clone_any (t.extract 0 (t.size - 4)) w (by omega))
  obtain ⟨c, HE⟩ : ∃ c, Hid (crcOf 0 (t.extract 0 (t.size - 4)) = c) := ⟨_, rfl⟩
  rw [HE.out] at HC c0 c1
  have HF := Lib.hid (fun w => crcText_any c w c0 c1)
  obtain ⟨s4, HS⟩ : ∃ s, Hid (strOfNums (fourN c) = s) := ⟨_, rfl⟩
  rw [HS.out] at HF
  clear hx
  have i2 : (0 : Int) ≤ (t.size : Int) - 4 := by omega
  have i3 : (t.size : Int) - 4 ≤ (t.size : Int) := by omega
  have i4 : ((t.size : Int) - 4).toNat = t.size - 4 := by omega
  have i5 : (4 : Int) ≤ (t.size : Int) := by omega
  go_enter Tryd.func57, Tryd.ntmps57
  go_wp2
  go_region_with (first
    | (go_at_call 95; refine (HC.out _).mono ?_; rintro e w1 ⟨rfl, rfl⟩)
    | (go_at_call 94; refine (HF.out _).mono ?_; rintro e w2 ⟨rfl, hb2⟩))
  obtain ⟨hc2, hf2⟩ := bcell hb2
  have hz2 := hb2.size
  simp at hz2
  have hlt : w.heap.size < w2.heap.size := by omega
  go_wp2_with (go_at_call 93; refine (HK.out _).mono ?_; rintro e w3 ⟨rfl, hb3⟩; obtain ⟨hc3, hf3⟩ := bcell hb3; have hz3 := hb3.size)
  · refine bodyPost_ret (v := textOut ⟨#[]⟩ 0 5) (by simp [results, Tryd.results57, hc2, go_sem]) rfl ⟨by rw [unsealV_bad HE.out HS.out (not_beq_comm ‹_›)], ?_⟩
    exact (((((((Below.refl w.heap.size w).alloc (Nat.le_refl _) _).drew).trans (hb2.mono (by simp))).setCell (Nat.le_refl _) _).setCell (Nat.le_refl _) _).setCell (Nat.le_refl _) _)
  · refine bodyPost_ret (v := textOut (t.extract 0 (t.size - 4)) 0 0) (by simp [results, Tryd.results57, hc2, hc3, hlt, go_sem]) rfl ⟨by rw [unsealV_good HE.out HS.out (not_beq_comm ‹_›)], ?_⟩
    exact ((((((((Below.refl w.heap.size w).alloc (Nat.le_refl _) _).drew).trans (hb2.mono (by simp))).trans (hb3.mono (by omega))).setCell (Nat.le_refl _) _).setCell (Nat.le_refl _) _).setCell (Nat.le_refl _) _)

end Go.Proofs.YtapnmnghdgkbpaaDoor
