/- The walk of the law of GetNum; contracts of GetText over those of GetNum. Contracts of GetText over those of GetNum, and the walk of its law. Contracts of Unseal. -/
import Derived.Test.YtebkblmejkkhfaaGreatDoorGetImplW
import Derived.Test.YtebkblmejkkhfaaGreatDoorNameW
import Derived.Test.YtebkblmejkkhfaaGreatDoorCloneW
import Derived.RegionTactic
import Derived.BigRegion
import Derived.Test.YtebkblmejkkhfaaGreatDoorDecW
import Derived.Deep.RegionWith
import Derived.IntWalk
namespace Go.Proofs.YtebkblmejkkhfaaGreatDoor
open Go.RowKit
set_option linter.unusedVariables false
/-- What rd reads lies within the string. -/
theorem rd_within {s : ByteArray} {p : Nat} : ∀ (n k u : Nat) {u' m : Nat}, rd s p n k u = .ok (u', m) → p + m ≤ s.size := by
  intro n
  induction n with
  | zero => intro k u u' m h; simp [rd] at h
  | succ n ih =>
    intro k u u' m h
    rw [rd] at h
    split at h
    · rename_i hlt
      split at h
      · cases h
      · split at h
        · split at h
          · cases h
          · cases h; omega
        · exact ih _ _ h
    · cases h

/-- GetNum: spec and impl answer alike; a good answer's offset lies within the string. -/
theorem getNum_both (s : ByteArray) (a0 : Int) (ws : s.size ≤ maxLen) (wa : -9223372036854775808 ≤ a0 ∧ a0 ≤ 9223372036854775807) :
    ∃ n a c : Int, (c = 0 → 0 ≤ a ∧ a ≤ s.size ∧ s.size ≤ 20000) ∧ (∀ w, Calls Tryz.prog 202 #[.string s, .int .i64 a0] w fun e w' => e = .returned (numOut n a c) ∧ Below w.heap.size w w') ∧
      (∀ w, Handle w → Calls Tryz.prog 233 #[.string s, .int .i64 a0] w fun e w' => e = .returned (numOut n a c) ∧ Below w.heap.size w w') := by
  by_cases h1 : 20000 < s.size
  · exact ⟨0, 0, 2, by omega, fun w => specGetNum_size s a0 w ws h1, fun w _ => implGetNum_size s a0 w ws h1⟩
  · by_cases h2 : a0 < 0
    · exact ⟨0, 0, 1, by omega, fun w => specGetNum_neg s a0 w (by omega) h2, fun w _ => implGetNum_neg s a0 w (by omega) h2⟩
    · obtain ⟨p, rfl⟩ : ∃ p : Nat, a0 = p := ⟨a0.toNat, by omega⟩
      have hs := fun w => specGetNum_any s p w (by omega) wa.2
      have hi := fun w hg => implGetNum_any s p w (by omega) wa.2 hg
      cases hr : rd s p 10 0 0 with
      | error c =>
        rw [hr] at hs hi
        refine ⟨0, 0, c, ?_, hs, hi⟩
        intro e
        have : ∀ (n k u : Nat) (c : Int), rd s p n k u = .error c → c ≠ 0 := by
          intro n
          induction n with
          | zero => intro k u c h; simp [rd] at h; omega
          | succ n ih =>
            intro k u c h
            rw [rd] at h
            split at h
            · split at h
              · cases h; omega
              · split at h
                · split at h
                  · cases h; omega
                  · cases h
                · exact ih _ _ _ h
            · cases h; omega
        exact absurd e (this _ _ _ _ hr)
      | ok x =>
        obtain ⟨u, m⟩ := x
        rw [hr] at hs hi
        have := rd_within _ _ _ hr
        exact ⟨unzig u, (p : Int) + m, 0, by omega, hs, hi⟩

end Go.Proofs.YtebkblmejkkhfaaGreatDoor

namespace Go.Proofs.YtebkblmejkkhfaaGreatDoor
open Go.RowKit
set_option linter.unusedVariables false

def textV (s : ByteArray) (n a c : Int) : Value :=
  if c ≠ 0 then textOut ⟨#[]⟩ 0 c else if n < 0 ∨ 20000 < n then textOut ⟨#[]⟩ 0 3 else if (s.size : Int) < a + n then textOut ⟨#[]⟩ 0 4 else textOut (s.extract a.toNat (a + n).toNat) (a + n) 0
theorem textV_c {s : ByteArray} {n a c : Int} (h : c ≠ 0) : textV s n a c = textOut ⟨#[]⟩ 0 c := by unfold textV; rw [if_pos h]
theorem textV_n {s : ByteArray} {n a : Int} (h : n < 0 ∨ 20000 < n) : textV s n a 0 = textOut ⟨#[]⟩ 0 3 := by unfold textV; rw [if_neg (by omega), if_pos h]
theorem textV_e {s : ByteArray} {n a : Int} (h : ¬ (n < 0 ∨ 20000 < n)) (h2 : (s.size : Int) < a + n) : textV s n a 0 = textOut ⟨#[]⟩ 0 4 := by unfold textV; rw [if_neg (by omega), if_neg h, if_pos h2]
theorem textV_ok {s : ByteArray} {n a : Int} (h : ¬ (n < 0 ∨ 20000 < n)) (h2 : ¬ (s.size : Int) < a + n) : textV s n a 0 = textOut (s.extract a.toNat (a + n).toNat) (a + n) 0 := by unfold textV; rw [if_neg (by omega), if_neg h, if_neg h2]

/-- Below, behind the result's block and a call. -/
theorem below_res {w w1 : World} {o1 : Obj} (hb1 : Below (w.alloc o1).heap.size (w.alloc o1) w1) : Below w.heap.size w w1 :=
  ((Below.refl w.heap.size w).alloc (Nat.le_refl _) _).trans (hb1.mono (by simp))

/-- Below, behind three stores into the result's block and one block more. -/
theorem below_fin {w w1 : World} {v0 v1 v2 : Value} {o : Obj} (hb : Below w.heap.size w w1) (h : w.heap.size ≤ w1.heap.size) :
    Below w.heap.size w ((((w1.setCell ⟨w.heap.size, 0, none⟩ v0).setCell ⟨w.heap.size, 1, none⟩ v1).setCell ⟨w.heap.size, 2, none⟩ v2).alloc o) :=
  (((hb.setCell (Nat.le_refl _) _).setCell (Nat.le_refl _) _).setCell (Nat.le_refl _) _).alloc (by simpa [World.setCell] using h) _

set_option maxHeartbeats 4000000 in
theorem specGetText_of (s : ByteArray) (a0 n a c : Int) (w : World) (hN : Hid (∀ w, Calls Tryz.prog 202 #[.string s, .int .i64 a0] w fun e w' => e = .returned (numOut n a c) ∧ Below w.heap.size w w'))
    (hc : c = 0 → 0 ≤ a ∧ a ≤ s.size ∧ s.size ≤ 20000) :
    Calls Tryz.prog 185 #[.string s, .int .i64 a0] w fun e w' => e = .returned (textV s n a c) ∧ Below w.heap.size w w' := by
  by_cases hc0 : c = 0
  · obtain ⟨ha, ha2, hs⟩ := hc hc0
    subst hc0
    clear hc
    by_cases hn : n < 0 ∨ 20000 < n
    · rw [textV_n hn]
      have hnb : n < 0 ∨ (¬ n < 0 ∧ 20000 < n) := by omega
      clear hn
      rcases hnb with hn | ⟨hn0, hn⟩
      all_goals
        go_enter Tryz.func185, Tryz.ntmps185
        go_wp2_with (go_at_call 202; refine (hN.out _).mono ?_; rintro e w1 ⟨rfl, hb1⟩; obtain ⟨hc1, hf1⟩ := bcell hb1; have hz1 := hb1.size; simp at hz1; have hlt : w.heap.size < w1.heap.size := hz1)
        refine bodyPost_ret (v := textOut ⟨#[]⟩ 0 3) (by simp [results, Tryz.results185, hc1, hlt, go_sem]) rfl ⟨rfl, ?_⟩
        exact below_fin (below_res hb1) (by omega)
    · by_cases he : (s.size : Int) < a + n
      · rw [textV_e hn he]
        have hn0 : ¬ n < 0 := by omega
        have hn1 : ¬ 20000 < n := by omega
        have he2 : (s.size : Int) - n < a := by omega
        clear hn
        go_enter Tryz.func185, Tryz.ntmps185
        go_wp2_with (go_at_call 202; refine (hN.out _).mono ?_; rintro e w1 ⟨rfl, hb1⟩; obtain ⟨hc1, hf1⟩ := bcell hb1; have hz1 := hb1.size; simp at hz1; have hlt : w.heap.size < w1.heap.size := hz1)
        refine bodyPost_ret (v := textOut ⟨#[]⟩ 0 4) (by simp [results, Tryz.results185, hc1, hlt, go_sem]) rfl ⟨rfl, ?_⟩
        exact below_fin (below_res hb1) (by omega)
      · rw [textV_ok hn he]
        have hn0 : 0 ≤ n := by omega
        have hn1 : n ≤ 20000 := by omega
        have he2 : ¬ (s.size : Int) - n < a := by omega
        have i1 : IntKind.i64.wrap (a + n) = a + n := IntWalk.i64_in _ (by omega)
        have i2 : 0 ≤ a + n := by omega
        have i3 : a + n ≤ (s.size : Int) := by omega
        have i4 : a ≤ a + n := by omega
        clear hn
        go_enter Tryz.func185, Tryz.ntmps185
        go_wp2_with (go_at_call 202; refine (hN.out _).mono ?_; rintro e w1 ⟨rfl, hb1⟩; obtain ⟨hc1, hf1⟩ := bcell hb1; have hz1 := hb1.size; simp at hz1; have hlt : w.heap.size < w1.heap.size := hz1)
        go_region
        go_wp2
        refine bodyPost_ret (v := textOut (s.extract a.toNat (a + n).toNat) (a + n) 0) (by simp [results, Tryz.results185, hc1, hlt, go_sem]) rfl ⟨rfl, ?_⟩
        exact (below_fin (below_res hb1) (by omega)).drew
  · rw [textV_c hc0]
    have hcb : (c != 0) = true := by simpa using hc0
    clear hc
    go_enter Tryz.func185, Tryz.ntmps185
    go_wp2_with (go_at_call 202; refine (hN.out _).mono ?_; rintro e w1 ⟨rfl, hb1⟩; obtain ⟨hc1, hf1⟩ := bcell hb1; have hz1 := hb1.size; simp at hz1; have hlt : w.heap.size < w1.heap.size := hz1)
    refine bodyPost_ret (v := textOut ⟨#[]⟩ 0 c) (by simp [results, Tryz.results185, hc1, hlt, go_sem]) rfl ⟨rfl, ?_⟩
    exact below_fin (below_res hb1) (by omega)

theorem extract_le (s : ByteArray) (a b : Nat) : (s.extract a b).size ≤ s.size := by simp; omega

set_option maxHeartbeats 4000000 in
theorem implGetText_of (s : ByteArray) (a0 n a c : Int) (w : World) (hg : Handle w) (hN : Hid (∀ w, Handle w → Calls Tryz.prog 233 #[.string s, .int .i64 a0] w fun e w' => e = .returned (numOut n a c) ∧ Below w.heap.size w w'))
    (hc : c = 0 → 0 ≤ a ∧ a ≤ s.size ∧ s.size ≤ 20000) :
    Calls Tryz.prog 221 #[.string s, .int .i64 a0] w fun e w' => e = .returned (textV s n a c) ∧ Below w.heap.size w w' := by
  have hg' := Handle.below hg ((Below.refl _ w).alloc (Nat.le_refl _) (.cells #[.string ⟨#[]⟩, .int .i64 0, .int .i64 0] 35))
  have HG := Lib.hid hg'
  clear hg' hg
  by_cases hc0 : c = 0
  · obtain ⟨ha, ha2, hs⟩ := hc hc0
    subst hc0
    clear hc
    by_cases hn : n < 0 ∨ 20000 < n
    · rw [textV_n hn]
      have hnb : n < 0 ∨ (¬ n < 0 ∧ 20000 < n) := by omega
      clear hn
      rcases hnb with hn | ⟨hn0, hn⟩
      all_goals
        go_enter Tryz.func221, Tryz.ntmps221
        go_wp2_with (go_at_call 233; refine (hN.out _ HG.out).mono ?_; rintro e w1 ⟨rfl, hb1⟩; obtain ⟨hc1, hf1⟩ := bcell hb1; have hz1 := hb1.size; simp at hz1; have hlt : w.heap.size < w1.heap.size := hz1)
        refine bodyPost_ret (v := textOut ⟨#[]⟩ 0 3) (by simp [results, Tryz.results221, hc1, hlt, go_sem]) rfl ⟨rfl, ?_⟩
        exact below_fin (below_res hb1) (by omega)
    · by_cases he : (s.size : Int) < a + n
      · rw [textV_e hn he]
        have hn0 : 0 ≤ n := by omega
        have hn1 : n ≤ 20000 := by omega
        clear hn
        go_enter Tryz.func221, Tryz.ntmps221
        go_wp2_with (go_at_call 233; refine (hN.out _ HG.out).mono ?_; rintro e w1 ⟨rfl, hb1⟩; obtain ⟨hc1, hf1⟩ := bcell hb1; have hz1 := hb1.size; simp at hz1; have hlt : w.heap.size < w1.heap.size := hz1)
        refine bodyPost_ret (v := textOut ⟨#[]⟩ 0 4) (by simp [results, Tryz.results221, hc1, hlt, go_sem]) rfl ⟨rfl, ?_⟩
        exact below_fin (below_res hb1) (by omega)
      · rw [textV_ok hn he]
        have hn0 : 0 ≤ n := by omega
        have hn1 : n ≤ 20000 := by omega
        have i2 : 0 ≤ a + n := by omega
        have i3 : a + n ≤ (s.size : Int) := by omega
        have i4 : a ≤ a + n := by omega
        have hx := extract_le s a.toNat (a + n).toNat
        have HK := Lib.hid (fun w => clone_any (s.extract a.toNat (a + n).toNat) w (by omega))
        clear hn hx
        go_enter Tryz.func221, Tryz.ntmps221
        go_wp2_with (first
          | (go_at_call 233; refine (hN.out _ HG.out).mono ?_; rintro e w1 ⟨rfl, hb1⟩; obtain ⟨hc1, hf1⟩ := bcell hb1; have hz1 := hb1.size; simp at hz1; have hlt : w.heap.size < w1.heap.size := hz1)
          | (go_at_call 86; refine (HK.out _).mono ?_; rintro e w2 ⟨rfl, hb2⟩; obtain ⟨hc2, hf2⟩ := bcell hb2; have hz2 := hb2.size; simp at hz2; have hlt2 : w.heap.size < w2.heap.size := (by omega)))
        have hc3 := (bcell ((hb1.alloc (by simp; omega) (.cells #[.int .i64 n, .int .i64 a, .int .i64 0] 220)).trans (hb2.mono (by simp; omega)))).1
        clear hc1 hc2 hf1 hf2
        refine bodyPost_ret (v := textOut (s.extract a.toNat (a + n).toNat) (a + n) 0) (by simp [results, Tryz.results221, hc3, go_sem]) rfl ⟨rfl, ?_⟩
        exact (((((below_res hb1).alloc (by omega) _).trans (hb2.mono (by simp; omega))).setCell (p := ⟨w.heap.size, 0, none⟩) (Nat.le_refl _) _).setCell (p := ⟨w.heap.size, 1, none⟩) (Nat.le_refl _) _).setCell (p := ⟨w.heap.size, 2, none⟩) (Nat.le_refl _) _
  · rw [textV_c hc0]
    have hcb : (c != 0) = true := by simpa using hc0
    clear hc
    go_enter Tryz.func221, Tryz.ntmps221
    go_wp2_with (go_at_call 233; refine (hN.out _ HG.out).mono ?_; rintro e w1 ⟨rfl, hb1⟩; obtain ⟨hc1, hf1⟩ := bcell hb1; have hz1 := hb1.size; simp at hz1; have hlt : w.heap.size < w1.heap.size := hz1)
    refine bodyPost_ret (v := textOut ⟨#[]⟩ 0 c) (by simp [results, Tryz.results221, hc1, hlt, go_sem]) rfl ⟨rfl, ?_⟩
    exact below_fin (below_res hb1) (by omega)

theorem textV_form (s : ByteArray) (n a c : Int) : ∃ t b d, textV s n a c = textOut t b d := by
  unfold textV; split
  · exact ⟨_, _, _, rfl⟩
  · split
    · exact ⟨_, _, _, rfl⟩
    · split
      · exact ⟨_, _, _, rfl⟩
      · exact ⟨_, _, _, rfl⟩

end Go.Proofs.YtebkblmejkkhfaaGreatDoor

namespace Go.Proofs.YtebkblmejkkhfaaGreatDoor
open Go.RowKit
set_option linter.unusedVariables false

set_option maxHeartbeats 1000000 in
theorem specUnseal_size (t : ByteArray) (w : World) (hs : t.size ≤ maxLen) (h : 20000 < t.size) :
    Calls Tryz.prog 186 #[.string t] w fun e w' => e = .returned (textOut ⟨#[]⟩ 0 2) ∧ Below w.heap.size w w' := by
  unfold maxLen at hs
  go_enter Tryz.func186, Tryz.ntmps186
  go_wp2
  exact bodyPost_ret (v := textOut ⟨#[]⟩ 0 2) (by simp [results, Tryz.results186, go_sem]) rfl ⟨rfl, (Below.refl _ _).alloc (Nat.le_refl _) _⟩

set_option maxHeartbeats 1000000 in
theorem specUnseal_short (t : ByteArray) (w : World) (h : t.size < 4) :
    Calls Tryz.prog 186 #[.string t] w fun e w' => e = .returned (textOut ⟨#[]⟩ 0 4) ∧ Below w.heap.size w w' := by
  go_enter Tryz.func186, Tryz.ntmps186
  go_wp2
  exact bodyPost_ret (v := textOut ⟨#[]⟩ 0 4) (by simp [results, Tryz.results186, go_sem]) rfl ⟨rfl, (Below.refl _ _).alloc (Nat.le_refl _) _⟩

theorem extract_size (t : ByteArray) (h : 4 ≤ t.size) : (t.extract 0 (t.size - 4)).size = t.size - 4 := by simp

noncomputable def unsealV (t : ByteArray) : Value :=
  if ((strOfNums (fourN (crcOf 0 (t.extract 0 (t.size - 4))))).toList == (t.extract (t.size - 4) t.size).toList) = true then textOut (t.extract 0 (t.size - 4)) 0 0 else textOut ⟨#[]⟩ 0 5
theorem unsealV_bad {t s4 : ByteArray} {c : Int} (HE : crcOf 0 (t.extract 0 (t.size - 4)) = c) (HS : strOfNums (fourN c) = s4) (h : (!s4.toList == (t.extract (t.size - 4) t.size).toList) = true) : unsealV t = textOut ⟨#[]⟩ 0 5 := by
  unfold unsealV; rw [HE, HS]; rw [if_neg (by simpa using h)]
theorem unsealV_good {t s4 : ByteArray} {c : Int} (HE : crcOf 0 (t.extract 0 (t.size - 4)) = c) (HS : strOfNums (fourN c) = s4) (h : (!s4.toList == (t.extract (t.size - 4) t.size).toList) = false) : unsealV t = textOut (t.extract 0 (t.size - 4)) 0 0 := by
  unfold unsealV; rw [HE, HS]; rw [if_pos (by simpa using h)]
theorem not_beq_comm {a b : List UInt8} {x : Bool} (h : (!a == b) = x) : (!b == a) = x := by rw [← h]; cases h1 : b == a <;> cases h2 : a == b <;> simp_all

set_option maxHeartbeats 2000000 in
theorem specUnseal_any (t : ByteArray) (w : World) (h : 4 ≤ t.size) (h2 : t.size ≤ 20000) :
    Calls Tryz.prog 186 #[.string t] w fun e w' => e = .returned (unsealV t) ∧ Below w.heap.size w w' := by
  have hx := extract_size t h
  obtain ⟨c0, c1⟩ := crcOf_bd 0 (t.extract 0 (t.size - 4))
  have HC := Lib.hid (fun w => l01Crc_any 0 (t.extract 0 (t.size - 4)) w (by omega) (by omega) (by unfold maxLen; omega))
  obtain ⟨c, HE⟩ : ∃ c, Hid (crcOf 0 (t.extract 0 (t.size - 4)) = c) := ⟨_, rfl⟩
  rw [HE.out] at HC c0 c1
  have HF := Lib.hid (fun w => four_any c w c0 c1)
  obtain ⟨s4, HS⟩ : ∃ s, Hid (strOfNums (fourN c) = s) := ⟨_, rfl⟩
  rw [HS.out] at HF
  clear hx
  have i1 : IntKind.i64.wrap ((t.size : Int) - 4) = (t.size : Int) - 4 := IntWalk.i64_in _ (by omega)
  have i2 : (0 : Int) ≤ (t.size : Int) - 4 := by omega
  have i3 : (t.size : Int) - 4 ≤ (t.size : Int) := by omega
  have i4 : ((t.size : Int) - 4).toNat = t.size - 4 := by omega
  have i5 : (4 : Int) ≤ (t.size : Int) := by omega
  go_enter Tryz.func186, Tryz.ntmps186
  go_wp2
  go_region_with (first
    | (go_at_call 165; refine (HC.out _).mono ?_; rintro e w1 ⟨rfl, rfl⟩)
    | (go_at_call 164; refine (HF.out _).mono ?_; rintro e w2 ⟨rfl, hb2⟩))
  obtain ⟨hc2, hf2⟩ := bcell hb2
  have hz2 := hb2.size
  simp at hz2
  go_wp2
  · refine bodyPost_ret (v := textOut ⟨#[]⟩ 0 5) (by simp [results, Tryz.results186, hc2, go_sem]) rfl ⟨by rw [unsealV_bad HE.out HS.out ‹_›], ?_⟩
    exact (((((((Below.refl w.heap.size w).alloc (Nat.le_refl _) _).drew).trans (hb2.mono (by simp))).setCell (Nat.le_refl _) _).setCell (Nat.le_refl _) _).setCell (Nat.le_refl _) _)
  · refine bodyPost_ret (v := textOut (t.extract 0 (t.size - 4)) 0 0) (by simp [results, Tryz.results186, hc2, go_sem]) rfl ⟨by rw [unsealV_good HE.out HS.out ‹_›], ?_⟩
    exact (((((((Below.refl w.heap.size w).alloc (Nat.le_refl _) _).drew).trans (hb2.mono (by simp))).setCell (Nat.le_refl _) _).setCell (Nat.le_refl _) _).setCell (Nat.le_refl _) _)

set_option maxHeartbeats 1000000 in
theorem implUnseal_size (t : ByteArray) (w : World) (hs : t.size ≤ maxLen) (h : 20000 < t.size) :
    Calls Tryz.prog 222 #[.string t] w fun e w' => e = .returned (textOut ⟨#[]⟩ 0 2) ∧ Below w.heap.size w w' := by
  unfold maxLen at hs
  go_enter Tryz.func222, Tryz.ntmps222
  go_wp2
  exact bodyPost_ret (v := textOut ⟨#[]⟩ 0 2) (by simp [results, Tryz.results222, go_sem]) rfl ⟨rfl, (Below.refl _ _).alloc (Nat.le_refl _) _⟩

set_option maxHeartbeats 1000000 in
theorem implUnseal_short (t : ByteArray) (w : World) (h : t.size < 4) :
    Calls Tryz.prog 222 #[.string t] w fun e w' => e = .returned (textOut ⟨#[]⟩ 0 4) ∧ Below w.heap.size w w' := by
  go_enter Tryz.func222, Tryz.ntmps222
  go_wp2
  exact bodyPost_ret (v := textOut ⟨#[]⟩ 0 4) (by simp [results, Tryz.results222, go_sem]) rfl ⟨rfl, (Below.refl _ _).alloc (Nat.le_refl _) _⟩

set_option maxHeartbeats 2000000 in
theorem implUnseal_any (t : ByteArray) (w : World) (h : 4 ≤ t.size) (h2 : t.size ≤ 20000) :
    Calls Tryz.prog 222 #[.string t] w fun e w' => e = .returned (unsealV t) ∧ Below w.heap.size w w' := by
  have hx := extract_size t h
  obtain ⟨c0, c1⟩ := crcOf_bd 0 (t.extract 0 (t.size - 4))
  have HC := Lib.hid (fun w => implCrc_any (t.extract 0 (t.size - 4)) w (by omega))
  have HK := Lib.hid (fun w => clone_any (t.extract 0 (t.size - 4)) w (by omega))
  obtain ⟨c, HE⟩ : ∃ c, Hid (crcOf 0 (t.extract 0 (t.size - 4)) = c) := ⟨_, rfl⟩
  rw [HE.out] at HC c0 c1
  have HF := Lib.hid (fun w => crcText_any c w c0 c1)
  obtain ⟨s4, HS⟩ : ∃ s, Hid (strOfNums (fourN c) = s) := ⟨_, rfl⟩
  rw [HS.out] at HF
  clear hx
  have i2 : (0 : Int) ≤ (t.size : Int) - 4 := by omega
  have i3 : (t.size : Int) - 4 ≤ (t.size : Int) := by omega
  have i4 : ((t.size : Int) - 4).toNat = t.size - 4 := by omega
  have i5 : (4 : Int) ≤ (t.size : Int) := by omega
  go_enter Tryz.func222, Tryz.ntmps222
  go_wp2
  go_region_with (first
    | (go_at_call 169; refine (HC.out _).mono ?_; rintro e w1 ⟨rfl, rfl⟩)
    | (go_at_call 168; refine (HF.out _).mono ?_; rintro e w2 ⟨rfl, hb2⟩))
  obtain ⟨hc2, hf2⟩ := bcell hb2
  have hz2 := hb2.size
  simp at hz2
  have hlt : w.heap.size < w2.heap.size := by omega
  go_wp2_with (go_at_call 86; refine (HK.out _).mono ?_; rintro e w3 ⟨rfl, hb3⟩; obtain ⟨hc3, hf3⟩ := bcell hb3; have hz3 := hb3.size)
  · refine bodyPost_ret (v := textOut ⟨#[]⟩ 0 5) (by simp [results, Tryz.results222, hc2, go_sem]) rfl ⟨by rw [unsealV_bad HE.out HS.out (not_beq_comm ‹_›)], ?_⟩
    exact (((((((Below.refl w.heap.size w).alloc (Nat.le_refl _) _).drew).trans (hb2.mono (by simp))).setCell (Nat.le_refl _) _).setCell (Nat.le_refl _) _).setCell (Nat.le_refl _) _)
  · refine bodyPost_ret (v := textOut (t.extract 0 (t.size - 4)) 0 0) (by simp [results, Tryz.results222, hc2, hc3, hlt, go_sem]) rfl ⟨by rw [unsealV_good HE.out HS.out (not_beq_comm ‹_›)], ?_⟩
    exact ((((((((Below.refl w.heap.size w).alloc (Nat.le_refl _) _).drew).trans (hb2.mono (by simp))).trans (hb3.mono (by omega))).setCell (Nat.le_refl _) _).setCell (Nat.le_refl _) _).setCell (Nat.le_refl _) _)

end Go.Proofs.YtebkblmejkkhfaaGreatDoor
