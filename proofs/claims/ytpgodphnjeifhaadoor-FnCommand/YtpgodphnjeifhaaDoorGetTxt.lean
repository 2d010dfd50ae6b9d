/- Contracts of GetText over those of GetNum, and the walk of its law. -/
import Derived.Test.YtpgodphnjeifhaaDoorGetText
import Derived.Test.YtpgodphnjeifhaaDoorClone
import Derived.RegionTactic
import Derived.BigRegion
namespace Go.Proofs.YtpgodphnjeifhaaDoor
open Go.RowKit
set_option linter.unusedVariables false

def textV (s : ByteArray) (n a c : Int) : Value :=
  if c ≠ 0 then textOut ⟨#[]⟩ 0 c else if n < 0 ∨ 20000 < n then textOut ⟨#[]⟩ 0 3 else if (s.size : Int) < a + n then textOut ⟨#[]⟩ 0 4 else textOut (s.extract a.toNat (a + n).toNat) (a + n) 0
theorem textV_c {s : ByteArray} {n a c : Int} (h : c ≠ 0) : textV s n a c = textOut ⟨#[]⟩ 0 c := by unfold textV; rw [if_pos h]
theorem textV_n {s : ByteArray} {n a : Int} (h : n < 0 ∨ 20000 < n) : textV s n a 0 = textOut ⟨#[]⟩ 0 3 := by unfold textV; rw [if_neg (by omega), if_pos h]
theorem textV_e {s : ByteArray} {n a : Int} (h : ¬ (n < 0 ∨ 20000 < n)) (h2 : (s.size : Int) < a + n) : textV s n a 0 = textOut ⟨#[]⟩ 0 4 := by unfold textV; rw [if_neg (by omega), if_neg h, if_pos h2]
theorem textV_ok {s : ByteArray} {n a : Int} (h : ¬ (n < 0 ∨ 20000 < n)) (h2 : ¬ (s.size : Int) < a + n) : textV s n a 0 = textOut (s.extract a.toNat (a + n).toNat) (a + n) 0 := by unfold textV; rw [if_neg (by omega), if_neg h, if_neg h2]

/-- Below, behind the result's block and a call. -/
theorem below_res {w w1 : World} {o1 : Obj} (hb1 : Below (w.alloc o1).heap.size (w.alloc o1) w1) : Below w.heap.size w w1 :=
  ((Below.refl w.heap.size w).alloc (Nat.le_refl _) _).trans (hb1.mono (by simp))

/-- Below, behind three stores into the result's block and one block more. -/
theorem below_fin {w w1 : World} {v0 v1 v2 : Value} {o : Obj} (hb : Below w.heap.size w w1) (h : w.heap.size ≤ w1.heap.size) :
    Below w.heap.size w ((((w1.setCell ⟨w.heap.size, 0, none⟩ v0).setCell ⟨w.heap.size, 1, none⟩ v1).setCell ⟨w.heap.size, 2, none⟩ v2).alloc o) :=
  (((hb.setCell (Nat.le_refl _) _).setCell (Nat.le_refl _) _).setCell (Nat.le_refl _) _).alloc (by simpa [World.setCell] using h) _

set_option maxHeartbeats 4000000 in
theorem specGetText_of (s : ByteArray) (a0 n a c : Int) (w : World) (hN : Hid (∀ w, Calls Tryd.prog 55 #[.string s, .int .i64 a0] w fun e w' => e = .returned (numOut n a c) ∧ Below w.heap.size w w'))
    (hc : c = 0 → 0 ≤ a ∧ a ≤ s.size ∧ s.size ≤ 20000) :
    Calls Tryd.prog 56 #[.string s, .int .i64 a0] w fun e w' => e = .returned (textV s n a c) ∧ Below w.heap.size w w' := by
  by_cases hc0 : c = 0
  · obtain ⟨ha, ha2, hs⟩ := hc hc0
    subst hc0
    clear hc
    by_cases hn : n < 0 ∨ 20000 < n
    · rw [textV_n hn]
      have hnb : n < 0 ∨ (¬ n < 0 ∧ 20000 < n) := by omega
      clear hn
      rcases hnb with hn | ⟨hn0, hn⟩
      all_goals
        go_enter Tryd.func56, Tryd.ntmps56
        go_wp2_with (go_at_call 55; refine (hN.out _).mono ?_; rintro e w1 ⟨rfl, hb1⟩; obtain ⟨hc1, hf1⟩ := bcell hb1; have hz1 := hb1.size; simp at hz1; have hlt : w.heap.size < w1.heap.size := hz1)
        refine bodyPost_ret (v := textOut ⟨#[]⟩ 0 3) (by simp [results, Tryd.results56, hc1, hlt, go_sem]) rfl ⟨rfl, ?_⟩
        exact below_fin (below_res hb1) (by omega)
    · by_cases he : (s.size : Int) < a + n
      · rw [textV_e hn he]
        have hn0 : ¬ n < 0 := by omega
        have hn1 : ¬ 20000 < n := by omega
        have he2 : (s.size : Int) - n < a := by omega
        clear hn
        go_enter Tryd.func56, Tryd.ntmps56
        go_wp2_with (go_at_call 55; refine (hN.out _).mono ?_; rintro e w1 ⟨rfl, hb1⟩; obtain ⟨hc1, hf1⟩ := bcell hb1; have hz1 := hb1.size; simp at hz1; have hlt : w.heap.size < w1.heap.size := hz1)
        refine bodyPost_ret (v := textOut ⟨#[]⟩ 0 4) (by simp [results, Tryd.results56, hc1, hlt, go_sem]) rfl ⟨rfl, ?_⟩
        exact below_fin (below_res hb1) (by omega)
      · rw [textV_ok hn he]
        have hn0 : 0 ≤ n := by omega
        have hn1 : n ≤ 20000 := by omega
        have he2 : ¬ (s.size : Int) - n < a := by omega
        have i1 : IntKind.i64.wrap (a + n) = a + n := IntWalk.i64_in _ (by omega)
        have i2 : 0 ≤ a + n := by omega
        have i3 : a + n ≤ (s.size : Int) := by omega
        have i4 : a ≤ a + n := by omega
        clear hn
        go_enter Tryd.func56, Tryd.ntmps56
        go_wp2_with (go_at_call 55; refine (hN.out _).mono ?_; rintro e w1 ⟨rfl, hb1⟩; obtain ⟨hc1, hf1⟩ := bcell hb1; have hz1 := hb1.size; simp at hz1; have hlt : w.heap.size < w1.heap.size := hz1)
        go_region
        go_wp2
        refine bodyPost_ret (v := textOut (s.extract a.toNat (a + n).toNat) (a + n) 0) (by simp [results, Tryd.results56, hc1, hlt, go_sem]) rfl ⟨rfl, ?_⟩
        exact (below_fin (below_res hb1) (by omega)).drew
  · rw [textV_c hc0]
    have hcb : (c != 0) = true := by simpa using hc0
    clear hc
    go_enter Tryd.func56, Tryd.ntmps56
    go_wp2_with (go_at_call 55; refine (hN.out _).mono ?_; rintro e w1 ⟨rfl, hb1⟩; obtain ⟨hc1, hf1⟩ := bcell hb1; have hz1 := hb1.size; simp at hz1; have hlt : w.heap.size < w1.heap.size := hz1)
    refine bodyPost_ret (v := textOut ⟨#[]⟩ 0 c) (by simp [results, Tryd.results56, hc1, hlt, go_sem]) rfl ⟨rfl, ?_⟩
    exact below_fin (below_res hb1) (by omega)

theorem extract_le (s : ByteArray) (a b : Nat) : (s.extract a b).size ≤ s.size := by simp; omega

set_option maxHeartbeats 4000000 in
theorem implGetText_of (s : ByteArray) (a0 n a c : Int) (w : World) (hg : Handle w) (hN : Hid (∀ w, Handle w → Calls Tryd.prog 47 #[.string s, .int .i64 a0] w fun e w' => e = .returned (numOut n a c) ∧ Below w.heap.size w w'))
    (hc : c = 0 → 0 ≤ a ∧ a ≤ s.size ∧ s.size ≤ 20000) :
    Calls Tryd.prog 48 #[.string s, .int .i64 a0] w fun e w' => e = .returned (textV s n a c) ∧ Below w.heap.size w w' := by
  have hg' := Handle.below hg ((Below.refl _ w).alloc (Nat.le_refl _) (.cells #[.string ⟨#[]⟩, .int .i64 0, .int .i64 0] 68))
  have HG := Lib.hid hg'
  clear hg' hg
  by_cases hc0 : c = 0
  · obtain ⟨ha, ha2, hs⟩ := hc hc0
    subst hc0
    clear hc
    by_cases hn : n < 0 ∨ 20000 < n
    · rw [textV_n hn]
      have hnb : n < 0 ∨ (¬ n < 0 ∧ 20000 < n) := by omega
      clear hn
      rcases hnb with hn | ⟨hn0, hn⟩
      all_goals
        go_enter Tryd.func48, Tryd.ntmps48
        go_wp2_with (go_at_call 47; refine (hN.out _ HG.out).mono ?_; rintro e w1 ⟨rfl, hb1⟩; obtain ⟨hc1, hf1⟩ := bcell hb1; have hz1 := hb1.size; simp at hz1; have hlt : w.heap.size < w1.heap.size := hz1)
        refine bodyPost_ret (v := textOut ⟨#[]⟩ 0 3) (by simp [results, Tryd.results48, hc1, hlt, go_sem]) rfl ⟨rfl, ?_⟩
        exact below_fin (below_res hb1) (by omega)
    · by_cases he : (s.size : Int) < a + n
      · rw [textV_e hn he]
        have hn0 : 0 ≤ n := by omega
        have hn1 : n ≤ 20000 := by omega
        clear hn
        go_enter Tryd.func48, Tryd.ntmps48
        go_wp2_with (go_at_call 47; refine (hN.out _ HG.out).mono ?_; rintro e w1 ⟨rfl, hb1⟩; obtain ⟨hc1, hf1⟩ := bcell hb1; have hz1 := hb1.size; simp at hz1; have hlt : w.heap.size < w1.heap.size := hz1)
        refine bodyPost_ret (v := textOut ⟨#[]⟩ 0 4) (by simp [results, Tryd.results48, hc1, hlt, go_sem]) rfl ⟨rfl, ?_⟩
        exact below_fin (below_res hb1) (by omega)
      · rw [textV_ok hn he]
        have hn0 : 0 ≤ n := by omega
        have hn1 : n ≤ 20000 := by omega
        have i2 : 0 ≤ a + n := by omega
        have i3 : a + n ≤ (s.size : Int) := by omega
        have i4 : a ≤ a + n := by omega
        have hx := extract_le s a.toNat (a + n).toNat
        have HK := Lib.hid (fun w => clone_any (s.extract a.toNat (a + n).toNat) w (by omega))
        clear hn hx
        go_enter Tryd.func48, Tryd.ntmps48
        go_wp2_with (first
          | (go_at_call 47; refine (hN.out _ HG.out).mono ?_; rintro e w1 ⟨rfl, hb1⟩; obtain ⟨hc1, hf1⟩ := bcell hb1; have hz1 := hb1.size; simp at hz1; have hlt : w.heap.size < w1.heap.size := hz1)
          | (go_at_call 54; refine (HK.out _).mono ?_; rintro e w2 ⟨rfl, hb2⟩; obtain ⟨hc2, hf2⟩ := bcell hb2; have hz2 := hb2.size; simp at hz2; have hlt2 : w.heap.size < w2.heap.size := (by omega)))
        have hc3 := (bcell ((hb1.alloc (by simp; omega) (.cells #[.int .i64 n, .int .i64 a, .int .i64 0] 65)).trans (hb2.mono (by simp; omega)))).1
        clear hc1 hc2 hf1 hf2
        refine bodyPost_ret (v := textOut (s.extract a.toNat (a + n).toNat) (a + n) 0) (by simp [results, Tryd.results48, hc3, go_sem]) rfl ⟨rfl, ?_⟩
        exact (((((below_res hb1).alloc (by omega) _).trans (hb2.mono (by simp; omega))).setCell (p := ⟨w.heap.size, 0, none⟩) (Nat.le_refl _) _).setCell (p := ⟨w.heap.size, 1, none⟩) (Nat.le_refl _) _).setCell (p := ⟨w.heap.size, 2, none⟩) (Nat.le_refl _) _
  · rw [textV_c hc0]
    have hcb : (c != 0) = true := by simpa using hc0
    clear hc
    go_enter Tryd.func48, Tryd.ntmps48
    go_wp2_with (go_at_call 47; refine (hN.out _ HG.out).mono ?_; rintro e w1 ⟨rfl, hb1⟩; obtain ⟨hc1, hf1⟩ := bcell hb1; have hz1 := hb1.size; simp at hz1; have hlt : w.heap.size < w1.heap.size := hz1)
    refine bodyPost_ret (v := textOut ⟨#[]⟩ 0 c) (by simp [results, Tryd.results48, hc1, hlt, go_sem]) rfl ⟨rfl, ?_⟩
    exact below_fin (below_res hb1) (by omega)

theorem textV_form (s : ByteArray) (n a c : Int) : ∃ t b d, textV s n a c = textOut t b d := by
  unfold textV; split
  · exact ⟨_, _, _, rfl⟩
  · split
    · exact ⟨_, _, _, rfl⟩
    · split
      · exact ⟨_, _, _, rfl⟩
      · exact ⟨_, _, _, rfl⟩

end Go.Proofs.YtpgodphnjeifhaaDoor
