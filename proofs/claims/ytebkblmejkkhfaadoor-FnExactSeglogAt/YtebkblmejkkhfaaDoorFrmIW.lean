/- Contracts of FrameAt; the walk of its law. Contracts of FrameAt; the walk of its law. -/
import Derived.Test.YtebkblmejkkhfaaDoorGtW
import Derived.BigRegion
namespace Go.Proofs.YtebkblmejkkhfaaDoor
open Go.RowKit
set_option linter.unusedVariables false

set_option maxHeartbeats 4000000 in
theorem specAt_err (s : ByteArray) (a0 c : Int) (w : World) (hc : c ≠ 0) (HG : Hid (∀ w, Calls Tryd.prog 67 #[.string s, .int .i64 a0] w fun e w' => e = .returned (textOut ⟨#[]⟩ 0 c) ∧ Below w.heap.size w w')) :
    Calls Tryd.prog 61 #[.string s, .int .i64 a0] w fun e w' => e = .returned (textOut ⟨#[]⟩ 0 c) ∧ Below w.heap.size w w' := by
  have hcb : (c != 0) = true := by simpa using hc
  clear hc
  go_enter Tryd.func61, Tryd.ntmps61
  go_wp2_with (go_at_call 67; refine (HG.out _).mono ?_; rintro e w1 ⟨rfl, hb1⟩; obtain ⟨hc1, hf1⟩ := bcell hb1; have hz1 := hb1.size; simp at hz1; have hlt : w.heap.size < w1.heap.size := hz1)
  refine bodyPost_ret (v := textOut ⟨#[]⟩ 0 c) (by simp [results, Tryd.results61, hc1, hlt, go_sem]) rfl ⟨rfl, ?_⟩
  exact below_fin (below_res hb1) (by omega)


set_option maxHeartbeats 4000000 in
theorem specAt_fr (s : ByteArray) (p : Nat) (w : World) (hs : s.size ≤ 20000) (hp : (p : Int) ≤ 9223372036854775807) :
    Calls Tryd.prog 61 #[.string s, .int .i64 p] w fun e w' => e = .returned (txV (fr s p)) ∧ Below w.heap.size w w' := by
  have HG := Lib.hid (fun w => specGetText_gt s p w hs hp)
  cases hgt : gt s p with
  | error c =>
    have hv : fr s p = .error c := by unfold fr; rw [hgt]
    rw [hv]
    rw [hgt] at HG
    exact specAt_err s p c w (gt_err hgt) HG
  | ok x =>
    obtain ⟨t, q⟩ := x
    obtain ⟨ht, hpq, hq⟩ := gt_ok hgt
    have HU := Lib.hid (fun w => specUnseal_uns t w (by omega))
    rw [hgt] at HG
    simp only [txV] at HG
    cases hu : uns t with
    | error c =>
      have hc := uns_err hu
      have hcb : (c != 0) = true := by simpa using hc
      have hv : fr s p = .error c := by unfold fr; rw [hgt]; simp only [frU, hu]
      rw [hv]
      rw [hu] at HU
      simp only [txV, unV] at HU ⊢
      clear hv hgt hu hc
      go_enter Tryd.func61, Tryd.ntmps61
      go_wp2_with (first
        | (go_at_call 67; refine (HG.out _).mono ?_; rintro e w1 ⟨rfl, hb1⟩; obtain ⟨hc1, hf1⟩ := bcell hb1; have hz1 := hb1.size; simp at hz1; have hlt : w.heap.size < w1.heap.size := hz1)
        | (go_at_call 68; refine (HU.out _).mono ?_; rintro e w2 ⟨rfl, hb2⟩; obtain ⟨hc2, hf2⟩ := bcell hb2; have hz2 := hb2.size; simp at hz2; have hlt2 : w.heap.size < w2.heap.size := (by omega); have hlt3 : w1.heap.size < w2.heap.size := (by omega)))
      have hc3 := (bcell ((hb1.alloc (by simp; omega) (.cells #[.string t, .int .i64 (q : Int), .int .i64 0] 43)).trans (hb2.mono (by simp; omega)))).1
      refine bodyPost_ret (v := textOut ⟨#[]⟩ 0 c) (by simp [results, Tryd.results61, hc3, hlt2, go_sem]) rfl ⟨rfl, ?_⟩
      exact below_fin (((below_res hb1).alloc (by omega) _).trans (hb2.mono (by simp; omega))) (by omega)
    | ok x =>
      rw [hu] at HU
      simp only [unV] at HU
      have hxs := uns_ok hu
      by_cases hx : 1000 < x.size
      · have hv : fr s p = .error 2 := by unfold fr; rw [hgt]; simp only [frU, hu]; rw [if_pos hx]
        rw [hv]
        simp only [txV]
        have hx' : (1000 : Int) < (x.size : Int) := by omega
        clear hv hgt hu
        go_enter Tryd.func61, Tryd.ntmps61
        go_wp2_with (first
          | (go_at_call 67; refine (HG.out _).mono ?_; rintro e w1 ⟨rfl, hb1⟩; obtain ⟨hc1, hf1⟩ := bcell hb1; have hz1 := hb1.size; simp at hz1; have hlt : w.heap.size < w1.heap.size := hz1)
          | (go_at_call 68; refine (HU.out _).mono ?_; rintro e w2 ⟨rfl, hb2⟩; obtain ⟨hc2, hf2⟩ := bcell hb2; have hz2 := hb2.size; simp at hz2; have hlt2 : w.heap.size < w2.heap.size := (by omega); have hlt3 : w1.heap.size < w2.heap.size := (by omega)))
        have hc3 := (bcell ((hb1.alloc (by simp; omega) (.cells #[.string t, .int .i64 (q : Int), .int .i64 0] 43)).trans (hb2.mono (by simp; omega)))).1
        refine bodyPost_ret (v := textOut ⟨#[]⟩ 0 2) (by simp [results, Tryd.results61, hc3, hlt2, go_sem]) rfl ⟨rfl, ?_⟩
        exact below_fin (((below_res hb1).alloc (by omega) _).trans (hb2.mono (by simp; omega))) (by omega)
      · have hv : fr s p = .ok (x, q) := by unfold fr; rw [hgt]; simp only [frU, hu]; rw [if_neg hx]
        rw [hv]
        simp only [txV]
        have hx' : ¬ (1000 : Int) < (x.size : Int) := by omega
        clear hv hgt hu
        go_enter Tryd.func61, Tryd.ntmps61
        go_wp2_with (first
          | (go_at_call 67; refine (HG.out _).mono ?_; rintro e w1 ⟨rfl, hb1⟩; obtain ⟨hc1, hf1⟩ := bcell hb1; have hz1 := hb1.size; simp at hz1; have hlt : w.heap.size < w1.heap.size := hz1)
          | (go_at_call 68; refine (HU.out _).mono ?_; rintro e w2 ⟨rfl, hb2⟩; obtain ⟨hc2, hf2⟩ := bcell hb2; have hz2 := hb2.size; simp at hz2; have hlt2 : w.heap.size < w2.heap.size := (by omega); have hlt3 : w1.heap.size < w2.heap.size := (by omega)))
        have hc3 := (bcell ((hb1.alloc (by simp; omega) (.cells #[.string t, .int .i64 (q : Int), .int .i64 0] 43)).trans (hb2.mono (by simp; omega)))).1
        refine bodyPost_ret (v := textOut x q 0) (by simp [results, Tryd.results61, hc3, hlt2, go_sem]) rfl ⟨rfl, ?_⟩
        exact below_fin (((below_res hb1).alloc (by omega) _).trans (hb2.mono (by simp; omega))) (by omega)

end Go.Proofs.YtebkblmejkkhfaaDoor

namespace Go.Proofs.YtebkblmejkkhfaaDoor
open Go.RowKit
set_option linter.unusedVariables false

set_option maxHeartbeats 4000000 in
theorem implAt_err (s : ByteArray) (a0 c : Int) (w : World) (hg : Handle w) (hc : c ≠ 0) (HG : Hid (∀ w, Handle w → Calls Tryd.prog 77 #[.string s, .int .i64 a0] w fun e w' => e = .returned (textOut ⟨#[]⟩ 0 c) ∧ Below w.heap.size w w')) :
    Calls Tryd.prog 72 #[.string s, .int .i64 a0] w fun e w' => e = .returned (textOut ⟨#[]⟩ 0 c) ∧ Below w.heap.size w w' := by
  have hg' := Handle.below hg ((Below.refl _ w).alloc (Nat.le_refl _) (.cells #[.string ⟨#[]⟩, .int .i64 0, .int .i64 0] 43))
  have HH := Lib.hid hg'
  clear hg' hg
  have hcb : (c != 0) = true := by simpa using hc
  clear hc
  go_enter Tryd.func72, Tryd.ntmps72
  go_wp2_with (go_at_call 77; refine (HG.out _ HH.out).mono ?_; rintro e w1 ⟨rfl, hb1⟩; obtain ⟨hc1, hf1⟩ := bcell hb1; have hz1 := hb1.size; simp at hz1; have hlt : w.heap.size < w1.heap.size := hz1)
  refine bodyPost_ret (v := textOut ⟨#[]⟩ 0 c) (by simp [results, Tryd.results72, hc1, hlt, go_sem]) rfl ⟨rfl, ?_⟩
  exact below_fin (below_res hb1) (by omega)


set_option maxHeartbeats 4000000 in
theorem implAt_fr (s : ByteArray) (p : Nat) (w : World) (hg : Handle w) (hs : s.size ≤ 20000) (hp : (p : Int) ≤ 9223372036854775807) :
    Calls Tryd.prog 72 #[.string s, .int .i64 p] w fun e w' => e = .returned (txV (fr s p)) ∧ Below w.heap.size w w' := by
  have HH0 := Lib.hid hg
  have hg' := Handle.below hg ((Below.refl _ w).alloc (Nat.le_refl _) (.cells #[.string ⟨#[]⟩, .int .i64 0, .int .i64 0] 43))
  have HH := Lib.hid hg'
  clear hg' hg
  have HG := Lib.hid (fun w hg => implGetText_gt s p w hg hs hp)
  cases hgt : gt s p with
  | error c =>
    have hv : fr s p = .error c := by unfold fr; rw [hgt]
    rw [hv]
    rw [hgt] at HG
    exact implAt_err s p c w HH0.out (gt_err hgt) HG
  | ok x =>
    obtain ⟨t, q⟩ := x
    obtain ⟨ht, hpq, hq⟩ := gt_ok hgt
    have HU := Lib.hid (fun w => implUnseal_uns t w (by omega))
    rw [hgt] at HG
    simp only [txV] at HG
    cases hu : uns t with
    | error c =>
      have hc := uns_err hu
      have hcb : (c != 0) = true := by simpa using hc
      have hv : fr s p = .error c := by unfold fr; rw [hgt]; simp only [frU, hu]
      rw [hv]
      rw [hu] at HU
      simp only [txV, unV] at HU ⊢
      clear hv hgt hu hc
      go_enter Tryd.func72, Tryd.ntmps72
      go_wp2_with (first
        | (go_at_call 77; refine (HG.out _ HH.out).mono ?_; rintro e w1 ⟨rfl, hb1⟩; obtain ⟨hc1, hf1⟩ := bcell hb1; have hz1 := hb1.size; simp at hz1; have hlt : w.heap.size < w1.heap.size := hz1)
        | (go_at_call 78; refine (HU.out _).mono ?_; rintro e w2 ⟨rfl, hb2⟩; obtain ⟨hc2, hf2⟩ := bcell hb2; have hz2 := hb2.size; simp at hz2; have hlt2 : w.heap.size < w2.heap.size := (by omega); have hlt3 : w1.heap.size < w2.heap.size := (by omega)))
      have hc3 := (bcell ((hb1.alloc (by simp; omega) (.cells #[.string t, .int .i64 (q : Int), .int .i64 0] 43)).trans (hb2.mono (by simp; omega)))).1
      refine bodyPost_ret (v := textOut ⟨#[]⟩ 0 c) (by simp [results, Tryd.results72, hc3, hlt2, go_sem]) rfl ⟨rfl, ?_⟩
      exact below_fin (((below_res hb1).alloc (by omega) _).trans (hb2.mono (by simp; omega))) (by omega)
    | ok x =>
      rw [hu] at HU
      simp only [unV] at HU
      have hxs := uns_ok hu
      by_cases hx : 1000 < x.size
      · have hv : fr s p = .error 2 := by unfold fr; rw [hgt]; simp only [frU, hu]; rw [if_pos hx]
        rw [hv]
        simp only [txV]
        have hx' : (1000 : Int) < (x.size : Int) := by omega
        clear hv hgt hu
        go_enter Tryd.func72, Tryd.ntmps72
        go_wp2_with (first
          | (go_at_call 77; refine (HG.out _ HH.out).mono ?_; rintro e w1 ⟨rfl, hb1⟩; obtain ⟨hc1, hf1⟩ := bcell hb1; have hz1 := hb1.size; simp at hz1; have hlt : w.heap.size < w1.heap.size := hz1)
          | (go_at_call 78; refine (HU.out _).mono ?_; rintro e w2 ⟨rfl, hb2⟩; obtain ⟨hc2, hf2⟩ := bcell hb2; have hz2 := hb2.size; simp at hz2; have hlt2 : w.heap.size < w2.heap.size := (by omega); have hlt3 : w1.heap.size < w2.heap.size := (by omega)))
        have hc3 := (bcell ((hb1.alloc (by simp; omega) (.cells #[.string t, .int .i64 (q : Int), .int .i64 0] 43)).trans (hb2.mono (by simp; omega)))).1
        refine bodyPost_ret (v := textOut ⟨#[]⟩ 0 2) (by simp [results, Tryd.results72, hc3, hlt2, go_sem]) rfl ⟨rfl, ?_⟩
        exact below_fin (((below_res hb1).alloc (by omega) _).trans (hb2.mono (by simp; omega))) (by omega)
      · have hv : fr s p = .ok (x, q) := by unfold fr; rw [hgt]; simp only [frU, hu]; rw [if_neg hx]
        rw [hv]
        simp only [txV]
        have hx' : ¬ (1000 : Int) < (x.size : Int) := by omega
        clear hv hgt hu
        go_enter Tryd.func72, Tryd.ntmps72
        go_wp2_with (first
          | (go_at_call 77; refine (HG.out _ HH.out).mono ?_; rintro e w1 ⟨rfl, hb1⟩; obtain ⟨hc1, hf1⟩ := bcell hb1; have hz1 := hb1.size; simp at hz1; have hlt : w.heap.size < w1.heap.size := hz1)
          | (go_at_call 78; refine (HU.out _).mono ?_; rintro e w2 ⟨rfl, hb2⟩; obtain ⟨hc2, hf2⟩ := bcell hb2; have hz2 := hb2.size; simp at hz2; have hlt2 : w.heap.size < w2.heap.size := (by omega); have hlt3 : w1.heap.size < w2.heap.size := (by omega)))
        have hc3 := (bcell ((hb1.alloc (by simp; omega) (.cells #[.string t, .int .i64 (q : Int), .int .i64 0] 43)).trans (hb2.mono (by simp; omega)))).1
        refine bodyPost_ret (v := textOut x q 0) (by simp [results, Tryd.results72, hc3, hlt2, go_sem]) rfl ⟨rfl, ?_⟩
        exact below_fin (((below_res hb1).alloc (by omega) _).trans (hb2.mono (by simp; omega))) (by omega)

end Go.Proofs.YtebkblmejkkhfaaDoor
