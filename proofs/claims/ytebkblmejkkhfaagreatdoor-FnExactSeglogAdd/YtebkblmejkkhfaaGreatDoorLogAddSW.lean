/- Files that lie between two blocks, read only. spec.SeglogDrop, and: spec and impl answer alike. spec.SeglogAdd. -/
import Derived.Test.YtebkblmejkkhfaaGreatDoorChgW
import Derived.Test.YtebkblmejkkhfaaGreatDoorLogDropW
import Derived.Test.YtebkblmejkkhfaaGreatDoorFilCopyW
import Derived.Deep.RegionHeld3
import Derived.Test.YtebkblmejkkhfaaGreatDoorLogAppW
import Derived.Deep.DeepCutAuto
import Derived.IntWalk
namespace Go.Proofs.YtebkblmejkkhfaaGreatDoor
open Go.RowKit
set_option linter.unusedVariables false

/-- The files of a slice, their block between lo and hi. -/
def Fw (w : World) (lo hi : Nat) (A : Option Addr) (L : List Fil) : Prop := hi ≤ w.heap.size ∧ Fls w hi A L ∧ ∀ a, A = some a → 0 < L.length → lo ≤ a.block
section
variable {w w' : World} {lo hi : Nat} {A : Option Addr} {L : List Fil}
theorem Fw.below (h : Fw w lo hi A L) (hb : Below w.heap.size w w') : Fw w' lo hi A L := ⟨Nat.le_trans h.1 hb.size, h.2.1.below hb h.1, h.2.2⟩
theorem Fw.farC {lo' hi' : Nat} (h : Fw w lo hi A L) (hc : Chg w w' lo' hi') (ho : hi ≤ lo' ∨ hi' ≤ lo) : Fw w' lo hi A L := by
  refine ⟨Nat.le_trans h.1 hc.size, ⟨h.2.1.1, fun i hi' => ?_⟩, h.2.2⟩
  obtain ⟨a, e, hab, c0, c1, c2, hf⟩ := h.2.1.2 i hi'
  have hlo := h.2.2 a e (by omega)
  have hs := h.1
  have same : ∀ q : Addr, q.block = a.block → w'.cell? q = w.cell? q := fun q hq => World.cell?_of_block (by rw [hq]; exact hc.block a.block (by omega) (by omega))
  refine ⟨a, e, hab, ?_, ?_, ?_, hf⟩
  · rw [same _ (add_blk _ _)]; exact c0
  · rw [same _ (add_blk _ _)]; exact c1
  · rw [same _ (add_blk _ _)]; exact c2
theorem Fw.fls (h : Fw w lo hi A L) (_ : ∀ f ∈ L, f.fits) : Fls w w.heap.size A L := h.2.1.mono h.1
theorem Fw.ofOwn {n c : Nat} (h : OwnF w lo (.slice A n c) L) : Fw w lo w.heap.size A L := by
  refine ⟨Nat.le_refl _, OwnF.fls h, fun a e hl => ?_⟩
  subst e
  rcases h.1.2 with ⟨hv, _⟩ | ⟨g, cap, cur, hv, hb, _⟩
  · cases hv
  · cases hv; exact hb
end
theorem Fls.drop {w : World} {B : Nat} {a : Addr} {L : List Fil} (h : Fls w B (some a) L) (q : Nat) (hq : q ≤ L.length) : Fls w B (some (a.add (q * 3))) (L.drop q) := by
  refine ⟨by have := h.1; simp; omega, fun i hi => ?_⟩
  have hi' : q + i < L.length := by simp at hi; omega
  obtain ⟨a', e, hab, c0, c1, c2, hf⟩ := h.2 (q + i) hi'
  cases e
  have e3 : (a.add (q * 3)).add (i * 3) = a.add ((q + i) * 3) := by rw [ofNat_add]; congr 1; omega
  refine ⟨a.add (q * 3), rfl, by rw [add_blk]; exact hab, ?_, ?_, ?_, by simpa using hf⟩
  · rw [e3]; simpa using c0
  · have e4 : (a.add (q * 3)).add (i * 3 + 1) = a.add ((q + i) * 3 + 1) := by rw [ofNat_add]; congr 1; omega
    rw [e4]; simpa using c1
  · have e4 : (a.add (q * 3)).add (i * 3 + 2) = a.add ((q + i) * 3 + 2) := by rw [ofNat_add]; congr 1; omega
    rw [e4]; simpa using c2
end Go.Proofs.YtebkblmejkkhfaaGreatDoor

namespace Go.Proofs.YtebkblmejkkhfaaGreatDoor
open Go.RowKit
set_option linter.unusedVariables false
set_option linter.unusedSimpArgs false
set_option maxRecDepth 1000000

theorem l05Ill_any (co : Int) (w : World) : Calls Tryz.prog 105 #[.int .i64 co] w fun e w' => e = .returned (slOut (.slice none 0 0) 0 0 (.slice none 0 0) co) ∧ Below w.heap.size w w' := by
  go_enter Tryz.func105, Tryz.ntmps105
  go_wp2
  exact bodyPost_ret (v := slOut (.slice none 0 0) 0 0 (.slice none 0 0) co) (by simp [results, Tryz.results105, go_sem]) rfl ⟨rfl, (Below.refl _ _).alloc (Nat.le_refl _) _⟩
/-- What spec.SeglogDrop answers. -/
def DropPost (L : List Fil) (f m b : Int) (w : World) (e : Ending) (w' : World) : Prop := ∃ (C : Option Addr) (x : Nat), e = .returned (slOut (.slice C (dropO L f m b).length x) (dropI L f m b (f + (dropN f m b : Int) * 4)) (dropI L f m b (m - (dropN f m b : Int) * 4)) (.slice none 0 0) (dropC L f m)) ∧ Fw w' w.heap.size w'.heap.size C (dropO L f m b) ∧ Below w.heap.size w w'
/-- How long the slice is that a box holds. -/
def lenAt (w : World) (O : Nat) : Nat := match w.cell? ⟨O, 0, none⟩ with | some (.slice _ n _) => n | _ => 0
theorem lenAt_of {w : World} {O n c : Nat} {A : Option Addr} (h : w.cell? ⟨O, 0, none⟩ = some (.slice A n c)) : lenAt w O = n := by unfold lenAt; rw [h]
theorem fw_five {w : World} {a : Addr} {L : List Fil} {lo : Nat} (h : Fls w w.heap.size (some a) L) (hlo : lo ≤ a.block) (b : Nat) (hb : a.block ≠ b) (v0 v1 v2 v3 v4 : Value) :
    Fw (((((w.setCell ⟨b, 0, none⟩ v0).setCell ⟨b, 1, none⟩ v1).setCell ⟨b, 2, none⟩ v2).setCell ⟨b, 3, none⟩ v3).setCell ⟨b, 4, none⟩ v4) lo (((((w.setCell ⟨b, 0, none⟩ v0).setCell ⟨b, 1, none⟩ v1).setCell ⟨b, 2, none⟩ v2).setCell ⟨b, 3, none⟩ v3).setCell ⟨b, 4, none⟩ v4).heap.size (some a) L := by
  refine ⟨Nat.le_refl _, ⟨h.1, fun i hi => ?_⟩, fun a' e _ => by cases e; exact hlo⟩
  obtain ⟨a', e, hab, c0, c1, c2, hf⟩ := h.2 i hi
  cases e
  have go : ∀ (p : Addr) (v : Value), p.block = a.block → w.cell? p = some v → (((((w.setCell ⟨b, 0, none⟩ v0).setCell ⟨b, 1, none⟩ v1).setCell ⟨b, 2, none⟩ v2).setCell ⟨b, 3, none⟩ v3).setCell ⟨b, 4, none⟩ v4).cell? p = some v := fun p v hp hc => by
    have hpb : p.block ≠ b := by rw [hp]; exact hb
    exact cell_put_far (cell_put_far (cell_put_far (cell_put_far (cell_put_far hc hpb _) hpb _) hpb _) hpb _) hpb _
  exact ⟨a, rfl, by simpa using hab, go _ _ (add_blk _ _) c0, go _ _ (add_blk _ _) c1, go _ _ (add_blk _ _) c2, hf⟩
set_option maxHeartbeats 8000000 in
theorem specDrop_any (A : Option Addr) (L : List Fil) (c : Nat) (f m b : Int) (w : World) (hL : Fls w w.heap.size A L) (hS : Small L) (hfw : (Lit.int .i64 f).wf = true) (hmw : (Lit.int .i64 m).wf = true) (hbw : (Lit.int .i64 b).wf = true) :
    Calls Tryz.prog 56 #[segV (.slice A L.length c) f m, .int .i64 b] w (DropPost L f m b w) := by
  have hn := hS.1
  have b64 := wf_i64 hbw
  have hf : ∀ f ∈ L, f.fits := fun f h => by obtain ⟨i, hi, rfl⟩ := List.getElem_of_mem h; exact (hL.2 i hi).choose_spec.2.2.2.2.2
  have hb0 : Below w.heap.size w ((w.alloc (.cells #[.slice A L.length c, .int .i64 f, .int .i64 m] 61)).alloc (.cells #[.slice none 0 0, .int .i64 0, .int .i64 0, .slice none 0 0, .int .i64 0] 63)) := ((Below.refl _ _).alloc (Nat.le_refl _) _).alloc (by simp) _
  have k0 := (Blk.fresh w 61 [.slice A L.length c, .int .i64 f, .int .i64 m]).alloc (.cells #[.slice none 0 0, .int .i64 0, .int .i64 0, .slice none 0 0, .int .i64 0] 63)
  have k1 := Blk.fresh (w.alloc (.cells #[.slice A L.length c, .int .i64 f, .int .i64 m] 61)) 63 [.slice none 0 0, .int .i64 0, .int .i64 0, .slice none 0 0, .int .i64 0]
  simp only [List.toArray, World.size_alloc] at k0 k1
  have HR := Lib.hid (specSeglogRight_any A L c f m _ ((hL.below hb0 (Nat.le_refl _)).mono hb0.size) hfw hmw)
  clear hfw hmw hbw
  go_enter Tryz.func56, Tryz.ntmps56
  go_wp2_with (fail)
  refine HR.out.mono ?_
  clear HR
  generalize (w.alloc (.cells #[.slice A L.length c, .int .i64 f, .int .i64 m] 61)).alloc (.cells #[.slice none 0 0, .int .i64 0, .int .i64 0, .slice none 0 0, .int .i64 0] 63) = w1 at hb0 k0 k1 ⊢
  rintro e w2 ⟨rfl, hb2⟩
  have q0 := k0.below hb2 k0.lt
  have q1 := k1.below hb2 k1.lt
  have hw2 := hb0.trans (hb2.mono hb0.size)
  clear k0 k1 hb0 hb2
  rcases Bool.eq_false_or_eq_true (logB L f m) with hBB | hBB
  · obtain ⟨g1, g2, g3, g4, g5, g6, g7⟩ := logB_nums hBB
    have R1 := Lib.hid (show dropO L f m b = L.drop (dropN f m b) by unfold dropO; rw [if_pos hBB])
    have R2 : Hid (∀ x, dropI L f m b x = x) := Lib.hid (fun x => by unfold dropI; rw [if_pos hBB])
    have R3 := Lib.hid (show dropC L f m = 0 by unfold dropC; rw [if_pos hBB])
    have HG6 := Lib.hid g6
    have hL1 : 1 ≤ L.length := by omega
    have hqe : dropN f m b + 1 ≤ L.length ∧ (dropN f m b = 0 ∨ f + (dropN f m b : Int) * 4 ≤ b) ∧ (L.length = dropN f m b + 1 ∨ b < f + (dropN f m b : Int) * 4 + 4) := by
      unfold dropN
      split
      · omega
      · omega
    obtain ⟨q, HQ⟩ : ∃ q, Hid (dropN f m b = q) := ⟨_, Lib.hid rfl⟩
    rw [HQ.out] at R1 hqe
    rw [hBB]
    clear hBB g6
    have x0 := q0.drew.cell (i := 0) rfl
    have x1 := q0.drew.cell (i := 1) rfl
    have x2 := q0.drew.cell (i := 2) rfl
    have hCo := Lib.hid (fun W (h : Below w.heap.size w W) => l03Copy_any A L c W ((hL.below h (Nat.le_refl _)).mono h.size) hS)
    have hw2d := below_drew hw2
    go_wp2_with (fail)
    have key : ∀ W W' : World, (W.cell? ⟨w.heap.size, 0, none⟩ = some (.slice A L.length c) ∧ W.cell? ⟨w.heap.size, 1, none⟩ = some (.int .i64 f) ∧ W.cell? ⟨w.heap.size, 2, none⟩ = some (.int .i64 m)) → Below W.heap.size W W' → (W'.cell? ⟨w.heap.size, 0, none⟩ = some (.slice A L.length c) ∧ W'.cell? ⟨w.heap.size, 1, none⟩ = some (.int .i64 f) ∧ W'.cell? ⟨w.heap.size, 2, none⟩ = some (.int .i64 m)) :=
      fun W W' ⟨a, b, c⟩ hb => ⟨kept_cell hb a, kept_cell hb b, kept_cell hb c⟩
    have x3 : w2.drew.cell? ⟨w.heap.size, 0, none⟩ = some (.slice A L.length c) ∧ w2.drew.cell? ⟨w.heap.size, 1, none⟩ = some (.int .i64 f) ∧ w2.drew.cell? ⟨w.heap.size, 2, none⟩ = some (.int .i64 m) := ⟨x0, x1, x2⟩
    have al1 := (Below.refl w2.heap.size w2).alloc (Nat.le_refl _) (.cells #[.slice none 0 0, .int .i64 0, .int .i64 0] 61)
    have al0 : Below w2.drew.heap.size w2.drew (w2.alloc (.cells #[.slice none 0 0, .int .i64 0, .int .i64 0] 61)).drew := ⟨al1.os, al1.tape, al1.output, al1.size, al1.block⟩
    clear al1
    go_region_held3 (fun W => W.cell? ⟨w.heap.size, 0, none⟩ = some (.slice A L.length c) ∧ W.cell? ⟨w.heap.size, 1, none⟩ = some (.int .i64 f) ∧ W.cell? ⟨w.heap.size, 2, none⟩ = some (.int .i64 m))
      (first
        | exact x3
        | exact key _ _ x3 hb3
        | exact key _ _ x3 ((Below.refl _ _).alloc (Nat.le_refl _) _)
        | exact key _ _ (key _ _ x3 hb3) ((Below.refl _ _).alloc (Nat.le_refl _) _)
        | exact key _ _ x3 al0
        | exact x4
        | exact ⟨cell_put_far (cell_put_far (cell_put_far x4.1 hne9 _) hne9 _) hne9 _, cell_put_far (cell_put_far (cell_put_far x4.2.1 hne9 _) hne9 _) hne9 _, cell_put_far (cell_put_far (cell_put_far x4.2.2 hne9 _) hne9 _) hne9 _⟩)
      (first
        | (go_at_call 103; (with_reducible refine (hCo.out _ hw2d).mono ?_); rintro e w3 ⟨C, x, rfl, hO, hb3⟩)
        | (go_at_call 103; refine (hCo.out _ (below_drew (hw2.alloc hw2.size (.cells #[.slice none 0 0, .int .i64 0, .int .i64 0] 61)))).mono ?_; rintro e w3 ⟨C, x, rfl, hO, hb3⟩; have hB := (Blk.fresh w2 61 [.slice none 0 0, .int .i64 0, .int .i64 0]).drew.below hb3 (by simp); have x4 := key _ _ (key _ _ x3 al0) hb3; have hne9 : w.heap.size ≠ w2.heap.size := Nat.ne_of_lt q0.lt; have u0 := hB.cell (i := 0) rfl; have u1 := hB.cell (i := 1) rfl; have u2 := hB.cell (i := 2) rfl; have v0 := hB.froz 0; have v1 := hB.froz 1; have v2 := hB.froz 2))
    focus
      have hB4 := Blk.fresh w3 61 [.slice C L.length x, .int .i64 f, .int .i64 m]
      have h32 := hb3.size
      have hq1 := q1.lt
      have hF4 := OwnF.base (base' := w.heap.size + 2) (OwnF.below (w' := w3.alloc (.cells #[.slice C L.length x, .int .i64 f, .int .i64 m] 61)) hO ((Below.refl _ _).alloc (Nat.le_refl _) _) (Nat.le_refl _)) (by simp; omega)
      have hQ4 := (q1.drew.below hb3 q1.drew.lt).alloc (.cells #[.slice C L.length x, .int .i64 f, .int .i64 m] 61)
      have hw4 := (hw2d.trans (hb3.mono hw2d.size)).alloc (hw2d.trans (hb3.mono hw2d.size)).size (.cells #[.slice C L.length x, .int .i64 f, .int .i64 m] 61)
      have hO1 : w.heap.size + 1 < w3.heap.size := by simp at h32; omega
      simp only [List.toArray] at hB4
      generalize w3.alloc (.cells #[.slice C L.length x, .int .i64 f, .int .i64 m] 61) = w4 at hB4 hF4 hQ4 hw4 ⊢
      generalize w3.heap.size = O at hB4 hO1 ⊢
      clear hO hb3 x0 x1 x2 x3 al0 key hCo hw2d q0 q1 hw2 h32 hq1
    rotate_left
    focus
      have h32 := hb3.size
      have hq1 := q1.lt
      have hO1 : w.heap.size + 1 < w2.heap.size := hq1
      have hcb : (Value.slice C L.length x).ownBlock ≠ some w2.heap.size := fun e => by have := (hO.1.lt _ e).1; simp at this; omega
      have hB4 : Blk _ w2.heap.size 61 [.slice C L.length x, .int .i64 f, .int .i64 m] := ((hB.put 0 (.slice C L.length x)).put 1 (.int .i64 f)).put 2 (.int .i64 m)
      have hF4 := OwnF.base (base' := w.heap.size + 2) (((hO.off (p := ⟨w2.heap.size, 0, none⟩) hcb (.slice C L.length x)).off (p := ⟨w2.heap.size, 1, none⟩) hcb (.int .i64 f)).off (p := ⟨w2.heap.size, 2, none⟩) hcb (.int .i64 m)) (by simp; omega)
      have hQ3 : Blk w3 (w.heap.size + 1) 63 [.slice none 0 0, .int .i64 0, .int .i64 0, .slice none 0 0, .int .i64 0] := (q1.alloc (.cells #[.slice none 0 0, .int .i64 0, .int .i64 0] 61)).drew.below hb3 (by simp; omega)
      have hQ4 := ((hQ3.far (p := ⟨w2.heap.size, 0, none⟩) (by simp; omega) (.slice C L.length x)).far (p := ⟨w2.heap.size, 1, none⟩) (by simp; omega) (.int .i64 f)).far (p := ⟨w2.heap.size, 2, none⟩) (by simp; omega) (.int .i64 m)
      have hw3 := (hw2d.trans (al0.mono hw2d.size)).trans (hb3.mono (hw2d.trans (al0.mono hw2d.size)).size)
      have hw4 := ((hw3.setCell (p := ⟨w2.heap.size, 0, none⟩) (by simp; omega) (.slice C L.length x)).setCell (p := ⟨w2.heap.size, 1, none⟩) (by simp; omega) (.int .i64 f)).setCell (p := ⟨w2.heap.size, 2, none⟩) (by simp; omega) (.int .i64 m)
      generalize ((w3.setCell ⟨w2.heap.size, 0, none⟩ (.slice C L.length x)).setCell ⟨w2.heap.size, 1, none⟩ (.int .i64 f)).setCell ⟨w2.heap.size, 2, none⟩ (.int .i64 m) = w4 at hB4 hF4 hQ4 hw4 ⊢
      generalize w2.heap.size = O at hB4 hO1 ⊢
      clear hO hb3 h32
    all_goals
      obtain ⟨g, cp, hCv, hgj, hgl⟩ := hF4.1.form (by omega)
      cases hCv
      have hcap : L.length ≤ x ∧ x ≤ maxLen := by
        rcases hF4.1.2 with ⟨hv, _⟩ | ⟨_, _, _, hv, _, _, h5, h6, _⟩
        · cases hv
        · cases hv; exact ⟨h5, h6⟩
      have hxm := hcap.2
      unfold maxLen at hxm
      have o0 := hB4.cell (i := 0) rfl
      have hgO : g ≠ O := fun e => by
        subst e
        rcases hF4.1.2 with ⟨hv, _⟩ | ⟨g', _, _, hv, _, h5, _⟩
        · cases hv
        · cases hv
          rw [hB4.heap] at h5
          injection h5 with h5
          injection h5 with _ ht _
          exact absurd ht (by decide)
      go_wp2
      go_loopw [18] (fun _ wr => ∃ (k r cp : Nat) (ad : Addr) (F N : Int), k ≤ q ∧ Hid (r + k = L.length) ∧ Hid (cp + k = x) ∧ Hid (ad = (⟨g, 0, none⟩ : Addr).add (k * 3)) ∧ Hid (F = f + (k : Int) * 4) ∧ Hid (N = m - (k : Int) * 4) ∧ Blk wr O 61 [.slice (some ad) r cp, .int .i64 F, .int .i64 N] ∧ Blk wr (w.heap.size + 1) 63 [.slice none 0 0, .int .i64 0, .int .i64 0, .slice none 0 0, .int .i64 0] ∧ OwnF wr (w.heap.size + 2) (.slice (some ⟨g, 0, none⟩) L.length x) L ∧ Below w.heap.size w wr) (fun _ wr => lenAt wr O)
      case atStart => exact ⟨0, L.length, x, ⟨g, 0, none⟩, f, m, by omega, Lib.hid (by omega), Lib.hid (by omega), Lib.hid (by simp [Addr.add]), Lib.hid (by simp), Lib.hid (by simp), hB4, hQ4, hF4, hw4⟩
      case round =>
        obtain ⟨k, r, cp, ad, F, N, hk, HR, HC, HA, HF, HN, hB, hQ, hFr, hb⟩ := hrel
        have hr : r + k = L.length := HR.out
        have hcpk : cp + k = x := HC.out
        have hFk : F = f + (k : Int) * 4 := HF.out
        have hNk : N = m - (k : Int) * 4 := HN.out
        have hr1 : r ≤ cp := by omega
        have hF1 : 0 ≤ F ∧ F ≤ 1000000 := by omega
        have hN1 : -1000 ≤ N ∧ N ≤ 60 := by omega
        have hcp9 : cp ≤ 9223372036854775807 := by omega
        have hr9 : 1 ≤ r := by omega
        have b0 := hB.cell (i := 0) rfl
        have b1 := hB.cell (i := 1) rfl
        have b2 := hB.cell (i := 2) rfl
        have f0 := hB.froz 0
        have f1 := hB.froz 1
        have f2 := hB.froz 2
        by_cases hlt : k < q
        · have h1 : 1 < r := by omega
          have h2 : F + 4 ≤ b := by omega
          have hc1 : ¬ cp = 1 := by omega
          have hlen0 := lenAt_of b0
          have HL0 := Lib.hid hlen0
          clear hr hcpk hFk hNk hlen0
          go_wp2
          have r1 : Blk _ O 61 [.slice (some (ad.add 3)) (r - 1) (cp - 1), .int .i64 (F + 4), .int .i64 (N - 4)] := ((hB.put 0 (.slice (some (ad.add 3)) (r - 1) (cp - 1))).put 1 (.int .i64 (F + 4))).put 2 (.int .i64 (N - 4))
          have hlen1 := lenAt_of (r1.cell (i := 0) rfl)
          have hoff : (Value.slice (some ⟨g, 0, none⟩) L.length x).ownBlock ≠ some O := by simpa [Value.ownBlock] using hgO
          have e1 := HR.out
          have e2 := HC.out
          have e4 := HF.out
          have e5 := HN.out
          exact ⟨⟨k + 1, r - 1, cp - 1, ad.add 3, F + 4, N - 4, by omega, Lib.hid (by omega), Lib.hid (by omega), Lib.hid (by rw [HA.out, ofNat_add]; congr 1; omega), Lib.hid (by omega), Lib.hid (by omega), r1, ((hQ.far (p := ⟨O, 0, none⟩) (by simp; omega) _).far (p := ⟨O, 1, none⟩) (by simp; omega) _).far (p := ⟨O, 2, none⟩) (by simp; omega) _, ((hFr.off (p := ⟨O, 0, none⟩) hoff _).off (p := ⟨O, 1, none⟩) hoff _).off (p := ⟨O, 2, none⟩) hoff _, ((hb.setCell (p := ⟨O, 0, none⟩) (by simp; omega) _).setCell (p := ⟨O, 1, none⟩) (by simp; omega) _).setCell (p := ⟨O, 2, none⟩) (by simp; omega) _⟩, Nat.lt_of_le_of_lt (Nat.le_of_eq hlen1) (by rw [HL0.out]; omega)⟩
        · obtain rfl : k = q := by omega
          have hDl : (L.drop k).length = r := by simp; omega
          have hfd := Fls.drop (OwnF.fls hFr) k (by omega)
          rw [← HA.out] at hfd
          have HDL := Lib.hid hDl
          have hadb : w.heap.size ≤ ad.block := by rw [HA.out, add_blk]; have := hgj; simp; omega
          have hbq : ad.block ≠ w.heap.size + 1 := by rw [HA.out, add_blk]; have := hgj; simp; omega
          have hend : ¬ 1 < r ∨ ¬ F + 4 ≤ b := by omega
          clear hr hcpk hFk hNk hDl
          have t0 := hQ.cell (i := 0) rfl; have t1 := hQ.cell (i := 1) rfl; have t2 := hQ.cell (i := 2) rfl; have t3 := hQ.cell (i := 3) rfl; have t4 := hQ.cell (i := 4) rfl; have ft0 := hQ.froz 0; have ft1 := hQ.froz 1; have ft2 := hQ.froz 2; have ft3 := hQ.froz 3; have ft4 := hQ.froz 4; 
          by_cases h1 : 1 < r
          · have h2 : ¬ F + 4 ≤ b := by omega
            clear hend
            go_wp2
            have r1 := ((((hQ.put 0 (.slice (some ad) r cp)).put 1 (.int .i64 F)).put 2 (.int .i64 N)).put 3 (.slice none 0 0)).put 4 (.int .i64 0)
            have r3 := ((((hb.setCell (p := ⟨w.heap.size + 1, 0, none⟩) (by simp) (.slice (some ad) r cp)).setCell (p := ⟨w.heap.size + 1, 1, none⟩) (by simp) (.int .i64 F)).setCell (p := ⟨w.heap.size + 1, 2, none⟩) (by simp) (.int .i64 N)).setCell (p := ⟨w.heap.size + 1, 3, none⟩) (by simp) (.slice none 0 0)).setCell (p := ⟨w.heap.size + 1, 4, none⟩) (by simp) (.int .i64 0)
            have hfw : Fw _ w.heap.size _ (some ad) (L.drop k) := fw_five hfd hadb (w.heap.size + 1) hbq (.slice (some ad) r cp) (.int .i64 F) (.int .i64 N) (.slice none 0 0) (.int .i64 0)
            generalize ((((wr.setCell ⟨w.heap.size + 1, 0, none⟩ (.slice (some ad) r cp)).setCell ⟨w.heap.size + 1, 1, none⟩ (.int .i64 F)).setCell ⟨w.heap.size + 1, 2, none⟩ (.int .i64 N)).setCell ⟨w.heap.size + 1, 3, none⟩ (.slice none 0 0)).setCell ⟨w.heap.size + 1, 4, none⟩ (.int .i64 0) = w9 at r1 r3 hfw ⊢
            have y0 := r1.cell (i := 0) rfl
            have y1 := r1.cell (i := 1) rfl
            have y2 := r1.cell (i := 2) rfl
            have y3 := r1.cell (i := 3) rfl
            have y4 := r1.cell (i := 4) rfl
            exact bodyPost_ret (v := .agg #[.slice (some ad) r cp, .int .i64 F, .int .i64 N, .slice none 0 0, .int .i64 0]) (by simp [results, Tryz.results56, go_sem, y0, y1, y2, y3, y4]) rfl ⟨some ad, cp, by rw [R1.out, R2.out, R2.out, R3.out, HQ.out, HDL.out, HF.out, HN.out], by rw [R1.out]; exact hfw, r3⟩
          · clear hend
            go_wp2
            have r1 := ((((hQ.put 0 (.slice (some ad) r cp)).put 1 (.int .i64 F)).put 2 (.int .i64 N)).put 3 (.slice none 0 0)).put 4 (.int .i64 0)
            have r3 := ((((hb.setCell (p := ⟨w.heap.size + 1, 0, none⟩) (by simp) (.slice (some ad) r cp)).setCell (p := ⟨w.heap.size + 1, 1, none⟩) (by simp) (.int .i64 F)).setCell (p := ⟨w.heap.size + 1, 2, none⟩) (by simp) (.int .i64 N)).setCell (p := ⟨w.heap.size + 1, 3, none⟩) (by simp) (.slice none 0 0)).setCell (p := ⟨w.heap.size + 1, 4, none⟩) (by simp) (.int .i64 0)
            have hfw : Fw _ w.heap.size _ (some ad) (L.drop k) := fw_five hfd hadb (w.heap.size + 1) hbq (.slice (some ad) r cp) (.int .i64 F) (.int .i64 N) (.slice none 0 0) (.int .i64 0)
            generalize ((((wr.setCell ⟨w.heap.size + 1, 0, none⟩ (.slice (some ad) r cp)).setCell ⟨w.heap.size + 1, 1, none⟩ (.int .i64 F)).setCell ⟨w.heap.size + 1, 2, none⟩ (.int .i64 N)).setCell ⟨w.heap.size + 1, 3, none⟩ (.slice none 0 0)).setCell ⟨w.heap.size + 1, 4, none⟩ (.int .i64 0) = w9 at r1 r3 hfw ⊢
            have y0 := r1.cell (i := 0) rfl
            have y1 := r1.cell (i := 1) rfl
            have y2 := r1.cell (i := 2) rfl
            have y3 := r1.cell (i := 3) rfl
            have y4 := r1.cell (i := 4) rfl
            exact bodyPost_ret (v := .agg #[.slice (some ad) r cp, .int .i64 F, .int .i64 N, .slice none 0 0, .int .i64 0]) (by simp [results, Tryz.results56, go_sem, y0, y1, y2, y3, y4]) rfl ⟨some ad, cp, by rw [R1.out, R2.out, R2.out, R3.out, HQ.out, HDL.out, HF.out, HN.out], by rw [R1.out]; exact hfw, r3⟩

  · have R1 := Lib.hid (show dropO L f m b = [] by unfold dropO; rw [if_neg (by simp [hBB])])
    have R2 : Hid (∀ x, dropI L f m b x = 0) := Lib.hid (fun x => by unfold dropI; rw [if_neg (by simp [hBB])])
    have R3 := Lib.hid (show dropC L f m = 1 by unfold dropC; rw [if_neg (by simp [hBB])])
    rw [hBB]
    clear hBB
    go_wp2_with (fail)
    refine (l05Ill_any 1 _).mono ?_
    rintro e w3 ⟨rfl, hb3⟩
    have p1 := q1.below hb3 q1.lt
    have hw3 := hw2.trans (hb3.mono hw2.size)
    have t0 := p1.cell (i := 0) rfl; have t1 := p1.cell (i := 1) rfl; have t2 := p1.cell (i := 2) rfl; have t3 := p1.cell (i := 3) rfl; have t4 := p1.cell (i := 4) rfl; have ft0 := p1.froz 0; have ft1 := p1.froz 1; have ft2 := p1.froz 2; have ft3 := p1.froz 3; have ft4 := p1.froz 4; 
    go_wp2
    have r1 := ((((p1.put 0 (.slice none 0 0)).put 1 (.int .i64 0)).put 2 (.int .i64 0)).put 3 (.slice none 0 0)).put 4 (.int .i64 1)
    have r3 := ((((hw3.setCell (p := ⟨w.heap.size + 1, 0, none⟩) (by simp) (.slice none 0 0)).setCell (p := ⟨w.heap.size + 1, 1, none⟩) (by simp) (.int .i64 0)).setCell (p := ⟨w.heap.size + 1, 2, none⟩) (by simp) (.int .i64 0)).setCell (p := ⟨w.heap.size + 1, 3, none⟩) (by simp) (.slice none 0 0)).setCell (p := ⟨w.heap.size + 1, 4, none⟩) (by simp) (.int .i64 1)
    generalize ((((w3.setCell ⟨w.heap.size + 1, 0, none⟩ (.slice none 0 0)).setCell ⟨w.heap.size + 1, 1, none⟩ (.int .i64 0)).setCell ⟨w.heap.size + 1, 2, none⟩ (.int .i64 0)).setCell ⟨w.heap.size + 1, 3, none⟩ (.slice none 0 0)).setCell ⟨w.heap.size + 1, 4, none⟩ (.int .i64 1) = w9 at r1 r3 ⊢
    have y0 := r1.cell (i := 0) rfl
    have y1 := r1.cell (i := 1) rfl
    have y2 := r1.cell (i := 2) rfl
    have y3 := r1.cell (i := 3) rfl
    have y4 := r1.cell (i := 4) rfl
    exact bodyPost_ret (v := .agg #[.slice none 0 0, .int .i64 0, .int .i64 0, .slice none 0 0, .int .i64 1]) (by simp [results, Tryz.results56, go_sem, y0, y1, y2, y3, y4]) rfl ⟨none, 0, by rw [R1.out, R2.out, R2.out, R3.out]; rfl, by rw [R1.out]; exact Fw.ofOwn (ownF_nil _ _), r3⟩
theorem bothSeglogDrop (L : List Fil) (f m b : Int) (hf : ∀ f ∈ L, f.fits) (hS : Small L) (hfw : (Lit.int .i64 f).wf = true) (hmw : (Lit.int .i64 m).wf = true) (hbw : (Lit.int .i64 b).wf = true) :
    ∃ (M : List Fil) (fo mo : Int) (N : List ByteArray) (co : Int), (∀ f ∈ M, f.fits) ∧ M.length ≤ 1048576 ∧ N.length ≤ 60 ∧ (∀ (A : Option Addr) (c : Nat) (W : World), Fls W W.heap.size A L → L.length ≤ c → c ≤ maxLen → Calls Tryz.prog 56 #[.agg #[.slice A L.length c, .int .i64 f, .int .i64 m], .int .i64 b] W fun e w' => ∃ (B : Option Addr) (d : Nat) (S : Option Addr) (y : Nat), e = .returned (.agg #[.slice B M.length d, .int .i64 fo, .int .i64 mo, .slice S N.length y, .int .i64 co]) ∧ Fw w' W.heap.size w'.heap.size B M ∧ OwnS w' W.heap.size (.slice S N.length y) N ∧ Below W.heap.size W w') ∧
      (∀ (A : Option Addr) (c : Nat) (W : World), Fls W W.heap.size A L → L.length ≤ c → c ≤ maxLen → Pow W → Handle W → Seg W → Calls Tryz.prog 57 #[.agg #[.slice A L.length c, .int .i64 f, .int .i64 m], .int .i64 b] W fun e w' => ∃ (B : Option Addr) (d : Nat) (S : Option Addr) (y : Nat), e = .returned (.agg #[.slice B M.length d, .int .i64 fo, .int .i64 mo, .slice S N.length y, .int .i64 co]) ∧ OwnF w' W.heap.size (.slice B M.length d) M ∧ OwnS w' W.heap.size (.slice S N.length y) N ∧ Below W.heap.size W w') := by
  have hlen : (dropO L f m b).length ≤ L.length := by unfold dropO; split <;> simp
  have hfits : ∀ g ∈ dropO L f m b, g.fits := fun g h => by
    unfold dropO at h
    split at h
    · exact hf g (List.mem_of_mem_drop h)
    · cases h
  have hn := hS.1
  refine ⟨dropO L f m b, dropI L f m b (f + (dropN f m b : Int) * 4), dropI L f m b (m - (dropN f m b : Int) * 4), [], dropC L f m, hfits, by omega, by simp, fun A c W h _ _ => ?_, fun A c W h hc hcm hP hH hSg => ?_⟩
  · exact (specDrop_any A L c f m b W h hS hfw hmw hbw).mono fun e w' ⟨C, x, he, h1, h2⟩ => ⟨C, x, none, 0, he, h1, World.ownsRow_nil _ _ _ _, h2⟩
  · exact (implDrop_any A L c f m b W h hS hc hcm hfw hmw hbw hP hH hSg).mono fun e w' ⟨C, x, he, h1, h2⟩ => ⟨C, x, none, 0, he, h1, World.ownsRow_nil _ _ _ _, h2⟩
end Go.Proofs.YtebkblmejkkhfaaGreatDoor

namespace Go.Proofs.YtebkblmejkkhfaaGreatDoor
open Go.RowKit
set_option linter.unusedVariables false
set_option linter.unusedSimpArgs false
set_option maxRecDepth 1000000

set_option maxHeartbeats 8000000 in
theorem specAdd_ok (a : Addr) (L : List Fil) (c : Nat) (f m : Int) (t s : ByteArray) (w : World) (hL : Fls w w.heap.size (some a) L) (hlog : logB L f m = true) (hfw : (Lit.int .i64 f).wf = true) (hmw : (Lit.int .i64 m).wf = true) (ht : t.size ≤ 300) (hm : m < 60) (hfm : f + m < 900000) (hl : 0 < L.length) (hs : (L[L.length - 1]'(by omega)).name = s) (M : List Fil) (cd : Int)
    (AP : Hid (∀ W, Below w.heap.size w W → Calls Tryz.prog 19 #[.agg #[.slice (some a) L.length c], .string s, .string (frameS t)] W fun e w' => ∃ C x, e = .returned (fsOut (.slice C M.length x) cd) ∧ OwnF w' W.heap.size (.slice C M.length x) M ∧ Below W.heap.size W w'))
    (M2 : List Fil) (fo mo co : Int) (hbad : cd ≠ 0 → M2 = [] ∧ fo = 0 ∧ mo = 0 ∧ co = cd)
    (RO : Hid (cd = 0 → ∀ W C x, OwnF W (w.heap.size + 2) (.slice C M.length x) M → w.heap.size + 2 ≤ W.heap.size → Calls Tryz.prog 108 #[segV (.slice C M.length x) f (m + 1)] W fun e w' => ∃ C' x', e = .returned (slOut (.slice C' M2.length x') fo mo (.slice none 0 0) co) ∧ OwnF w' (w.heap.size + 2) (.slice C' M2.length x') M2 ∧ Below W.heap.size W w')) :
    Calls Tryz.prog 40 #[segV (.slice (some a) L.length c) f m, .string t] w fun e w' => ∃ C x, e = .returned (slOut (.slice C M2.length x) fo mo (.slice none 0 0) co) ∧ OwnF w' w.heap.size (.slice C M2.length x) M2 ∧ Below w.heap.size w w' := by
  obtain ⟨g1, g2, g3, g4, g5, g6, g7⟩ := logB_nums hlog
  clear g6
  have hb0 : Below w.heap.size w ((w.alloc (.cells #[.slice (some a) L.length c, .int .i64 f, .int .i64 m] 61)).alloc (.cells #[.slice none 0 0, .int .i64 0, .int .i64 0, .slice none 0 0, .int .i64 0] 63)) := ((Below.refl _ _).alloc (Nat.le_refl _) _).alloc (by simp) _
  have k0 := (Blk.fresh w 61 [.slice (some a) L.length c, .int .i64 f, .int .i64 m]).alloc (.cells #[.slice none 0 0, .int .i64 0, .int .i64 0, .slice none 0 0, .int .i64 0] 63)
  have k1 := Blk.fresh (w.alloc (.cells #[.slice (some a) L.length c, .int .i64 f, .int .i64 m] 61)) 63 [.slice none 0 0, .int .i64 0, .int .i64 0, .slice none 0 0, .int .i64 0]
  simp only [List.toArray, World.size_alloc] at k0 k1
  have HR := specSeglogRight_any (some a) L c f m _ ((hL.below hb0 (Nat.le_refl _)).mono hb0.size) hfw hmw
  rw [hlog] at HR
  have HRH := Lib.hid HR
  have FO := Lib.hid (fun W => specFrameOf_any t W (by omega))
  obtain ⟨q, hq⟩ : ∃ q, q + 1 = L.length := ⟨L.length - 1, by omega⟩
  have hqs : (L[q]'(by omega)).name = s := by rw [← hs]; congr 2; omega
  have HQS := Lib.hid hqs
  clear hfw hmw HR hlog hs hqs
  go_enter Tryz.func40, Tryz.ntmps40
  go_wp2_with (fail)
  refine HRH.out.mono ?_
  clear HRH
  generalize (w.alloc (.cells #[.slice (some a) L.length c, .int .i64 f, .int .i64 m] 61)).alloc (.cells #[.slice none 0 0, .int .i64 0, .int .i64 0, .slice none 0 0, .int .i64 0] 63) = w1 at hb0 k0 k1 ⊢
  rintro e w2 ⟨rfl, hb2⟩
  have hP := k0.below hb2 k0.lt
  have hQ := k1.below hb2 k1.lt
  have hw2 := hb0.trans (hb2.mono hb0.size)
  clear k0 k1 hb0 hb2
  have c0 := hP.cell (i := 0) rfl
  have c1 := hP.cell (i := 1) rfl
  have c2 := hP.cell (i := 2) rfl
  obtain ⟨a', ha', hab, d0, d1, d2, hff⟩ := (hL.below hw2 (Nat.le_refl _)).at q (by omega)
  cases ha'
  rw [HQS.out] at d0
  have e1 : (L.length : Int) - 1 = (q : Int) := by omega
  have e2 : (q : Int) < (L.length : Int) := by omega
  go_upto_region 8 with (fail)
  go_cut [6] (fun y wx => ApCut w M cd [.slice (some a) L.length c, .int .i64 f, .int .i64 m] [.slice none 0 0, .int .i64 0, .int .i64 0, .slice none 0 0, .int .i64 0] y wx)
  case first =>
    have hsd := below_drew hw2
    have hPd := hP.drew
    have hQd := hQ.drew
    have hQl := hQ.lt
    have al1 := (Below.refl w2.heap.size w2).alloc (Nat.le_refl _) (.cells #[.slice none 0 0, .int .i64 0] 29)
    have al0 : Below w2.drew.heap.size w2.drew (w2.alloc (.cells #[.slice none 0 0, .int .i64 0] 29)).drew := ⟨al1.os, al1.tape, al1.output, al1.size, al1.block⟩
    clear al1
    have x0 : w2.drew.cell? ⟨w.heap.size, 0, none⟩ = some (.slice (some a) L.length c) := hPd.cell (i := 0) rfl
    have x0a : (w2.alloc (.cells #[.slice none 0 0, .int .i64 0] 29)).drew.cell? ⟨w.heap.size, 0, none⟩ = some (.slice (some a) L.length c) := kept_cell al0 x0
    have hsa : Below w.heap.size w (w2.alloc (.cells #[.slice none 0 0, .int .i64 0] 29)).drew := hsd.trans (al0.mono hsd.size)
    have hPa := hPd.below al0 hPd.lt
    have hQa := hQd.below al0 hQd.lt
    have hBa := (Blk.fresh w2 29 [.slice none 0 0, .int .i64 0]).drew
    go_region_held3 (fun W => W.cell? ⟨w.heap.size, 0, none⟩ = some (.slice (some a) L.length c))
      (first
        | exact x0
        | exact x0a
        | exact x1
        | exact kept_cell ((Below.refl v1.heap.size v1).alloc (Nat.le_refl _) (.cells #[.slice none 0 0, .int .i64 0] 29)) x1
        | exact x9
        | exact kept_cell ((Below.refl v9.heap.size v9).alloc (Nat.le_refl _) _) x9
        | exact cell_put_far (cell_put_far x9 (by simp; omega) _) (by simp; omega) _
        | exact cell_put_far (cell_put_far x9 (Nat.ne_of_lt hP1.lt) _) (Nat.ne_of_lt hP1.lt) _
        | exact cell_put_far (cell_put_far x9 (Nat.ne_of_lt hP.lt) _) (Nat.ne_of_lt hP.lt) _)
      (first
        | (go_at_call 107; first
            | ((with_reducible refine (FO.out w2.drew).mono ?_); rintro e v1 ⟨rfl, hb1⟩; have hs1 := (hsd).trans (hb1.mono (hsd).size); have hP1 := (hPd).below hb1 (hPd).lt; have hQ1 := (hQd).below hb1 (hQd).lt; have x1 : v1.cell? ⟨w.heap.size, 0, none⟩ = some (.slice (some a) L.length c) := kept_cell hb1 x0)
            | ((with_reducible refine (FO.out (w2.alloc (.cells #[.slice none 0 0, .int .i64 0] 29)).drew).mono ?_); rintro e v1 ⟨rfl, hb1⟩; have hs1 := (hsa).trans (hb1.mono (hsa).size); have hP1 := (hPa).below hb1 (hPa).lt; have hQ1 := (hQa).below hb1 (hQa).lt; have x1 : v1.cell? ⟨w.heap.size, 0, none⟩ = some (.slice (some a) L.length c) := kept_cell hb1 x0a; have hB1 := (hBa).below hb1 (hBa).lt; have hBl1 : w.heap.size + 1 < w2.heap.size := hQl))
        | (go_at_call 19; first
            | ((with_reducible refine (AP.out v1 hs1).mono ?_); rintro e v9 ⟨C, x, rfl, hO, hb9⟩; have x9 : v9.cell? ⟨w.heap.size, 0, none⟩ = some (.slice (some a) L.length c) := kept_cell hb9 x1; try (have hB9 := hB1.below hb9 hB1.lt; have u0 := hB9.cell (i := 0) rfl; have u1 := hB9.cell (i := 1) rfl; have z0 := hB9.froz 0; have z1 := hB9.froz 1))
            | ((with_reducible refine (AP.out (v1.alloc (.cells #[.slice none 0 0, .int .i64 0] 29)) (hs1.alloc hs1.size (.cells #[.slice none 0 0, .int .i64 0] 29))).mono ?_); rintro e v9 ⟨C, x, rfl, hO, hb9⟩; have x9 : v9.cell? ⟨w.heap.size, 0, none⟩ = some (.slice (some a) L.length c) := kept_cell hb9 (show (v1.alloc (.cells #[.slice none 0 0, .int .i64 0] 29)).cell? ⟨w.heap.size, 0, none⟩ = some (.slice (some a) L.length c) from kept_cell ((Below.refl v1.heap.size v1).alloc (Nat.le_refl _) (.cells #[.slice none 0 0, .int .i64 0] 29)) x1); have hB9 := (Blk.fresh v1 29 [.slice none 0 0, .int .i64 0]).below hb9 (by simp); have u0 := hB9.cell (i := 0) rfl; have u1 := hB9.cell (i := 1) rfl; have z0 := hB9.froz 0; have z1 := hB9.froz 1)))
    all_goals
      go_wp2_with (fail)
      go_meet
      case rel => first | exact ap_late hO hb9 hP1 hQ1 hs1 | exact ap_early hO hb9 (hP1.alloc (.cells #[.slice none 0 0, .int .i64 0] 29)) (hQ1.alloc (.cells #[.slice none 0 0, .int .i64 0] 29)) (hs1.alloc hs1.size (.cells #[.slice none 0 0, .int .i64 0] 29)) (Blk.fresh v1 29 [.slice none 0 0, .int .i64 0]) hQ1.lt | exact ap_early hO hb9 hP1 hQ1 hs1 hB1 hBl1
  case rest =>
    obtain ⟨bx, C, x, rfl, hbb, hBx, hO, hP9, hQ9, hb9⟩ := hcut
    clear c0 c1 c2 d0 d1 d2 hP hQ
    have y0 := hBx.cell (i := 0) rfl
    have y1 := hBx.cell (i := 1) rfl
    have p1 := hP9.cell (i := 1) rfl
    have p2 := hP9.cell (i := 2) rfl
    have hQl := hQ9.lt
    by_cases hcd : cd = 0
    · have dcd : (cd != 0) = false := by simp [hcd]
      have HCD := Lib.hid hcd
      clear hcd
      go_wp2_with (fail)
      refine (RO.out HCD.out _ C x hO (by omega)).mono ?_
      rintro e w6 ⟨C', x', rfl, hO6, hb6⟩
      have hQ6 := hQ9.below hb6 hQ9.lt
      have hw6 := hb9.trans (hb6.mono hb9.size)
      have t0 := hQ6.cell (i := 0) rfl; have t1 := hQ6.cell (i := 1) rfl; have t2 := hQ6.cell (i := 2) rfl; have t3 := hQ6.cell (i := 3) rfl; have t4 := hQ6.cell (i := 4) rfl; have ft0 := hQ6.froz 0; have ft1 := hQ6.froz 1; have ft2 := hQ6.froz 2; have ft3 := hQ6.froz 3; have ft4 := hQ6.froz 4; 
      clear y0 y1 p1 p2
      go_wp2
      have r1 := ((((hQ6.put 0 (.slice C' M2.length x')).put 1 (.int .i64 fo)).put 2 (.int .i64 mo)).put 3 (.slice none 0 0)).put 4 (.int .i64 co)
      have r2 := ((((hO6.far (p := ⟨w.heap.size + 1, 0, none⟩) (by first | (simp; done) | (simp; omega)) (.slice C' M2.length x')).far (p := ⟨w.heap.size + 1, 1, none⟩) (by first | (simp; done) | (simp; omega)) (.int .i64 fo)).far (p := ⟨w.heap.size + 1, 2, none⟩) (by first | (simp; done) | (simp; omega)) (.int .i64 mo)).far (p := ⟨w.heap.size + 1, 3, none⟩) (by first | (simp; done) | (simp; omega)) (.slice none 0 0)).far (p := ⟨w.heap.size + 1, 4, none⟩) (by first | (simp; done) | (simp; omega)) (.int .i64 co)
      have r3 := ((((hw6.setCell (p := ⟨w.heap.size + 1, 0, none⟩) (by simp) (.slice C' M2.length x')).setCell (p := ⟨w.heap.size + 1, 1, none⟩) (by simp) (.int .i64 fo)).setCell (p := ⟨w.heap.size + 1, 2, none⟩) (by simp) (.int .i64 mo)).setCell (p := ⟨w.heap.size + 1, 3, none⟩) (by simp) (.slice none 0 0)).setCell (p := ⟨w.heap.size + 1, 4, none⟩) (by simp) (.int .i64 co)
      generalize ((((w6.setCell ⟨w.heap.size + 1, 0, none⟩ (.slice C' M2.length x')).setCell ⟨w.heap.size + 1, 1, none⟩ (.int .i64 fo)).setCell ⟨w.heap.size + 1, 2, none⟩ (.int .i64 mo)).setCell ⟨w.heap.size + 1, 3, none⟩ (.slice none 0 0)).setCell ⟨w.heap.size + 1, 4, none⟩ (.int .i64 co) = w9 at r1 r2 r3 ⊢
      have y0 := r1.cell (i := 0) rfl
      have y1 := r1.cell (i := 1) rfl
      have y2 := r1.cell (i := 2) rfl
      have y3 := r1.cell (i := 3) rfl
      have y4 := r1.cell (i := 4) rfl
      exact bodyPost_ret (v := .agg #[.slice C' M2.length x', .int .i64 fo, .int .i64 mo, .slice none 0 0, .int .i64 co]) (by simp [results, Tryz.results40, go_sem, y0, y1, y2, y3, y4]) rfl ⟨C', x', rfl, r2.base (by omega), r3⟩
    · obtain ⟨rfl, rfl, rfl, rfl⟩ := hbad hcd
      have dcd : (co != 0) = true := by simpa using hcd
      clear hcd
      go_wp2_with (fail)
      refine (l05Ill_any co _).mono ?_
      rintro e w6 ⟨rfl, hb6⟩
      have hQ6 := hQ9.below hb6 hQ9.lt
      have hw6 := hb9.trans (hb6.mono hb9.size)
      have t0 := hQ6.cell (i := 0) rfl; have t1 := hQ6.cell (i := 1) rfl; have t2 := hQ6.cell (i := 2) rfl; have t3 := hQ6.cell (i := 3) rfl; have t4 := hQ6.cell (i := 4) rfl; have ft0 := hQ6.froz 0; have ft1 := hQ6.froz 1; have ft2 := hQ6.froz 2; have ft3 := hQ6.froz 3; have ft4 := hQ6.froz 4; 
      clear y0 y1 p1 p2
      go_wp2
      have r1 := ((((hQ6.put 0 (.slice none 0 0)).put 1 (.int .i64 0)).put 2 (.int .i64 0)).put 3 (.slice none 0 0)).put 4 (.int .i64 co)
      have r3 := ((((hw6.setCell (p := ⟨w.heap.size + 1, 0, none⟩) (by simp) (.slice none 0 0)).setCell (p := ⟨w.heap.size + 1, 1, none⟩) (by simp) (.int .i64 0)).setCell (p := ⟨w.heap.size + 1, 2, none⟩) (by simp) (.int .i64 0)).setCell (p := ⟨w.heap.size + 1, 3, none⟩) (by simp) (.slice none 0 0)).setCell (p := ⟨w.heap.size + 1, 4, none⟩) (by simp) (.int .i64 co)
      generalize ((((w6.setCell ⟨w.heap.size + 1, 0, none⟩ (.slice none 0 0)).setCell ⟨w.heap.size + 1, 1, none⟩ (.int .i64 0)).setCell ⟨w.heap.size + 1, 2, none⟩ (.int .i64 0)).setCell ⟨w.heap.size + 1, 3, none⟩ (.slice none 0 0)).setCell ⟨w.heap.size + 1, 4, none⟩ (.int .i64 co) = w9 at r1 r3 ⊢
      have y0 := r1.cell (i := 0) rfl
      have y1 := r1.cell (i := 1) rfl
      have y2 := r1.cell (i := 2) rfl
      have y3 := r1.cell (i := 3) rfl
      have y4 := r1.cell (i := 4) rfl
      exact bodyPost_ret (v := .agg #[.slice none 0 0, .int .i64 0, .int .i64 0, .slice none 0 0, .int .i64 co]) (by simp [results, Tryz.results40, go_sem, y0, y1, y2, y3, y4]) rfl ⟨none, 0, rfl, ownF_nil _ _, r3⟩

/-- A log that does not roll. -/
theorem roll_no (C : Option Addr) (n x : Nat) (f m : Int) (w : World) (h0 : 0 ≤ m) (h1 : m % 4 ≠ 0) :
    Calls Tryz.prog 108 #[segV (.slice C n x) f m] w fun e w' => e = .returned (slOut (.slice C n x) f m (.slice none 0 0) 0) ∧ Below w.heap.size w w' := by
  have d1 : (m % 4 != 0) = true := by simpa using h1
  clear h1
  go_enter Tryz.func108, Tryz.ntmps108
  go_wp2
  exact bodyPost_ret (v := slOut (.slice C n x) f m (.slice none 0 0) 0) (by simp [results, Tryz.results108, go_sem]) rfl ⟨rfl, ((Below.refl _ _).alloc (Nat.le_refl _) _).alloc (by simp) _⟩
set_option maxHeartbeats 8000000 in
/-- A log that rolls. -/
theorem roll_yes (C0 : Option Addr) (n0 xx : Nat) (f m : Int) (s : ByteArray) (w : World) (h0 : 0 < m) (h1 : m % 4 = 0) (hf0 : 0 ≤ f) (hm9 : m ≤ 60) (hf9 : f ≤ 900000) (hs : segN (f + m) = s) (M : List Fil) (cd : Int)
    (AP : Hid (∀ W, Below w.heap.size w W → Calls Tryz.prog 19 #[.agg #[.slice C0 n0 xx], .string s, .string ⟨#[]⟩] W fun e w' => ∃ C x, e = .returned (fsOut (.slice C M.length x) cd) ∧ OwnF w' W.heap.size (.slice C M.length x) M ∧ Below W.heap.size W w'))
    (M2 : List Fil) (fo mo co : Int) (hbad : cd ≠ 0 → M2 = [] ∧ fo = 0 ∧ mo = 0 ∧ co = cd) (hgood : cd = 0 → M2 = M ∧ fo = f ∧ mo = m ∧ co = 0) :
    Calls Tryz.prog 108 #[segV (.slice C0 n0 xx) f m] w fun e w' => ∃ C x, e = .returned (slOut (.slice C M2.length x) fo mo (.slice none 0 0) co) ∧ OwnF w' w.heap.size (.slice C M2.length x) M2 ∧ Below w.heap.size w w' := by
  have d1 : (m % 4 != 0) = false := by simp [h1]
  have d2 : (m == 0) = false := by simp; omega
  have NR : Hid (∀ W, Calls Tryz.prog 138 #[.int .i64 (f + m)] W fun e w' => e = .returned (.string s) ∧ Below W.heap.size W w') := Lib.hid fun W => by have := specSegName_any (f + m) W; rw [hs] at this; exact this
  have hw2 : Below w.heap.size w ((w.alloc (.cells #[.slice C0 n0 xx, .int .i64 f, .int .i64 m] 61)).alloc (.cells #[.slice none 0 0, .int .i64 0, .int .i64 0, .slice none 0 0, .int .i64 0] 63)) := ((Below.refl _ _).alloc (Nat.le_refl _) _).alloc (by simp) _
  have hP := (Blk.fresh w 61 [.slice C0 n0 xx, .int .i64 f, .int .i64 m]).alloc (.cells #[.slice none 0 0, .int .i64 0, .int .i64 0, .slice none 0 0, .int .i64 0] 63)
  have hQ := Blk.fresh (w.alloc (.cells #[.slice C0 n0 xx, .int .i64 f, .int .i64 m] 61)) 63 [.slice none 0 0, .int .i64 0, .int .i64 0, .slice none 0 0, .int .i64 0]
  simp only [List.toArray, World.size_alloc] at hP hQ
  have ew : IntKind.i64.wrap (f + m) = f + m := IntWalk.i64_in _ (by omega)
  clear h1 hs
  go_enter Tryz.func108, Tryz.ntmps108
  go_upto_region 3 with (fail)
  generalize (w.alloc (.cells #[.slice C0 n0 xx, .int .i64 f, .int .i64 m] 61)).alloc (.cells #[.slice none 0 0, .int .i64 0, .int .i64 0, .slice none 0 0, .int .i64 0] 63) = w2 at hw2 hP hQ ⊢
  go_cut [3] (fun y wx => ApCut w M cd [.slice C0 n0 xx, .int .i64 f, .int .i64 m] [.slice none 0 0, .int .i64 0, .int .i64 0, .slice none 0 0, .int .i64 0] y wx)
  case first =>
    have hsd := below_drew hw2
    have hPd := hP.drew
    have hQd := hQ.drew
    have hQl := hQ.lt
    have al1 := (Below.refl w2.heap.size w2).alloc (Nat.le_refl _) (.cells #[.slice none 0 0, .int .i64 0] 29)
    have al0 : Below w2.drew.heap.size w2.drew (w2.alloc (.cells #[.slice none 0 0, .int .i64 0] 29)).drew := ⟨al1.os, al1.tape, al1.output, al1.size, al1.block⟩
    clear al1
    have x0 : w2.drew.cell? ⟨w.heap.size, 0, none⟩ = some (.slice C0 n0 xx) ∧ w2.drew.cell? ⟨w.heap.size, 1, none⟩ = some (.int .i64 f) ∧ w2.drew.cell? ⟨w.heap.size, 2, none⟩ = some (.int .i64 m) := ⟨hPd.cell (i := 0) rfl, hPd.cell (i := 1) rfl, hPd.cell (i := 2) rfl⟩
    have x0a : (w2.alloc (.cells #[.slice none 0 0, .int .i64 0] 29)).drew.cell? ⟨w.heap.size, 0, none⟩ = some (.slice C0 n0 xx) ∧ (w2.alloc (.cells #[.slice none 0 0, .int .i64 0] 29)).drew.cell? ⟨w.heap.size, 1, none⟩ = some (.int .i64 f) ∧ (w2.alloc (.cells #[.slice none 0 0, .int .i64 0] 29)).drew.cell? ⟨w.heap.size, 2, none⟩ = some (.int .i64 m) := ⟨kept_cell al0 x0.1, kept_cell al0 x0.2.1, kept_cell al0 x0.2.2⟩
    have hsa : Below w.heap.size w (w2.alloc (.cells #[.slice none 0 0, .int .i64 0] 29)).drew := hsd.trans (al0.mono hsd.size)
    have hPa := hPd.below al0 hPd.lt
    have hQa := hQd.below al0 hQd.lt
    have hBa := (Blk.fresh w2 29 [.slice none 0 0, .int .i64 0]).drew
    go_region_held3 (fun W => W.cell? ⟨w.heap.size, 0, none⟩ = some (.slice C0 n0 xx) ∧ W.cell? ⟨w.heap.size, 1, none⟩ = some (.int .i64 f) ∧ W.cell? ⟨w.heap.size, 2, none⟩ = some (.int .i64 m))
      (first
        | exact x0
        | exact x0a
        | exact x1
        | exact ⟨kept_cell ((Below.refl v1.heap.size v1).alloc (Nat.le_refl _) (.cells #[.slice none 0 0, .int .i64 0] 29)) x1.1, kept_cell ((Below.refl v1.heap.size v1).alloc (Nat.le_refl _) (.cells #[.slice none 0 0, .int .i64 0] 29)) x1.2.1, kept_cell ((Below.refl v1.heap.size v1).alloc (Nat.le_refl _) (.cells #[.slice none 0 0, .int .i64 0] 29)) x1.2.2⟩
        | exact x9
        | exact ⟨kept_cell ((Below.refl v9.heap.size v9).alloc (Nat.le_refl _) _) x9.1, kept_cell ((Below.refl v9.heap.size v9).alloc (Nat.le_refl _) _) x9.2.1, kept_cell ((Below.refl v9.heap.size v9).alloc (Nat.le_refl _) _) x9.2.2⟩
        | exact ⟨cell_put_far (cell_put_far x9.1 (by simp; omega) _) (by simp; omega) _, cell_put_far (cell_put_far x9.2.1 (by simp; omega) _) (by simp; omega) _, cell_put_far (cell_put_far x9.2.2 (by simp; omega) _) (by simp; omega) _⟩
        | exact ⟨cell_put_far (cell_put_far x9.1 (Nat.ne_of_lt hP1.lt) _) (Nat.ne_of_lt hP1.lt) _, cell_put_far (cell_put_far x9.2.1 (Nat.ne_of_lt hP1.lt) _) (Nat.ne_of_lt hP1.lt) _, cell_put_far (cell_put_far x9.2.2 (Nat.ne_of_lt hP1.lt) _) (Nat.ne_of_lt hP1.lt) _⟩
        | exact ⟨cell_put_far (cell_put_far x9.1 (Nat.ne_of_lt hP.lt) _) (Nat.ne_of_lt hP.lt) _, cell_put_far (cell_put_far x9.2.1 (Nat.ne_of_lt hP.lt) _) (Nat.ne_of_lt hP.lt) _, cell_put_far (cell_put_far x9.2.2 (Nat.ne_of_lt hP.lt) _) (Nat.ne_of_lt hP.lt) _⟩)
      (first
        | (go_at_call 138; first
            | ((with_reducible refine (NR.out w2.drew).mono ?_); rintro e v1 ⟨rfl, hb1⟩; have hs1 := (hsd).trans (hb1.mono (hsd).size); have hP1 := (hPd).below hb1 (hPd).lt; have hQ1 := (hQd).below hb1 (hQd).lt; have x1 : v1.cell? ⟨w.heap.size, 0, none⟩ = some (.slice C0 n0 xx) ∧ v1.cell? ⟨w.heap.size, 1, none⟩ = some (.int .i64 f) ∧ v1.cell? ⟨w.heap.size, 2, none⟩ = some (.int .i64 m) := ⟨kept_cell hb1 x0.1, kept_cell hb1 x0.2.1, kept_cell hb1 x0.2.2⟩)
            | ((with_reducible refine (NR.out (w2.alloc (.cells #[.slice none 0 0, .int .i64 0] 29)).drew).mono ?_); rintro e v1 ⟨rfl, hb1⟩; have hs1 := (hsa).trans (hb1.mono (hsa).size); have hP1 := (hPa).below hb1 (hPa).lt; have hQ1 := (hQa).below hb1 (hQa).lt; have x1 : v1.cell? ⟨w.heap.size, 0, none⟩ = some (.slice C0 n0 xx) ∧ v1.cell? ⟨w.heap.size, 1, none⟩ = some (.int .i64 f) ∧ v1.cell? ⟨w.heap.size, 2, none⟩ = some (.int .i64 m) := ⟨kept_cell hb1 x0a.1, kept_cell hb1 x0a.2.1, kept_cell hb1 x0a.2.2⟩; have hB1 := (hBa).below hb1 (hBa).lt; have hBl1 : w.heap.size + 1 < w2.heap.size := hQl))
        | (go_at_call 19; first
            | ((with_reducible refine (AP.out v1 hs1).mono ?_); rintro e v9 ⟨C, x, rfl, hO, hb9⟩; have x9 : v9.cell? ⟨w.heap.size, 0, none⟩ = some (.slice C0 n0 xx) ∧ v9.cell? ⟨w.heap.size, 1, none⟩ = some (.int .i64 f) ∧ v9.cell? ⟨w.heap.size, 2, none⟩ = some (.int .i64 m) := ⟨kept_cell hb9 x1.1, kept_cell hb9 x1.2.1, kept_cell hb9 x1.2.2⟩; try (have hB9 := hB1.below hb9 hB1.lt; have u0 := hB9.cell (i := 0) rfl; have u1 := hB9.cell (i := 1) rfl; have z0 := hB9.froz 0; have z1 := hB9.froz 1))
            | ((with_reducible refine (AP.out (v1.alloc (.cells #[.slice none 0 0, .int .i64 0] 29)) (hs1.alloc hs1.size (.cells #[.slice none 0 0, .int .i64 0] 29))).mono ?_); rintro e v9 ⟨C, x, rfl, hO, hb9⟩; have x9 : v9.cell? ⟨w.heap.size, 0, none⟩ = some (.slice C0 n0 xx) ∧ v9.cell? ⟨w.heap.size, 1, none⟩ = some (.int .i64 f) ∧ v9.cell? ⟨w.heap.size, 2, none⟩ = some (.int .i64 m) := ⟨kept_cell hb9 (show (v1.alloc (.cells #[.slice none 0 0, .int .i64 0] 29)).cell? ⟨w.heap.size, 0, none⟩ = some (.slice C0 n0 xx) ∧ (v1.alloc (.cells #[.slice none 0 0, .int .i64 0] 29)).cell? ⟨w.heap.size, 1, none⟩ = some (.int .i64 f) ∧ (v1.alloc (.cells #[.slice none 0 0, .int .i64 0] 29)).cell? ⟨w.heap.size, 2, none⟩ = some (.int .i64 m) from ⟨kept_cell ((Below.refl v1.heap.size v1).alloc (Nat.le_refl _) (.cells #[.slice none 0 0, .int .i64 0] 29)) x1.1, kept_cell ((Below.refl v1.heap.size v1).alloc (Nat.le_refl _) (.cells #[.slice none 0 0, .int .i64 0] 29)) x1.2.1, kept_cell ((Below.refl v1.heap.size v1).alloc (Nat.le_refl _) (.cells #[.slice none 0 0, .int .i64 0] 29)) x1.2.2⟩).1, kept_cell hb9 (show (v1.alloc (.cells #[.slice none 0 0, .int .i64 0] 29)).cell? ⟨w.heap.size, 0, none⟩ = some (.slice C0 n0 xx) ∧ (v1.alloc (.cells #[.slice none 0 0, .int .i64 0] 29)).cell? ⟨w.heap.size, 1, none⟩ = some (.int .i64 f) ∧ (v1.alloc (.cells #[.slice none 0 0, .int .i64 0] 29)).cell? ⟨w.heap.size, 2, none⟩ = some (.int .i64 m) from ⟨kept_cell ((Below.refl v1.heap.size v1).alloc (Nat.le_refl _) (.cells #[.slice none 0 0, .int .i64 0] 29)) x1.1, kept_cell ((Below.refl v1.heap.size v1).alloc (Nat.le_refl _) (.cells #[.slice none 0 0, .int .i64 0] 29)) x1.2.1, kept_cell ((Below.refl v1.heap.size v1).alloc (Nat.le_refl _) (.cells #[.slice none 0 0, .int .i64 0] 29)) x1.2.2⟩).2.1, kept_cell hb9 (show (v1.alloc (.cells #[.slice none 0 0, .int .i64 0] 29)).cell? ⟨w.heap.size, 0, none⟩ = some (.slice C0 n0 xx) ∧ (v1.alloc (.cells #[.slice none 0 0, .int .i64 0] 29)).cell? ⟨w.heap.size, 1, none⟩ = some (.int .i64 f) ∧ (v1.alloc (.cells #[.slice none 0 0, .int .i64 0] 29)).cell? ⟨w.heap.size, 2, none⟩ = some (.int .i64 m) from ⟨kept_cell ((Below.refl v1.heap.size v1).alloc (Nat.le_refl _) (.cells #[.slice none 0 0, .int .i64 0] 29)) x1.1, kept_cell ((Below.refl v1.heap.size v1).alloc (Nat.le_refl _) (.cells #[.slice none 0 0, .int .i64 0] 29)) x1.2.1, kept_cell ((Below.refl v1.heap.size v1).alloc (Nat.le_refl _) (.cells #[.slice none 0 0, .int .i64 0] 29)) x1.2.2⟩).2.2⟩; have hB9 := (Blk.fresh v1 29 [.slice none 0 0, .int .i64 0]).below hb9 (by simp); have u0 := hB9.cell (i := 0) rfl; have u1 := hB9.cell (i := 1) rfl; have z0 := hB9.froz 0; have z1 := hB9.froz 1)))
    all_goals
      go_wp2_with (fail)
      go_meet
      case rel => first | exact ap_late hO hb9 hP1 hQ1 hs1 | exact ap_early hO hb9 (hP1.alloc (.cells #[.slice none 0 0, .int .i64 0] 29)) (hQ1.alloc (.cells #[.slice none 0 0, .int .i64 0] 29)) (hs1.alloc hs1.size (.cells #[.slice none 0 0, .int .i64 0] 29)) (Blk.fresh v1 29 [.slice none 0 0, .int .i64 0]) hQ1.lt | exact ap_early hO hb9 hP1 hQ1 hs1 hB1 hBl1
  case rest =>
    obtain ⟨bx, C, x, rfl, hbb, hBx, hO, hP9, hQ9, hb9⟩ := hcut
    clear hP hQ ew
    have y0 := hBx.cell (i := 0) rfl
    have y1 := hBx.cell (i := 1) rfl
    have p0 := hP9.cell (i := 0) rfl
    have p1 := hP9.cell (i := 1) rfl
    have p2 := hP9.cell (i := 2) rfl
    have fp0 := hP9.froz 0
    have hQl := hQ9.lt
    by_cases hcd : cd = 0
    · have dcd : (cd != 0) = false := by simp [hcd]
      obtain ⟨rfl, rfl, rfl, rfl⟩ := hgood hcd
      clear hcd
      have t0 := hQ9.cell (i := 0) rfl; have t1 := hQ9.cell (i := 1) rfl; have t2 := hQ9.cell (i := 2) rfl; have t3 := hQ9.cell (i := 3) rfl; have t4 := hQ9.cell (i := 4) rfl; have ft0 := hQ9.froz 0; have ft1 := hQ9.froz 1; have ft2 := hQ9.froz 2; have ft3 := hQ9.froz 3; have ft4 := hQ9.froz 4; 
      go_wp2
      have r1 := (((((hQ9.far (p := ⟨w.heap.size, 0, none⟩) (by simp) (.slice C M2.length x)).put 0 (.slice C M2.length x)).put 1 (.int .i64 fo)).put 2 (.int .i64 mo)).put 3 (.slice none 0 0)).put 4 (.int .i64 0)
      have r2 := (((((hO.far (p := ⟨w.heap.size, 0, none⟩) (by first | (simp; done) | (simp; omega)) (.slice C M2.length x)).far (p := ⟨w.heap.size + 1, 0, none⟩) (by first | (simp; done) | (simp; omega)) (.slice C M2.length x)).far (p := ⟨w.heap.size + 1, 1, none⟩) (by first | (simp; done) | (simp; omega)) (.int .i64 fo)).far (p := ⟨w.heap.size + 1, 2, none⟩) (by first | (simp; done) | (simp; omega)) (.int .i64 mo)).far (p := ⟨w.heap.size + 1, 3, none⟩) (by first | (simp; done) | (simp; omega)) (.slice none 0 0)).far (p := ⟨w.heap.size + 1, 4, none⟩) (by first | (simp; done) | (simp; omega)) (.int .i64 0)
      have r3 := (((((hb9.setCell (p := ⟨w.heap.size, 0, none⟩) (by simp) (.slice C M2.length x)).setCell (p := ⟨w.heap.size + 1, 0, none⟩) (by simp) (.slice C M2.length x)).setCell (p := ⟨w.heap.size + 1, 1, none⟩) (by simp) (.int .i64 fo)).setCell (p := ⟨w.heap.size + 1, 2, none⟩) (by simp) (.int .i64 mo)).setCell (p := ⟨w.heap.size + 1, 3, none⟩) (by simp) (.slice none 0 0)).setCell (p := ⟨w.heap.size + 1, 4, none⟩) (by simp) (.int .i64 0)
      generalize (((((wc.setCell ⟨w.heap.size, 0, none⟩ (.slice C M2.length x)).setCell ⟨w.heap.size + 1, 0, none⟩ (.slice C M2.length x)).setCell ⟨w.heap.size + 1, 1, none⟩ (.int .i64 fo)).setCell ⟨w.heap.size + 1, 2, none⟩ (.int .i64 mo)).setCell ⟨w.heap.size + 1, 3, none⟩ (.slice none 0 0)).setCell ⟨w.heap.size + 1, 4, none⟩ (.int .i64 0) = w9 at r1 r2 r3 ⊢
      have y0 := r1.cell (i := 0) rfl
      have y1 := r1.cell (i := 1) rfl
      have y2 := r1.cell (i := 2) rfl
      have y3 := r1.cell (i := 3) rfl
      have y4 := r1.cell (i := 4) rfl
      exact bodyPost_ret (v := .agg #[.slice C M2.length x, .int .i64 fo, .int .i64 mo, .slice none 0 0, .int .i64 0]) (by simp [results, Tryz.results108, go_sem, y0, y1, y2, y3, y4]) rfl ⟨C, x, rfl, r2.base (by omega), r3⟩
    · obtain ⟨rfl, rfl, rfl, rfl⟩ := hbad hcd
      have dcd : (co != 0) = true := by simpa using hcd
      clear hcd
      go_wp2_with (fail)
      refine (l05Ill_any co _).mono ?_
      rintro e w6 ⟨rfl, hb6⟩
      have hQ6 := hQ9.below hb6 hQ9.lt
      have hw6 := hb9.trans (hb6.mono hb9.size)
      have t0 := hQ6.cell (i := 0) rfl; have t1 := hQ6.cell (i := 1) rfl; have t2 := hQ6.cell (i := 2) rfl; have t3 := hQ6.cell (i := 3) rfl; have t4 := hQ6.cell (i := 4) rfl; have ft0 := hQ6.froz 0; have ft1 := hQ6.froz 1; have ft2 := hQ6.froz 2; have ft3 := hQ6.froz 3; have ft4 := hQ6.froz 4; 
      clear y0 y1 p0 p1 p2 fp0
      go_wp2
      have r1 := ((((hQ6.put 0 (.slice none 0 0)).put 1 (.int .i64 0)).put 2 (.int .i64 0)).put 3 (.slice none 0 0)).put 4 (.int .i64 co)
      have r3 := ((((hw6.setCell (p := ⟨w.heap.size + 1, 0, none⟩) (by simp) (.slice none 0 0)).setCell (p := ⟨w.heap.size + 1, 1, none⟩) (by simp) (.int .i64 0)).setCell (p := ⟨w.heap.size + 1, 2, none⟩) (by simp) (.int .i64 0)).setCell (p := ⟨w.heap.size + 1, 3, none⟩) (by simp) (.slice none 0 0)).setCell (p := ⟨w.heap.size + 1, 4, none⟩) (by simp) (.int .i64 co)
      generalize ((((w6.setCell ⟨w.heap.size + 1, 0, none⟩ (.slice none 0 0)).setCell ⟨w.heap.size + 1, 1, none⟩ (.int .i64 0)).setCell ⟨w.heap.size + 1, 2, none⟩ (.int .i64 0)).setCell ⟨w.heap.size + 1, 3, none⟩ (.slice none 0 0)).setCell ⟨w.heap.size + 1, 4, none⟩ (.int .i64 co) = w9 at r1 r3 ⊢
      have y0 := r1.cell (i := 0) rfl
      have y1 := r1.cell (i := 1) rfl
      have y2 := r1.cell (i := 2) rfl
      have y3 := r1.cell (i := 3) rfl
      have y4 := r1.cell (i := 4) rfl
      exact bodyPost_ret (v := .agg #[.slice none 0 0, .int .i64 0, .int .i64 0, .slice none 0 0, .int .i64 co]) (by simp [results, Tryz.results108, go_sem, y0, y1, y2, y3, y4]) rfl ⟨none, 0, rfl, ownF_nil _ _, r3⟩
end Go.Proofs.YtebkblmejkkhfaaGreatDoor
