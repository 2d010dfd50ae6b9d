/- spec.SeglogDrop, and: spec and impl answer alike. The walk of the law on SeglogDrop. What a card's condition gives of the table of powers of ten. -/
import Derived.Test.YtebkblmejkkhfaaGreatDoorFilCopyW
import Derived.Deep.RegionHeld3
import Derived.Test.YtebkblmejkkhfaaGreatDoorStrArgW
import Derived.Test.YtebkblmejkkhfaaGreatDoorFSpecW
import Derived.Test.YtebkblmejkkhfaaGreatDoorChgW
import Derived.Test.YtebkblmejkkhfaaGreatDoorScope3W
import Derived.Lib.LaidTab
namespace Go.Proofs.YtebkblmejkkhfaaGreatDoor
open Go.RowKit
set_option linter.unusedVariables false
set_option linter.unusedSimpArgs false
set_option maxRecDepth 1000000

theorem l05Ill_any (co : Int) (w : World) : Calls Tryz.prog 105 #[.int .i64 co] w fun e w' => e = .returned (slOut (.slice none 0 0) 0 0 (.slice none 0 0) co) ∧ Below w.heap.size w w' := by
  go_enter Tryz.func105, Tryz.ntmps105
  go_wp2
  exact bodyPost_ret (v := slOut (.slice none 0 0) 0 0 (.slice none 0 0) co) (by simp [results, Tryz.results105, go_sem]) rfl ⟨rfl, (Below.refl _ _).alloc (Nat.le_refl _) _⟩
/-- What spec.SeglogDrop answers. -/
def DropPost (L : List Fil) (f m b : Int) (w : World) (e : Ending) (w' : World) : Prop := ∃ (C : Option Addr) (x : Nat), e = .returned (slOut (.slice C (dropO L f m b).length x) (dropI L f m b (f + (dropN f m b : Int) * 4)) (dropI L f m b (m - (dropN f m b : Int) * 4)) (.slice none 0 0) (dropC L f m)) ∧ Fw w' w.heap.size w'.heap.size C (dropO L f m b) ∧ Below w.heap.size w w'
/-- How long the slice is that a box holds. -/
def lenAt (w : World) (O : Nat) : Nat := match w.cell? ⟨O, 0, none⟩ with | some (.slice _ n _) => n | _ => 0
theorem lenAt_of {w : World} {O n c : Nat} {A : Option Addr} (h : w.cell? ⟨O, 0, none⟩ = some (.slice A n c)) : lenAt w O = n := by unfold lenAt; rw [h]
theorem fw_five {w : World} {a : Addr} {L : List Fil} {lo : Nat} (h : Fls w w.heap.size (some a) L) (hlo : lo ≤ a.block) (b : Nat) (hb : a.block ≠ b) (v0 v1 v2 v3 v4 : Value) :
    Fw (((((w.setCell ⟨b, 0, none⟩ v0).setCell ⟨b, 1, none⟩ v1).setCell ⟨b, 2, none⟩ v2).setCell ⟨b, 3, none⟩ v3).setCell ⟨b, 4, none⟩ v4) lo (((((w.setCell ⟨b, 0, none⟩ v0).setCell ⟨b, 1, none⟩ v1).setCell ⟨b, 2, none⟩ v2).setCell ⟨b, 3, none⟩ v3).setCell ⟨b, 4, none⟩ v4).heap.size (some a) L := by
  refine ⟨Nat.le_refl _, ⟨h.1, fun i hi => ?_⟩, fun a' e _ => by cases e; exact hlo⟩
  obtain ⟨a', e, hab, c0, c1, c2, hf⟩ := h.2 i hi
  cases e
  have go : ∀ (p : Addr) (v : Value), p.block = a.block → w.cell? p = some v → (((((w.setCell ⟨b, 0, none⟩ v0).setCell ⟨b, 1, none⟩ v1).setCell ⟨b, 2, none⟩ v2).setCell ⟨b, 3, none⟩ v3).setCell ⟨b, 4, none⟩ v4).cell? p = some v := fun p v hp hc => by
    have hpb : p.block ≠ b := by rw [hp]; exact hb
    exact cell_put_far (cell_put_far (cell_put_far (cell_put_far (cell_put_far hc hpb _) hpb _) hpb _) hpb _) hpb _
  exact ⟨a, rfl, by simpa using hab, go _ _ (add_blk _ _) c0, go _ _ (add_blk _ _) c1, go _ _ (add_blk _ _) c2, hf⟩
set_option maxHeartbeats 8000000 in
theorem specDrop_any (A : Option Addr) (L : List Fil) (c : Nat) (f m b : Int) (w : World) (hL : Fls w w.heap.size A L) (hS : Small L) (hfw : (Lit.int .i64 f).wf = true) (hmw : (Lit.int .i64 m).wf = true) (hbw : (Lit.int .i64 b).wf = true) :
    Calls Tryz.prog 56 #[segV (.slice A L.length c) f m, .int .i64 b] w (DropPost L f m b w) := by
  have hn := hS.1
  have b64 := wf_i64 hbw
  have hf : ∀ f ∈ L, f.fits := fun f h => by obtain ⟨i, hi, rfl⟩ := List.getElem_of_mem h; exact (hL.2 i hi).choose_spec.2.2.2.2.2
  have hb0 : Below w.heap.size w ((w.alloc (.cells #[.slice A L.length c, .int .i64 f, .int .i64 m] 61)).alloc (.cells #[.slice none 0 0, .int .i64 0, .int .i64 0, .slice none 0 0, .int .i64 0] 63)) := ((Below.refl _ _).alloc (Nat.le_refl _) _).alloc (by simp) _
  have k0 := (Blk.fresh w 61 [.slice A L.length c, .int .i64 f, .int .i64 m]).alloc (.cells #[.slice none 0 0, .int .i64 0, .int .i64 0, .slice none 0 0, .int .i64 0] 63)
  have k1 := Blk.fresh (w.alloc (.cells #[.slice A L.length c, .int .i64 f, .int .i64 m] 61)) 63 [.slice none 0 0, .int .i64 0, .int .i64 0, .slice none 0 0, .int .i64 0]
  simp only [List.toArray, World.size_alloc] at k0 k1
  have HR := Lib.hid (specSeglogRight_any A L c f m _ ((hL.below hb0 (Nat.le_refl _)).mono hb0.size) hfw hmw)
  clear hfw hmw hbw
  go_enter Tryz.func56, Tryz.ntmps56
  go_wp2_with (fail)
  refine HR.out.mono ?_
  clear HR
  generalize (w.alloc (.cells #[.slice A L.length c, .int .i64 f, .int .i64 m] 61)).alloc (.cells #[.slice none 0 0, .int .i64 0, .int .i64 0, .slice none 0 0, .int .i64 0] 63) = w1 at hb0 k0 k1 ⊢
  rintro e w2 ⟨rfl, hb2⟩
  have q0 := k0.below hb2 k0.lt
  have q1 := k1.below hb2 k1.lt
  have hw2 := hb0.trans (hb2.mono hb0.size)
  clear k0 k1 hb0 hb2
  rcases Bool.eq_false_or_eq_true (logB L f m) with hBB | hBB
  · obtain ⟨g1, g2, g3, g4, g5, g6, g7⟩ := logB_nums hBB
    have R1 := Lib.hid (show dropO L f m b = L.drop (dropN f m b) by unfold dropO; rw [if_pos hBB])
    have R2 : Hid (∀ x, dropI L f m b x = x) := Lib.hid (fun x => by unfold dropI; rw [if_pos hBB])
    have R3 := Lib.hid (show dropC L f m = 0 by unfold dropC; rw [if_pos hBB])
    have HG6 := Lib.hid g6
    have hL1 : 1 ≤ L.length := by omega
    have hqe : dropN f m b + 1 ≤ L.length ∧ (dropN f m b = 0 ∨ f + (dropN f m b : Int) * 4 ≤ b) ∧ (L.length = dropN f m b + 1 ∨ b < f + (dropN f m b : Int) * 4 + 4) := by
      unfold dropN
      split
      · omega
      · omega
    obtain ⟨q, HQ⟩ : ∃ q, Hid (dropN f m b = q) := ⟨_, Lib.hid rfl⟩
    rw [HQ.out] at R1 hqe
    rw [hBB]
    clear hBB g6
    have x0 := q0.drew.cell (i := 0) rfl
    have x1 := q0.drew.cell (i := 1) rfl
    have x2 := q0.drew.cell (i := 2) rfl
    have hCo := Lib.hid (fun W (h : Below w.heap.size w W) => l03Copy_any A L c W ((hL.below h (Nat.le_refl _)).mono h.size) hS)
    have hw2d := below_drew hw2
    go_wp2_with (fail)
    have key : ∀ W W' : World, (W.cell? ⟨w.heap.size, 0, none⟩ = some (.slice A L.length c) ∧ W.cell? ⟨w.heap.size, 1, none⟩ = some (.int .i64 f) ∧ W.cell? ⟨w.heap.size, 2, none⟩ = some (.int .i64 m)) → Below W.heap.size W W' → (W'.cell? ⟨w.heap.size, 0, none⟩ = some (.slice A L.length c) ∧ W'.cell? ⟨w.heap.size, 1, none⟩ = some (.int .i64 f) ∧ W'.cell? ⟨w.heap.size, 2, none⟩ = some (.int .i64 m)) :=
      fun W W' ⟨a, b, c⟩ hb => ⟨kept_cell hb a, kept_cell hb b, kept_cell hb c⟩
    have x3 : w2.drew.cell? ⟨w.heap.size, 0, none⟩ = some (.slice A L.length c) ∧ w2.drew.cell? ⟨w.heap.size, 1, none⟩ = some (.int .i64 f) ∧ w2.drew.cell? ⟨w.heap.size, 2, none⟩ = some (.int .i64 m) := ⟨x0, x1, x2⟩
    have al1 := (Below.refl w2.heap.size w2).alloc (Nat.le_refl _) (.cells #[.slice none 0 0, .int .i64 0, .int .i64 0] 61)
    have al0 : Below w2.drew.heap.size w2.drew (w2.alloc (.cells #[.slice none 0 0, .int .i64 0, .int .i64 0] 61)).drew := ⟨al1.os, al1.tape, al1.output, al1.size, al1.block⟩
    clear al1
    go_region_held3 (fun W => W.cell? ⟨w.heap.size, 0, none⟩ = some (.slice A L.length c) ∧ W.cell? ⟨w.heap.size, 1, none⟩ = some (.int .i64 f) ∧ W.cell? ⟨w.heap.size, 2, none⟩ = some (.int .i64 m))
      (first
        | exact x3
        | exact key _ _ x3 hb3
        | exact key _ _ x3 ((Below.refl _ _).alloc (Nat.le_refl _) _)
        | exact key _ _ (key _ _ x3 hb3) ((Below.refl _ _).alloc (Nat.le_refl _) _)
        | exact key _ _ x3 al0
        | exact x4
        | exact ⟨cell_put_far (cell_put_far (cell_put_far x4.1 hne9 _) hne9 _) hne9 _, cell_put_far (cell_put_far (cell_put_far x4.2.1 hne9 _) hne9 _) hne9 _, cell_put_far (cell_put_far (cell_put_far x4.2.2 hne9 _) hne9 _) hne9 _⟩)
      (first
        | (go_at_call 103; (with_reducible refine (hCo.out _ hw2d).mono ?_); rintro e w3 ⟨C, x, rfl, hO, hb3⟩)
        | (go_at_call 103; refine (hCo.out _ (below_drew (hw2.alloc hw2.size (.cells #[.slice none 0 0, .int .i64 0, .int .i64 0] 61)))).mono ?_; rintro e w3 ⟨C, x, rfl, hO, hb3⟩; have hB := (Blk.fresh w2 61 [.slice none 0 0, .int .i64 0, .int .i64 0]).drew.below hb3 (by simp); have x4 := key _ _ (key _ _ x3 al0) hb3; have hne9 : w.heap.size ≠ w2.heap.size := Nat.ne_of_lt q0.lt; have u0 := hB.cell (i := 0) rfl; have u1 := hB.cell (i := 1) rfl; have u2 := hB.cell (i := 2) rfl; have v0 := hB.froz 0; have v1 := hB.froz 1; have v2 := hB.froz 2))
    focus
      have hB4 := Blk.fresh w3 61 [.slice C L.length x, .int .i64 f, .int .i64 m]
      have h32 := hb3.size
      have hq1 := q1.lt
      have hF4 := OwnF.base (base' := w.heap.size + 2) (OwnF.below (w' := w3.alloc (.cells #[.slice C L.length x, .int .i64 f, .int .i64 m] 61)) hO ((Below.refl _ _).alloc (Nat.le_refl _) _) (Nat.le_refl _)) (by simp; omega)
      have hQ4 := (q1.drew.below hb3 q1.drew.lt).alloc (.cells #[.slice C L.length x, .int .i64 f, .int .i64 m] 61)
      have hw4 := (hw2d.trans (hb3.mono hw2d.size)).alloc (hw2d.trans (hb3.mono hw2d.size)).size (.cells #[.slice C L.length x, .int .i64 f, .int .i64 m] 61)
      have hO1 : w.heap.size + 1 < w3.heap.size := by simp at h32; omega
      simp only [List.toArray] at hB4
      generalize w3.alloc (.cells #[.slice C L.length x, .int .i64 f, .int .i64 m] 61) = w4 at hB4 hF4 hQ4 hw4 ⊢
      generalize w3.heap.size = O at hB4 hO1 ⊢
      clear hO hb3 x0 x1 x2 x3 al0 key hCo hw2d q0 q1 hw2 h32 hq1
    rotate_left
    focus
      have h32 := hb3.size
      have hq1 := q1.lt
      have hO1 : w.heap.size + 1 < w2.heap.size := hq1
      have hcb : (Value.slice C L.length x).ownBlock ≠ some w2.heap.size := fun e => by have := (hO.1.lt _ e).1; simp at this; omega
      have hB4 : Blk _ w2.heap.size 61 [.slice C L.length x, .int .i64 f, .int .i64 m] := ((hB.put 0 (.slice C L.length x)).put 1 (.int .i64 f)).put 2 (.int .i64 m)
      have hF4 := OwnF.base (base' := w.heap.size + 2) (((hO.off (p := ⟨w2.heap.size, 0, none⟩) hcb (.slice C L.length x)).off (p := ⟨w2.heap.size, 1, none⟩) hcb (.int .i64 f)).off (p := ⟨w2.heap.size, 2, none⟩) hcb (.int .i64 m)) (by simp; omega)
      have hQ3 : Blk w3 (w.heap.size + 1) 63 [.slice none 0 0, .int .i64 0, .int .i64 0, .slice none 0 0, .int .i64 0] := (q1.alloc (.cells #[.slice none 0 0, .int .i64 0, .int .i64 0] 61)).drew.below hb3 (by simp; omega)
      have hQ4 := ((hQ3.far (p := ⟨w2.heap.size, 0, none⟩) (by simp; omega) (.slice C L.length x)).far (p := ⟨w2.heap.size, 1, none⟩) (by simp; omega) (.int .i64 f)).far (p := ⟨w2.heap.size, 2, none⟩) (by simp; omega) (.int .i64 m)
      have hw3 := (hw2d.trans (al0.mono hw2d.size)).trans (hb3.mono (hw2d.trans (al0.mono hw2d.size)).size)
      have hw4 := ((hw3.setCell (p := ⟨w2.heap.size, 0, none⟩) (by simp; omega) (.slice C L.length x)).setCell (p := ⟨w2.heap.size, 1, none⟩) (by simp; omega) (.int .i64 f)).setCell (p := ⟨w2.heap.size, 2, none⟩) (by simp; omega) (.int .i64 m)
      generalize ((w3.setCell ⟨w2.heap.size, 0, none⟩ (.slice C L.length x)).setCell ⟨w2.heap.size, 1, none⟩ (.int .i64 f)).setCell ⟨w2.heap.size, 2, none⟩ (.int .i64 m) = w4 at hB4 hF4 hQ4 hw4 ⊢
      generalize w2.heap.size = O at hB4 hO1 ⊢
      clear hO hb3 h32
    all_goals
      obtain ⟨g, cp, hCv, hgj, hgl⟩ := hF4.1.form (by omega)
      cases hCv
      have hcap : L.length ≤ x ∧ x ≤ maxLen := by
        rcases hF4.1.2 with ⟨hv, _⟩ | ⟨_, _, _, hv, _, _, h5, h6, _⟩
        · cases hv
        · cases hv; exact ⟨h5, h6⟩
      have hxm := hcap.2
      unfold maxLen at hxm
      have o0 := hB4.cell (i := 0) rfl
      have hgO : g ≠ O := fun e => by
        subst e
        rcases hF4.1.2 with ⟨hv, _⟩ | ⟨g', _, _, hv, _, h5, _⟩
        · cases hv
        · cases hv
          rw [hB4.heap] at h5
          injection h5 with h5
          injection h5 with _ ht _
          exact absurd ht (by decide)
      go_wp2
      go_loopw [18] (fun _ wr => ∃ (k r cp : Nat) (ad : Addr) (F N : Int), k ≤ q ∧ Hid (r + k = L.length) ∧ Hid (cp + k = x) ∧ Hid (ad = (⟨g, 0, none⟩ : Addr).add (k * 3)) ∧ Hid (F = f + (k : Int) * 4) ∧ Hid (N = m - (k : Int) * 4) ∧ Blk wr O 61 [.slice (some ad) r cp, .int .i64 F, .int .i64 N] ∧ Blk wr (w.heap.size + 1) 63 [.slice none 0 0, .int .i64 0, .int .i64 0, .slice none 0 0, .int .i64 0] ∧ OwnF wr (w.heap.size + 2) (.slice (some ⟨g, 0, none⟩) L.length x) L ∧ Below w.heap.size w wr) (fun _ wr => lenAt wr O)
      case atStart => exact ⟨0, L.length, x, ⟨g, 0, none⟩, f, m, by omega, Lib.hid (by omega), Lib.hid (by omega), Lib.hid (by simp [Addr.add]), Lib.hid (by simp), Lib.hid (by simp), hB4, hQ4, hF4, hw4⟩
      case round =>
        obtain ⟨k, r, cp, ad, F, N, hk, HR, HC, HA, HF, HN, hB, hQ, hFr, hb⟩ := hrel
        have hr : r + k = L.length := HR.out
        have hcpk : cp + k = x := HC.out
        have hFk : F = f + (k : Int) * 4 := HF.out
        have hNk : N = m - (k : Int) * 4 := HN.out
        have hr1 : r ≤ cp := by omega
        have hF1 : 0 ≤ F ∧ F ≤ 1000000 := by omega
        have hN1 : -1000 ≤ N ∧ N ≤ 60 := by omega
        have hcp9 : cp ≤ 9223372036854775807 := by omega
        have hr9 : 1 ≤ r := by omega
        have b0 := hB.cell (i := 0) rfl
        have b1 := hB.cell (i := 1) rfl
        have b2 := hB.cell (i := 2) rfl
        have f0 := hB.froz 0
        have f1 := hB.froz 1
        have f2 := hB.froz 2
        by_cases hlt : k < q
        · have h1 : 1 < r := by omega
          have h2 : F + 4 ≤ b := by omega
          have hc1 : ¬ cp = 1 := by omega
          have hlen0 := lenAt_of b0
          have HL0 := Lib.hid hlen0
          clear hr hcpk hFk hNk hlen0
          go_wp2
          have r1 : Blk _ O 61 [.slice (some (ad.add 3)) (r - 1) (cp - 1), .int .i64 (F + 4), .int .i64 (N - 4)] := ((hB.put 0 (.slice (some (ad.add 3)) (r - 1) (cp - 1))).put 1 (.int .i64 (F + 4))).put 2 (.int .i64 (N - 4))
          have hlen1 := lenAt_of (r1.cell (i := 0) rfl)
          have hoff : (Value.slice (some ⟨g, 0, none⟩) L.length x).ownBlock ≠ some O := by simpa [Value.ownBlock] using hgO
          have e1 := HR.out
          have e2 := HC.out
          have e4 := HF.out
          have e5 := HN.out
          exact ⟨⟨k + 1, r - 1, cp - 1, ad.add 3, F + 4, N - 4, by omega, Lib.hid (by omega), Lib.hid (by omega), Lib.hid (by rw [HA.out, ofNat_add]; congr 1; omega), Lib.hid (by omega), Lib.hid (by omega), r1, ((hQ.far (p := ⟨O, 0, none⟩) (by simp; omega) _).far (p := ⟨O, 1, none⟩) (by simp; omega) _).far (p := ⟨O, 2, none⟩) (by simp; omega) _, ((hFr.off (p := ⟨O, 0, none⟩) hoff _).off (p := ⟨O, 1, none⟩) hoff _).off (p := ⟨O, 2, none⟩) hoff _, ((hb.setCell (p := ⟨O, 0, none⟩) (by simp; omega) _).setCell (p := ⟨O, 1, none⟩) (by simp; omega) _).setCell (p := ⟨O, 2, none⟩) (by simp; omega) _⟩, Nat.lt_of_le_of_lt (Nat.le_of_eq hlen1) (by rw [HL0.out]; omega)⟩
        · obtain rfl : k = q := by omega
          have hDl : (L.drop k).length = r := by simp; omega
          have hfd := Fls.drop (OwnF.fls hFr) k (by omega)
          rw [← HA.out] at hfd
          have HDL := Lib.hid hDl
          have hadb : w.heap.size ≤ ad.block := by rw [HA.out, add_blk]; have := hgj; simp; omega
          have hbq : ad.block ≠ w.heap.size + 1 := by rw [HA.out, add_blk]; have := hgj; simp; omega
          have hend : ¬ 1 < r ∨ ¬ F + 4 ≤ b := by omega
          clear hr hcpk hFk hNk hDl
          have t0 := hQ.cell (i := 0) rfl; have t1 := hQ.cell (i := 1) rfl; have t2 := hQ.cell (i := 2) rfl; have t3 := hQ.cell (i := 3) rfl; have t4 := hQ.cell (i := 4) rfl; have ft0 := hQ.froz 0; have ft1 := hQ.froz 1; have ft2 := hQ.froz 2; have ft3 := hQ.froz 3; have ft4 := hQ.froz 4; 
          by_cases h1 : 1 < r
          · have h2 : ¬ F + 4 ≤ b := by omega
            clear hend
            go_wp2
            have r1 := ((((hQ.put 0 (.slice (some ad) r cp)).put 1 (.int .i64 F)).put 2 (.int .i64 N)).put 3 (.slice none 0 0)).put 4 (.int .i64 0)
            have r3 := ((((hb.setCell (p := ⟨w.heap.size + 1, 0, none⟩) (by simp) (.slice (some ad) r cp)).setCell (p := ⟨w.heap.size + 1, 1, none⟩) (by simp) (.int .i64 F)).setCell (p := ⟨w.heap.size + 1, 2, none⟩) (by simp) (.int .i64 N)).setCell (p := ⟨w.heap.size + 1, 3, none⟩) (by simp) (.slice none 0 0)).setCell (p := ⟨w.heap.size + 1, 4, none⟩) (by simp) (.int .i64 0)
            have hfw : Fw _ w.heap.size _ (some ad) (L.drop k) := fw_five hfd hadb (w.heap.size + 1) hbq (.slice (some ad) r cp) (.int .i64 F) (.int .i64 N) (.slice none 0 0) (.int .i64 0)
            generalize ((((wr.setCell ⟨w.heap.size + 1, 0, none⟩ (.slice (some ad) r cp)).setCell ⟨w.heap.size + 1, 1, none⟩ (.int .i64 F)).setCell ⟨w.heap.size + 1, 2, none⟩ (.int .i64 N)).setCell ⟨w.heap.size + 1, 3, none⟩ (.slice none 0 0)).setCell ⟨w.heap.size + 1, 4, none⟩ (.int .i64 0) = w9 at r1 r3 hfw ⊢
            have y0 := r1.cell (i := 0) rfl
            have y1 := r1.cell (i := 1) rfl
            have y2 := r1.cell (i := 2) rfl
            have y3 := r1.cell (i := 3) rfl
            have y4 := r1.cell (i := 4) rfl
            exact bodyPost_ret (v := .agg #[.slice (some ad) r cp, .int .i64 F, .int .i64 N, .slice none 0 0, .int .i64 0]) (by simp [results, Tryz.results56, go_sem, y0, y1, y2, y3, y4]) rfl ⟨some ad, cp, by rw [R1.out, R2.out, R2.out, R3.out, HQ.out, HDL.out, HF.out, HN.out], by rw [R1.out]; exact hfw, r3⟩
          · clear hend
            go_wp2
            have r1 := ((((hQ.put 0 (.slice (some ad) r cp)).put 1 (.int .i64 F)).put 2 (.int .i64 N)).put 3 (.slice none 0 0)).put 4 (.int .i64 0)
            have r3 := ((((hb.setCell (p := ⟨w.heap.size + 1, 0, none⟩) (by simp) (.slice (some ad) r cp)).setCell (p := ⟨w.heap.size + 1, 1, none⟩) (by simp) (.int .i64 F)).setCell (p := ⟨w.heap.size + 1, 2, none⟩) (by simp) (.int .i64 N)).setCell (p := ⟨w.heap.size + 1, 3, none⟩) (by simp) (.slice none 0 0)).setCell (p := ⟨w.heap.size + 1, 4, none⟩) (by simp) (.int .i64 0)
            have hfw : Fw _ w.heap.size _ (some ad) (L.drop k) := fw_five hfd hadb (w.heap.size + 1) hbq (.slice (some ad) r cp) (.int .i64 F) (.int .i64 N) (.slice none 0 0) (.int .i64 0)
            generalize ((((wr.setCell ⟨w.heap.size + 1, 0, none⟩ (.slice (some ad) r cp)).setCell ⟨w.heap.size + 1, 1, none⟩ (.int .i64 F)).setCell ⟨w.heap.size + 1, 2, none⟩ (.int .i64 N)).setCell ⟨w.heap.size + 1, 3, none⟩ (.slice none 0 0)).setCell ⟨w.heap.size + 1, 4, none⟩ (.int .i64 0) = w9 at r1 r3 hfw ⊢
            have y0 := r1.cell (i := 0) rfl
            have y1 := r1.cell (i := 1) rfl
            have y2 := r1.cell (i := 2) rfl
            have y3 := r1.cell (i := 3) rfl
            have y4 := r1.cell (i := 4) rfl
            exact bodyPost_ret (v := .agg #[.slice (some ad) r cp, .int .i64 F, .int .i64 N, .slice none 0 0, .int .i64 0]) (by simp [results, Tryz.results56, go_sem, y0, y1, y2, y3, y4]) rfl ⟨some ad, cp, by rw [R1.out, R2.out, R2.out, R3.out, HQ.out, HDL.out, HF.out, HN.out], by rw [R1.out]; exact hfw, r3⟩

  · have R1 := Lib.hid (show dropO L f m b = [] by unfold dropO; rw [if_neg (by simp [hBB])])
    have R2 : Hid (∀ x, dropI L f m b x = 0) := Lib.hid (fun x => by unfold dropI; rw [if_neg (by simp [hBB])])
    have R3 := Lib.hid (show dropC L f m = 1 by unfold dropC; rw [if_neg (by simp [hBB])])
    rw [hBB]
    clear hBB
    go_wp2_with (fail)
    refine (l05Ill_any 1 _).mono ?_
    rintro e w3 ⟨rfl, hb3⟩
    have p1 := q1.below hb3 q1.lt
    have hw3 := hw2.trans (hb3.mono hw2.size)
    have t0 := p1.cell (i := 0) rfl; have t1 := p1.cell (i := 1) rfl; have t2 := p1.cell (i := 2) rfl; have t3 := p1.cell (i := 3) rfl; have t4 := p1.cell (i := 4) rfl; have ft0 := p1.froz 0; have ft1 := p1.froz 1; have ft2 := p1.froz 2; have ft3 := p1.froz 3; have ft4 := p1.froz 4; 
    go_wp2
    have r1 := ((((p1.put 0 (.slice none 0 0)).put 1 (.int .i64 0)).put 2 (.int .i64 0)).put 3 (.slice none 0 0)).put 4 (.int .i64 1)
    have r3 := ((((hw3.setCell (p := ⟨w.heap.size + 1, 0, none⟩) (by simp) (.slice none 0 0)).setCell (p := ⟨w.heap.size + 1, 1, none⟩) (by simp) (.int .i64 0)).setCell (p := ⟨w.heap.size + 1, 2, none⟩) (by simp) (.int .i64 0)).setCell (p := ⟨w.heap.size + 1, 3, none⟩) (by simp) (.slice none 0 0)).setCell (p := ⟨w.heap.size + 1, 4, none⟩) (by simp) (.int .i64 1)
    generalize ((((w3.setCell ⟨w.heap.size + 1, 0, none⟩ (.slice none 0 0)).setCell ⟨w.heap.size + 1, 1, none⟩ (.int .i64 0)).setCell ⟨w.heap.size + 1, 2, none⟩ (.int .i64 0)).setCell ⟨w.heap.size + 1, 3, none⟩ (.slice none 0 0)).setCell ⟨w.heap.size + 1, 4, none⟩ (.int .i64 1) = w9 at r1 r3 ⊢
    have y0 := r1.cell (i := 0) rfl
    have y1 := r1.cell (i := 1) rfl
    have y2 := r1.cell (i := 2) rfl
    have y3 := r1.cell (i := 3) rfl
    have y4 := r1.cell (i := 4) rfl
    exact bodyPost_ret (v := .agg #[.slice none 0 0, .int .i64 0, .int .i64 0, .slice none 0 0, .int .i64 1]) (by simp [results, Tryz.results56, go_sem, y0, y1, y2, y3, y4]) rfl ⟨none, 0, by rw [R1.out, R2.out, R2.out, R3.out]; rfl, by rw [R1.out]; exact Fw.ofOwn (ownF_nil _ _), r3⟩
theorem bothSeglogDrop (L : List Fil) (f m b : Int) (hf : ∀ f ∈ L, f.fits) (hS : Small L) (hfw : (Lit.int .i64 f).wf = true) (hmw : (Lit.int .i64 m).wf = true) (hbw : (Lit.int .i64 b).wf = true) :
    ∃ (M : List Fil) (fo mo : Int) (N : List ByteArray) (co : Int), (∀ f ∈ M, f.fits) ∧ M.length ≤ 1048576 ∧ N.length ≤ 60 ∧ (∀ (A : Option Addr) (c : Nat) (W : World), Fls W W.heap.size A L → L.length ≤ c → c ≤ maxLen → Calls Tryz.prog 56 #[.agg #[.slice A L.length c, .int .i64 f, .int .i64 m], .int .i64 b] W fun e w' => ∃ (B : Option Addr) (d : Nat) (S : Option Addr) (y : Nat), e = .returned (.agg #[.slice B M.length d, .int .i64 fo, .int .i64 mo, .slice S N.length y, .int .i64 co]) ∧ Fw w' W.heap.size w'.heap.size B M ∧ OwnS w' W.heap.size (.slice S N.length y) N ∧ Below W.heap.size W w') ∧
      (∀ (A : Option Addr) (c : Nat) (W : World), Fls W W.heap.size A L → L.length ≤ c → c ≤ maxLen → Pow W → Handle W → Seg W → Calls Tryz.prog 57 #[.agg #[.slice A L.length c, .int .i64 f, .int .i64 m], .int .i64 b] W fun e w' => ∃ (B : Option Addr) (d : Nat) (S : Option Addr) (y : Nat), e = .returned (.agg #[.slice B M.length d, .int .i64 fo, .int .i64 mo, .slice S N.length y, .int .i64 co]) ∧ OwnF w' W.heap.size (.slice B M.length d) M ∧ OwnS w' W.heap.size (.slice S N.length y) N ∧ Below W.heap.size W w') := by
  have hlen : (dropO L f m b).length ≤ L.length := by unfold dropO; split <;> simp
  have hfits : ∀ g ∈ dropO L f m b, g.fits := fun g h => by
    unfold dropO at h
    split at h
    · exact hf g (List.mem_of_mem_drop h)
    · cases h
  have hn := hS.1
  refine ⟨dropO L f m b, dropI L f m b (f + (dropN f m b : Int) * 4), dropI L f m b (m - (dropN f m b : Int) * 4), [], dropC L f m, hfits, by omega, by simp, fun A c W h _ _ => ?_, fun A c W h hc hcm hP hH hSg => ?_⟩
  · exact (specDrop_any A L c f m b W h hS hfw hmw hbw).mono fun e w' ⟨C, x, he, h1, h2⟩ => ⟨C, x, none, 0, he, h1, World.ownsRow_nil _ _ _ _, h2⟩
  · exact (implDrop_any A L c f m b W h hS hc hcm hfw hmw hbw hP hH hSg).mono fun e w' ⟨C, x, he, h1, h2⟩ => ⟨C, x, none, 0, he, h1, World.ownsRow_nil _ _ _ _, h2⟩
end Go.Proofs.YtebkblmejkkhfaaGreatDoor

namespace Go.Proofs.YtebkblmejkkhfaaGreatDoor
open Go.RowKit
set_option linter.unusedVariables false

set_option maxHeartbeats 8000000 in
set_option maxRecDepth 1000000 in
theorem lawSeglogDrop (A : Option Addr) (L : List Fil) (c : Nat) (f m : Int) (bb : Int) (w : World) (hL : Fls w w.heap.size A L) (hfw : (Lit.int .i64 f).wf = true) (hmw : (Lit.int .i64 m).wf = true) (hbb : (Lit.int .i64 bb).wf = true) (hPow : Pow w) (hHandle : Handle w) (hSeg : Seg w) :
    Calls Tryz.prog 8 #[.agg #[.slice A L.length c, .int .i64 f, .int .i64 m], .int .i64 bb] w fun e w' => e = .returned (.bool true) ∧ Below w.heap.size w w' := by
  have HL : Hid (∀ W, Below w.heap.size w W → Fls W W.heap.size A L) := Lib.hid fun W h => (hL.below h (Nat.le_refl _)).mono h.size
  have HPow : Hid (∀ W, Below w.heap.size w W → Pow W) := Lib.hid fun W h => hPow.below h
  have HHandle : Hid (∀ W, Below w.heap.size w W → Handle W) := Lib.hid fun W h => Handle.below hHandle h
  have HSeg : Hid (∀ W, Below w.heap.size w W → Seg W) := Lib.hid fun W h => hSeg.below h
  have hf : ∀ f ∈ L, f.fits := fun f h => by obtain ⟨i, hi, rfl⟩ := List.getElem_of_mem h; exact (hL.2 i hi).choose_spec.2.2.2.2.2
  have hB0 := Blk.fresh w 58 [.slice A L.length c, .int .i64 f, .int .i64 m]
  have hb0 : Below w.heap.size w (w.alloc (.cells #[.slice A L.length c, .int .i64 f, .int .i64 m] 58)) := (Below.refl _ _).alloc (Nat.le_refl _) _
  have hz0 : (w.alloc (.cells #[.slice A L.length c, .int .i64 f, .int .i64 m] 58)).heap.size = w.heap.size + 1 := by simp
  simp only [List.toArray] at hB0
  go_enter Tryz.func8, Tryz.ntmps8
  have q0 := hB0.cell (i := 0) rfl
  have q1 := hB0.cell (i := 1) rfl
  have q2 := hB0.cell (i := 2) rfl
  go_wp2_with (fail)
  clear q0 q1 q2
  generalize w.alloc (.cells #[.slice A L.length c, .int .i64 f, .int .i64 m] 58) = v0 at hB0 hb0 hz0 ⊢
  refine (szSeglog_any A L c f m _ (HL.out _ hb0)).mono ?_
  rintro e v1 ⟨r, rfl, r0, r1, hS, hb1⟩
  have hz1 := hb1.size
  have hB1 := hB0.below hb1 (by omega)
  have hw1 := hb0.trans (hb1.mono (by omega))
  clear hB0
  by_cases hr : r < 0
  · go_wp2
    go_ret
    exact ⟨rfl, hw1⟩
  · have hS' := hS (by omega)
    have hn := hS'.1
    obtain ⟨M, fo, mo, N, co, hM, hMl, hNl, hsp, him⟩ := bothSeglogDrop L f m bb hf hS' hfw hmw hbb
    have Sp := Lib.hid hsp
    have Im := Lib.hid him
    clear hsp him
    obtain ⟨m1, Hm1⟩ : ∃ m, Hid (1 + 3 * L.length = m) := ⟨_, Lib.hid rfl⟩
    obtain ⟨m3, Hm3⟩ : ∃ m, Hid (1 + 3 * M.length + N.length = m) := ⟨_, Lib.hid rfl⟩
    have hm1 : 1 ≤ m1 ∧ m1 ≤ 3145729 := by have := Hm1.out; omega
    have hm3 : 1 ≤ m3 ∧ m3 ≤ 7000000 := by have := Hm3.out; omega
    have chB0 := hB1.cell (i := 0) rfl
    have chB1 := hB1.cell (i := 1) rfl
    have chB2 := hB1.cell (i := 2) rfl
    go_wp2_with (fail)
    refine (toSeglog_any A L c f m _ (HL.out _ hw1) hS').mono ?_
    rintro e v2 ⟨g2, d2, rfl, hF2, hb2⟩
    have hz2 := hb2.size
    have hB2 := hB1.below hb2 hB1.lt
    have hw2 := hw1.trans (hb2.mono hw1.size)
    clear hB1
    clear chB0 chB1 chB2
    have T2 := hF2.rw
    clear hF2
    go_wp2_with (fail)
    refine (Sp.out _ _ _ (T2.fls hf) (Rw.capL T2).1 (Rw.capL T2).2).mono ?_
    rintro e v3 ⟨A3, d3, B3, b3, rfl, hO3, hT3, hb3⟩
    have hz3 := hb3.size
    have hB3 := hB2.below hb3 hB2.lt
    have T3 := T2.below hb3
    have hw3 := hw2.trans (hb3.mono hw2.size)
    clear hB2 T2
    clear T3
    have RF3 := hO3
    clear hO3
    have RS3 := Rw.of hT3
    clear hT3
    have hS_4 := Blk.fresh v3 63 [.slice A3 M.length d3, .int .i64 fo, .int .i64 mo, .slice B3 N.length b3, .int .i64 co]
    simp only [List.toArray] at hS_4
    have hb4 : Below v3.heap.size v3 (v3.alloc (.cells #[.slice A3 M.length d3, .int .i64 fo, .int .i64 mo, .slice B3 N.length b3, .int .i64 co] 63)) := (Below.refl _ _).alloc (Nat.le_refl _) _
    have hs4 : (v3.alloc (.cells #[.slice A3 M.length d3, .int .i64 fo, .int .i64 mo, .slice B3 N.length b3, .int .i64 co] 63)).heap.size = v3.heap.size + 1 := by simp
    have qhB0 := (hB3.below hb4 hB3.lt).cell (i := 0) rfl
    have qhB1 := (hB3.below hb4 hB3.lt).cell (i := 1) rfl
    have qhB2 := (hB3.below hb4 hB3.lt).cell (i := 2) rfl
    have qq0 := hS_4.cell (i := 0) rfl
    have qq1 := hS_4.cell (i := 1) rfl
    have qq2 := hS_4.cell (i := 2) rfl
    have qq3 := hS_4.cell (i := 3) rfl
    have qq4 := hS_4.cell (i := 4) rfl
    go_wp2_with (fail)
    clear qhB0 qhB1 qhB2 qq0 qq1 qq2 qq3 qq4
    generalize v3.alloc (.cells #[.slice A3 M.length d3, .int .i64 fo, .int .i64 mo, .slice B3 N.length b3, .int .i64 co] 63) = v4 at hS_4 hb4 hs4 ⊢
    have hz4 := hb4.size
    have hB4 := hB3.below hb4 hB3.lt
    have RF4 := RF3.below hb4
    have RS4 := RS3.below hb4
    have hw4 := hw3.trans (hb4.mono hw3.size)
    clear hB3 RF3 RS3
    have chB0 := hB4.cell (i := 0) rfl
    have chB1 := hB4.cell (i := 1) rfl
    have chB2 := hB4.cell (i := 2) rfl
    go_wp2_with (fail)
    refine (toSeglog_any A L c f m _ (HL.out _ hw4) hS').mono ?_
    rintro e v5 ⟨g5, d5, rfl, hF5, hb5⟩
    have hz5 := hb5.size
    have hB5 := hB4.below hb5 hB4.lt
    have hS_5 := hS_4.below hb5 hS_4.lt
    have RF5 := RF4.below hb5
    have RS5 := RS4.below hb5
    have hw5 := hw4.trans (hb5.mono hw4.size)
    clear hB4 hS_4 RF4 RS4
    clear chB0 chB1 chB2
    have X5 := hF5.rw
    clear hF5
    have hP6 := Blk.fresh v5 61 [.slice (some ⟨g5, 0, none⟩) L.length d5, .int .i64 f, .int .i64 m]
    simp only [List.toArray] at hP6
    have hb6 : Below v5.heap.size v5 (v5.alloc (.cells #[.slice (some ⟨g5, 0, none⟩) L.length d5, .int .i64 f, .int .i64 m] 61)) := (Below.refl _ _).alloc (Nat.le_refl _) _
    have hs6 : (v5.alloc (.cells #[.slice (some ⟨g5, 0, none⟩) L.length d5, .int .i64 f, .int .i64 m] 61)).heap.size = v5.heap.size + 1 := by simp
    have qq0 := hP6.cell (i := 0) rfl
    have qq1 := hP6.cell (i := 1) rfl
    have qq2 := hP6.cell (i := 2) rfl
    go_wp2_with (fail)
    clear qq0 qq1 qq2
    generalize v5.alloc (.cells #[.slice (some ⟨g5, 0, none⟩) L.length d5, .int .i64 f, .int .i64 m] 61) = v6 at hP6 hb6 hs6 ⊢
    have hz6 := hb6.size
    have hB6 := hB5.below hb6 hB5.lt
    have hS_6 := hS_5.below hb6 hS_5.lt
    have RF6 := RF5.below hb6
    have RS6 := RS5.below hb6
    have X6 := X5.below hb6
    have hw6 := hw5.trans (hb6.mono hw5.size)
    clear hB5 hS_5 RF5 RS5 X5
    have chP0 := hP6.cell (i := 0) rfl
    have chP1 := hP6.cell (i := 1) rfl
    have chP2 := hP6.cell (i := 2) rfl
    go_wp2_with (fail)
    refine (Im.out _ _ _ (X6.fls hf) (Rw.capL X6).1 (Rw.capL X6).2 (HPow.out _ hw6) (HHandle.out _ hw6) (HSeg.out _ hw6)).mono ?_
    rintro e v7 ⟨A7, d7, B7, b7, rfl, hO7, hT7, hb7⟩
    have hz7 := hb7.size
    have hB7 := hB6.below hb7 hB6.lt
    have hS_7 := hS_6.below hb7 hS_6.lt
    have hP7 := hP6.below hb7 hP6.lt
    have RF7 := RF6.below hb7
    have RS7 := RS6.below hb7
    have X7 := X6.below hb7
    have hw7 := hw6.trans (hb7.mono hw6.size)
    clear hB6 hS_6 hP6 RF6 RS6 X6
    clear chP0 chP1 chP2
    have GF7 := hO7.rw
    clear hO7
    have GS7 := Rw.of hT7
    clear hT7
    have hQ8 := Blk.fresh v7 63 [.slice A7 M.length d7, .int .i64 fo, .int .i64 mo, .slice B7 N.length b7, .int .i64 co]
    simp only [List.toArray] at hQ8
    have hb8 : Below v7.heap.size v7 (v7.alloc (.cells #[.slice A7 M.length d7, .int .i64 fo, .int .i64 mo, .slice B7 N.length b7, .int .i64 co] 63)) := (Below.refl _ _).alloc (Nat.le_refl _) _
    have hs8 : (v7.alloc (.cells #[.slice A7 M.length d7, .int .i64 fo, .int .i64 mo, .slice B7 N.length b7, .int .i64 co] 63)).heap.size = v7.heap.size + 1 := by simp
    have qhS_0 := (hS_7.below hb8 hS_7.lt).cell (i := 0) rfl
    have qhS_1 := (hS_7.below hb8 hS_7.lt).cell (i := 1) rfl
    have qhS_2 := (hS_7.below hb8 hS_7.lt).cell (i := 2) rfl
    have qhS_3 := (hS_7.below hb8 hS_7.lt).cell (i := 3) rfl
    have qhS_4 := (hS_7.below hb8 hS_7.lt).cell (i := 4) rfl
    have qq0 := hQ8.cell (i := 0) rfl
    have qq1 := hQ8.cell (i := 1) rfl
    have qq2 := hQ8.cell (i := 2) rfl
    have qq3 := hQ8.cell (i := 3) rfl
    have qq4 := hQ8.cell (i := 4) rfl
    go_wp2_with (fail)
    clear qhS_0 qhS_1 qhS_2 qhS_3 qhS_4 qq0 qq1 qq2 qq3 qq4
    generalize v7.alloc (.cells #[.slice A7 M.length d7, .int .i64 fo, .int .i64 mo, .slice B7 N.length b7, .int .i64 co] 63) = v8 at hQ8 hb8 hs8 ⊢
    have hz8 := hb8.size
    have hB8 := hB7.below hb8 hB7.lt
    have hS_8 := hS_7.below hb8 hS_7.lt
    have hP8 := hP7.below hb8 hP7.lt
    have RF8 := RF7.below hb8
    have RS8 := RS7.below hb8
    have X8 := X7.below hb8
    have GF8 := GF7.below hb8
    have GS8 := GS7.below hb8
    have hw8 := hw7.trans (hb8.mono hw7.size)
    clear hB7 hS_7 hP7 RF7 RS7 X7 GF7 GS7
    have chQ0 := hQ8.cell (i := 0) rfl
    have chQ1 := hQ8.cell (i := 1) rfl
    have chQ2 := hQ8.cell (i := 2) rfl
    have chQ3 := hQ8.cell (i := 3) rfl
    have chQ4 := hQ8.cell (i := 4) rfl
    have chS_0 := hS_8.cell (i := 0) rfl
    have chS_1 := hS_8.cell (i := 1) rfl
    have chS_2 := hS_8.cell (i := 2) rfl
    have chS_3 := hS_8.cell (i := 3) rfl
    have chS_4 := hS_8.cell (i := 4) rfl
    go_wp2_with (fail)
    refine (eqSeglogOut_same _ _ M _ _ fo mo _ _ N _ _ co _ (GF8.fls hM) (RF8.fls hM) (GS8.strs) (RS8.strs)).mono ?_
    rintro e v9 ⟨rfl, hb9⟩
    have hz9 := hb9.size
    have hB9 := hB8.below hb9 hB8.lt
    have hS_9 := hS_8.below hb9 hS_8.lt
    have hP9 := hP8.below hb9 hP8.lt
    have hQ9 := hQ8.below hb9 hQ8.lt
    have RF9 := RF8.below hb9
    have RS9 := RS8.below hb9
    have X9 := X8.below hb9
    have GF9 := GF8.below hb9
    have GS9 := GS8.below hb9
    have hw9 := hw8.trans (hb9.mono hw8.size)
    clear hB8 hS_8 hP8 hQ8 RF8 RS8 X8 GF8 GS8
    clear chQ0 chQ1 chQ2 chQ3 chQ4 chS_0 chS_1 chS_2 chS_3 chS_4
    have chB0 := hB9.cell (i := 0) rfl
    have chB1 := hB9.cell (i := 1) rfl
    have chB2 := hB9.cell (i := 2) rfl
    have chP0 := hP9.cell (i := 0) rfl
    have chP1 := hP9.cell (i := 1) rfl
    have chP2 := hP9.cell (i := 2) rfl
    go_wp2_with (fail)
    have z0 : v9.drew.cell? ⟨w.heap.size, 0, none⟩ = some (.slice A L.length c) := chB0
    have z1 : v9.drew.cell? ⟨w.heap.size, 1, none⟩ = some (.int .i64 f) := chB1
    have z2 : v9.drew.cell? ⟨w.heap.size, 2, none⟩ = some (.int .i64 m) := chB2
    have z3 : v9.drew.cell? ⟨v5.heap.size, 0, none⟩ = some (.slice (some ⟨g5, 0, none⟩) L.length d5) := chP0
    have z4 : v9.drew.cell? ⟨v5.heap.size, 1, none⟩ = some (.int .i64 f) := chP1
    have z5 : v9.drew.cell? ⟨v5.heap.size, 2, none⟩ = some (.int .i64 m) := chP2
    have Xd : Rw v9.drew v4.heap.size v5.heap.size 53 3 (.slice (some ⟨g5, 0, none⟩) L.length d5) L.length (flat L) := X9
    go_region_held3 (fun W => W.cell? ⟨w.heap.size, 0, none⟩ = some (.slice A L.length c) ∧ W.cell? ⟨w.heap.size, 1, none⟩ = some (.int .i64 f) ∧ W.cell? ⟨w.heap.size, 2, none⟩ = some (.int .i64 m) ∧ W.cell? ⟨v5.heap.size, 0, none⟩ = some (.slice (some ⟨g5, 0, none⟩) L.length d5) ∧ W.cell? ⟨v5.heap.size, 1, none⟩ = some (.int .i64 f) ∧ W.cell? ⟨v5.heap.size, 2, none⟩ = some (.int .i64 m))
      (first
        | exact ⟨z0, z1, z2, z3, z4, z5⟩
        | exact ⟨kept_cell hb10 z0, kept_cell hb10 z1, kept_cell hb10 z2, kept_cell hb10 z3, kept_cell hb10 z4, kept_cell hb10 z5⟩
        | exact ⟨kept_cell hb11 (kept_cell hb10 z0), kept_cell hb11 (kept_cell hb10 z1), kept_cell hb11 (kept_cell hb10 z2), kept_cell hb11 (kept_cell hb10 z3), kept_cell hb11 (kept_cell hb10 z4), kept_cell hb11 (kept_cell hb10 z5)⟩)
      (first
        | (go_at_call 41; refine (toSeglog_any A L c f m _ (HL.out _ (below_drew hw9)) hS').mono ?_; rintro e v10 ⟨g10, d10, rfl, hF10, hb10⟩)
        | (go_at_call 44; refine (eqSeglog_same _ _ L _ _ f m _ ((Xd.below hb10).fls hf) (OwnF.fls hF10)).mono ?_; rintro e v11 ⟨rfl, hb11⟩))
    have hbz : Below v9.heap.size v9 v11 := (below_drew (Below.refl _ v9)).trans ((hb10.trans (hb11.mono hb10.size)).mono (Nat.le_refl _))
    clear chB0 chB1 chB2 chP0 chP1 chP2
    clear z0 z1 z2 z3 z4 z5 Xd hF10
    have hz11 := hbz.size
    have hB11 := hB9.below hbz hB9.lt
    have hS_11 := hS_9.below hbz hS_9.lt
    have hP11 := hP9.below hbz hP9.lt
    have hQ11 := hQ9.below hbz hQ9.lt
    have RF11 := RF9.below hbz
    have RS11 := RS9.below hbz
    have X11 := X9.below hbz
    have GF11 := GF9.below hbz
    have GS11 := GS9.below hbz
    have hw11 := hw9.trans (hbz.mono hw9.size)
    clear hB9 hS_9 hP9 hQ9 RF9 RS9 X9 GF9 GS9
    have chP0 := hP11.cell (i := 0) rfl
    have chP1 := hP11.cell (i := 1) rfl
    have chP2 := hP11.cell (i := 2) rfl
    have MX := markSeglog_rw _ L _ _ _ 1 f m _ X11 hf (by omega) (by omega)
    have xr := X11.atA
    rw [Hm1.out] at MX
    clear X11
    go_wp2_with (fail)
    refine MX.mono ?_
    rintro e v12 ⟨rfl, hX, hg, hf9⟩
    have hc12 := Chg.of hg xr
    clear hg hX hf9 xr MX
    have hz12 := hc12.size
    have hB12 := hB11.offC hc12 (by omega)
    have hS_12 := hS_11.offC hc12 (by omega)
    have hP12 := hP11.offC hc12 (by omega)
    have hQ12 := hQ11.offC hc12 (by omega)
    have RF12 := RF11.farC hc12 (by omega)
    have RS12 := RS11.farC hc12 (by omega)
    have GF12 := GF11.farC hc12 (by omega)
    have GS12 := GS11.farC hc12 (by omega)
    have hw12 := below_offC hw11 hc12 (by omega) (Nat.le_refl _)
    clear hB11 hS_11 hP11 hQ11 RF11 RS11 GF11 GS11
    clear chP0 chP1 chP2
    have hlast : ¬ ((m1 : Int) < 0) := by omega
    have chQ0 := hQ12.cell (i := 0) rfl
    have chQ1 := hQ12.cell (i := 1) rfl
    have chQ2 := hQ12.cell (i := 2) rfl
    have chQ3 := hQ12.cell (i := 3) rfl
    have chQ4 := hQ12.cell (i := 4) rfl
    have chS_0 := hS_12.cell (i := 0) rfl
    have chS_1 := hS_12.cell (i := 1) rfl
    have chS_2 := hS_12.cell (i := 2) rfl
    have chS_3 := hS_12.cell (i := 3) rfl
    have chS_4 := hS_12.cell (i := 4) rfl
    go_wp2_with (fail)
    refine (eqSeglogOut_same _ _ M _ _ fo mo _ _ N _ _ co _ (GF12.fls hM) (RF12.fls hM) (GS12.strs) (RS12.strs)).mono ?_
    rintro e v13 ⟨rfl, hb13⟩
    have hz13 := hb13.size
    have hB13 := hB12.below hb13 hB12.lt
    have hS_13 := hS_12.below hb13 hS_12.lt
    have hP13 := hP12.below hb13 hP12.lt
    have hQ13 := hQ12.below hb13 hQ12.lt
    have RF13 := RF12.below hb13
    have RS13 := RS12.below hb13
    have GF13 := GF12.below hb13
    have GS13 := GS12.below hb13
    have hw13 := hw12.trans (hb13.mono hw12.size)
    clear hB12 hS_12 hP12 hQ12 RF12 RS12 GF12 GS12
    clear chQ0 chQ1 chQ2 chQ3 chQ4 chS_0 chS_1 chS_2 chS_3 chS_4
    clear hlast
    have chQ0 := hQ13.cell (i := 0) rfl
    have chQ1 := hQ13.cell (i := 1) rfl
    have chQ2 := hQ13.cell (i := 2) rfl
    have chQ3 := hQ13.cell (i := 3) rfl
    have chQ4 := hQ13.cell (i := 4) rfl
    have MG := markSeglogOut_rw _ M _ _ N _ _ _ 1 fo mo co _ GF13 GS13 hM (by omega) (by omega)
    rw [Hm3.out] at MG
    clear GF13
    clear GS13
    go_wp2_with (fail)
    refine MG.mono ?_
    rintro e v14 ⟨rfl, GF14, GS14, hc14, hf9⟩
    clear MG
    have hz14 := hc14.size
    have hB14 := hB13.offC hc14 (by omega)
    have hS_14 := hS_13.offC hc14 (by omega)
    have hP14 := hP13.offC hc14 (by omega)
    have hQ14 := hQ13.offC hc14 (by omega)
    have RF14 := RF13.farC hc14 (by omega)
    have RS14 := RS13.farC hc14 (by omega)
    have hw14 := below_offC hw13 hc14 (by omega) (Nat.le_refl _)
    clear hB13 hS_13 hP13 hQ13 RF13 RS13
    clear chQ0 chQ1 chQ2 chQ3 chQ4
    have hlast : ¬ ((m3 : Int) < 0) := by omega
    have chQ0 := hQ14.cell (i := 0) rfl
    have chQ1 := hQ14.cell (i := 1) rfl
    have chQ2 := hQ14.cell (i := 2) rfl
    have chQ3 := hQ14.cell (i := 3) rfl
    have chQ4 := hQ14.cell (i := 4) rfl
    have HD := heldSeglogOut_any _ M.length d7 _ N.length b7 1 fo mo co _ (GF14.fls hf9) (GS14.strs) (by omega) (by omega)
    rw [Hm3.out] at HD
    go_wp2_with (fail)
    refine (HD).mono ?_
    rintro e v15 ⟨rfl, hb15⟩
    have hz15 := hb15.size
    have hB15 := hB14.below hb15 hB14.lt
    have hS_15 := hS_14.below hb15 hS_14.lt
    have hP15 := hP14.below hb15 hP14.lt
    have hQ15 := hQ14.below hb15 hQ14.lt
    have RF15 := RF14.below hb15
    have RS15 := RS14.below hb15
    have GF15 := GF14.below hb15
    have GS15 := GS14.below hb15
    have hw15 := hw14.trans (hb15.mono hw14.size)
    clear hB14 hS_14 hP14 hQ14 RF14 RS14 GF14 GS14
    clear chQ0 chQ1 chQ2 chQ3 chQ4
    clear HD
    have chB0 := hB15.cell (i := 0) rfl
    have chB1 := hB15.cell (i := 1) rfl
    have chB2 := hB15.cell (i := 2) rfl
    go_wp2_with (fail)
    refine (toSeglog_any A L c f m _ (HL.out _ hw15) hS').mono ?_
    rintro e v16 ⟨g16, d16, rfl, hF16, hb16⟩
    have hz16 := hb16.size
    have hB16 := hB15.below hb16 hB15.lt
    have hS_16 := hS_15.below hb16 hS_15.lt
    have hP16 := hP15.below hb16 hP15.lt
    have hQ16 := hQ15.below hb16 hQ15.lt
    have RF16 := RF15.below hb16
    have RS16 := RS15.below hb16
    have GF16 := GF15.below hb16
    have GS16 := GS15.below hb16
    have hw16 := hw15.trans (hb16.mono hw15.size)
    clear hB15 hS_15 hP15 hQ15 RF15 RS15 GF15 GS15
    clear chB0 chB1 chB2
    have X16 := hF16.rw
    clear hF16
    go_wp2_with (fail)
    refine (Im.out _ _ _ (X16.fls hf) (Rw.capL X16).1 (Rw.capL X16).2 (HPow.out _ hw16) (HHandle.out _ hw16) (HSeg.out _ hw16)).mono ?_
    rintro e v17 ⟨A17, d17, B17, b17, rfl, hO17, hT17, hb17⟩
    have hz17 := hb17.size
    have hB17 := hB16.below hb17 hB16.lt
    have hS_17 := hS_16.below hb17 hS_16.lt
    have hP17 := hP16.below hb17 hP16.lt
    have hQ17 := hQ16.below hb17 hQ16.lt
    have RF17 := RF16.below hb17
    have RS17 := RS16.below hb17
    have GF17 := GF16.below hb17
    have GS17 := GS16.below hb17
    have X17 := X16.below hb17
    have hw17 := hw16.trans (hb17.mono hw16.size)
    clear hB16 hS_16 hP16 hQ16 RF16 RS16 GF16 GS16 X16
    clear X17
    have YF17 := hO17.rw
    clear hO17
    have YS17 := Rw.of hT17
    clear hT17
    have hV18 := Blk.fresh v17 63 [.slice A17 M.length d17, .int .i64 fo, .int .i64 mo, .slice B17 N.length b17, .int .i64 co]
    simp only [List.toArray] at hV18
    have hb18 : Below v17.heap.size v17 (v17.alloc (.cells #[.slice A17 M.length d17, .int .i64 fo, .int .i64 mo, .slice B17 N.length b17, .int .i64 co] 63)) := (Below.refl _ _).alloc (Nat.le_refl _) _
    have hs18 : (v17.alloc (.cells #[.slice A17 M.length d17, .int .i64 fo, .int .i64 mo, .slice B17 N.length b17, .int .i64 co] 63)).heap.size = v17.heap.size + 1 := by simp
    have qhS_0 := (hS_17.below hb18 hS_17.lt).cell (i := 0) rfl
    have qhS_1 := (hS_17.below hb18 hS_17.lt).cell (i := 1) rfl
    have qhS_2 := (hS_17.below hb18 hS_17.lt).cell (i := 2) rfl
    have qhS_3 := (hS_17.below hb18 hS_17.lt).cell (i := 3) rfl
    have qhS_4 := (hS_17.below hb18 hS_17.lt).cell (i := 4) rfl
    have qq0 := hV18.cell (i := 0) rfl
    have qq1 := hV18.cell (i := 1) rfl
    have qq2 := hV18.cell (i := 2) rfl
    have qq3 := hV18.cell (i := 3) rfl
    have qq4 := hV18.cell (i := 4) rfl
    go_wp2_with (fail)
    clear qhS_0 qhS_1 qhS_2 qhS_3 qhS_4 qq0 qq1 qq2 qq3 qq4
    generalize v17.alloc (.cells #[.slice A17 M.length d17, .int .i64 fo, .int .i64 mo, .slice B17 N.length b17, .int .i64 co] 63) = v18 at hV18 hb18 hs18 ⊢
    have hz18 := hb18.size
    have hB18 := hB17.below hb18 hB17.lt
    have hS_18 := hS_17.below hb18 hS_17.lt
    have hP18 := hP17.below hb18 hP17.lt
    have hQ18 := hQ17.below hb18 hQ17.lt
    have RF18 := RF17.below hb18
    have RS18 := RS17.below hb18
    have GF18 := GF17.below hb18
    have GS18 := GS17.below hb18
    have YF18 := YF17.below hb18
    have YS18 := YS17.below hb18
    have hw18 := hw17.trans (hb18.mono hw17.size)
    clear hB17 hS_17 hP17 hQ17 RF17 RS17 GF17 GS17 YF17 YS17
    have chV0 := hV18.cell (i := 0) rfl
    have chV1 := hV18.cell (i := 1) rfl
    have chV2 := hV18.cell (i := 2) rfl
    have chV3 := hV18.cell (i := 3) rfl
    have chV4 := hV18.cell (i := 4) rfl
    have chS_0 := hS_18.cell (i := 0) rfl
    have chS_1 := hS_18.cell (i := 1) rfl
    have chS_2 := hS_18.cell (i := 2) rfl
    have chS_3 := hS_18.cell (i := 3) rfl
    have chS_4 := hS_18.cell (i := 4) rfl
    go_wp2_with (fail)
    refine (eqSeglogOut_same _ _ M _ _ fo mo _ _ N _ _ co _ (YF18.fls hM) (RF18.fls hM) (YS18.strs) (RS18.strs)).mono ?_
    rintro e v19 ⟨rfl, hb19⟩
    have hz19 := hb19.size
    have hB19 := hB18.below hb19 hB18.lt
    have hS_19 := hS_18.below hb19 hS_18.lt
    have hP19 := hP18.below hb19 hP18.lt
    have hQ19 := hQ18.below hb19 hQ18.lt
    have hV19 := hV18.below hb19 hV18.lt
    have RF19 := RF18.below hb19
    have RS19 := RS18.below hb19
    have GF19 := GF18.below hb19
    have GS19 := GS18.below hb19
    have YF19 := YF18.below hb19
    have YS19 := YS18.below hb19
    have hw19 := hw18.trans (hb19.mono hw18.size)
    clear hB18 hS_18 hP18 hQ18 hV18 RF18 RS18 GF18 GS18 YF18 YS18
    clear chV0 chV1 chV2 chV3 chV4 chS_0 chS_1 chS_2 chS_3 chS_4
    have chQ0 := hQ19.cell (i := 0) rfl
    have chQ1 := hQ19.cell (i := 1) rfl
    have chQ2 := hQ19.cell (i := 2) rfl
    have chQ3 := hQ19.cell (i := 3) rfl
    have chQ4 := hQ19.cell (i := 4) rfl
    have HD := heldSeglogOut_any _ M.length d7 _ N.length b7 1 fo mo co _ (GF19.fls hf9) (GS19.strs) (by omega) (by omega)
    rw [Hm3.out] at HD
    go_wp2_with (fail)
    refine (HD).mono ?_
    rintro e v20 ⟨rfl, hb20⟩
    have hz20 := hb20.size
    have hB20 := hB19.below hb20 hB19.lt
    have hS_20 := hS_19.below hb20 hS_19.lt
    have hP20 := hP19.below hb20 hP19.lt
    have hQ20 := hQ19.below hb20 hQ19.lt
    have hV20 := hV19.below hb20 hV19.lt
    have RF20 := RF19.below hb20
    have RS20 := RS19.below hb20
    have GF20 := GF19.below hb20
    have GS20 := GS19.below hb20
    have YF20 := YF19.below hb20
    have YS20 := YS19.below hb20
    have hw20 := hw19.trans (hb20.mono hw19.size)
    clear hB19 hS_19 hP19 hQ19 hV19 RF19 RS19 GF19 GS19 YF19 YS19
    clear chQ0 chQ1 chQ2 chQ3 chQ4
    clear HD
    go_wp2
    go_ret
    exact ⟨rfl, hw20⟩
end Go.Proofs.YtebkblmejkkhfaaGreatDoor

namespace Go.Proofs.YtebkblmejkkhfaaGreatDoor
open Go.RowKit Go.ChangeShapes Go.WideShapes Go.ChangeAt
set_option linter.unusedVariables false
theorem pow_of_head {W : World} {rest : List (String × DataW Unit)} (h : laidMet Tryz.prog (("internal/strconv.uint64pow10", Lib.tabData .u64 Lib.pow10Tab) :: rest) W) : Pow W :=
  Lib.tabIs_of_head (k := .u64) (zs := Lib.pow10Tab) (n := Lib.pow10Tab.length) gPow (t := 213) (e := 141) (by kernel_rfl) Tryz.underlying213 Tryz.underlying141 (by kernel_rfl) (by kernel_rfl) h
end Go.Proofs.YtebkblmejkkhfaaGreatDoor
