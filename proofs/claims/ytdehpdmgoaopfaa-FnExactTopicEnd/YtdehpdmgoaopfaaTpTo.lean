/- The copy that the exact laws make of a topic, and their comparison of two. -/
import Derived.Test.YtdehpdmgoaopfaaTpSz
import Derived.Test.YtdehpdmgoaopfaaKept
namespace Go.Proofs.Ytdehpdmgoaopfaa
open Go.RowKit
set_option linter.unusedVariables false
set_option maxRecDepth 1000000

theorem toGroup_any (f : Grp) (w : World) : Calls Try.prog 106 #[f.val] w fun e w' => e = .returned f.val ∧ Below w.heap.size w w' := by
  obtain ⟨s0, k⟩ := f
  unfold Grp.val
  simp only
  go_enter Try.func106, Try.ntmps106
  go_wp2
  refine bodyPost_ret (v := .agg #[.string s0, .int .i64 k]) (by simp [results, Try.results106, go_sem]) rfl ⟨rfl, ?_⟩
  exact (((Below.refl _ _).alloc (Nat.le_refl _) _).alloc (by simp) _).alloc (by simp; omega) _

set_option maxHeartbeats 1000000 in
theorem toGroupS_any (A : Option Addr) (L : List Grp) (c : Nat) (w : World) (hL : Grs w w.heap.size A L) (hn : L.length ≤ 1048576) :
    Calls Try.prog 84 #[.slice A L.length c] w fun e w' => ∃ g c', e = .returned (.slice (some ⟨g, 0, none⟩) L.length c') ∧ OwnG w' w.heap.size (.slice (some ⟨g, 0, none⟩) L.length c') L ∧ Below w.heap.size w w' := by
  obtain ⟨i0, hi, hz0, hz1, hz2⟩ := info_parts infoGrp
  have hn1 : (L.length : Int) ≤ 1048576 := by omega
  go_enter Try.func84, Try.ntmps84
  go_wp2_with (at_make; refine wpList_make_full _ rfl _ _ 24 rfl w.heap.size 47 i0 (.agg #[.string ⟨#[]⟩, .int .i64 0]) 2 Try.underlying24 hi hz0 hz1 _ _ _ _ L.length rfl rfl rfl rfl (by rw [hz2]; omega) (by unfold maxLen; omega) (Nat.le_refl _) ?_; intro w1 hrow hg1)
  have hrow' : w1.ownsRow w.heap.size 47 2 (.slice (some ⟨w.heap.size, 0, none⟩) L.length L.length) L.length (gflat (List.replicate L.length zeroGrp)) := by
    rw [← gflat_made]; exact hrow
  clear hrow
  have hb0 : Below w.heap.size w w1 := ⟨hg1.os, hg1.tape, hg1.output, hg1.size, fun k hk => hg1.block k hk (by simp)⟩
  go_loopw [4] (fun i wr => ∃ k : Nat, k ≤ L.length ∧ i = .int .i64 k ∧ wr.ownsRow w.heap.size 47 2 (.slice (some ⟨w.heap.size, 0, none⟩) L.length L.length) L.length (gflat (L.take k ++ List.replicate (L.length - k) zeroGrp)) ∧ Below w.heap.size w wr) (fun i _ => L.length - (intOf i).toNat)
  case atStart => exact ⟨0, by omega, rfl, by simpa using hrow', hb0⟩
  case round =>
    obtain ⟨k, hk, rfl, hr, hb⟩ := hrel
    by_cases hlt : k < L.length
    · obtain ⟨a, rfl, hab, c0, c1⟩ := (hL.below hb (Nat.le_refl _)).at k hlt
      go_wp2_with (go_at_call 106; refine (toGroup_any L[k] wr).mono ?_; rintro e w2 ⟨rfl, hb2⟩; unfold Grp.val; have hr2 := row_below hr hb2 (Nat.le_refl _); obtain ⟨d0, d1, f0, f1⟩ := row_grp hr2 (k := k) (by simp; omega))
      have hp := row_gput hr2 k L[k]
      rw [take_put L zeroGrp hlt] at hp
      refine ⟨⟨k + 1, by omega, by go_num, hp, ?_⟩, by simp [intOf]; omega⟩
      exact ((hb.trans (hb2.mono hb.size)).setCell (Nat.le_refl _) _).setCell (Nat.le_refl _) _
    · obtain rfl : k = L.length := by omega
      go_wp2
      go_ret
      rw [List.take_of_length_le (Nat.le_refl _), Nat.sub_self, List.replicate_zero, List.append_nil] at hr
      exact ⟨_, _, rfl, hr, hb⟩

theorem eqGroup_same (f : Grp) (w : World) : Calls Try.prog 107 #[f.val, f.val] w fun e w' => e = .returned (.bool true) ∧ Below w.heap.size w w' := by
  obtain ⟨s0, k⟩ := f
  unfold Grp.val
  simp only
  go_enter Try.func107, Try.ntmps107
  go_wp2
  go_ret
  exact ⟨rfl, ((Below.refl _ _).alloc (Nat.le_refl _) _).alloc (by simp) _⟩
set_option maxHeartbeats 1000000 in
theorem eqGroupS_same (A B : Option Addr) (L : List Grp) (c d : Nat) (w : World) (hA : Grs w w.heap.size A L) (hB : Grs w w.heap.size B L) :
    Calls Try.prog 86 #[.slice A L.length c, .slice B L.length d] w fun e w' => e = .returned (.bool true) ∧ Below w.heap.size w w' := by
  have hn := hA.1
  unfold maxLen at hn
  go_enter Try.func86, Try.ntmps86
  go_wp2
  go_loopw [5] (fun i wr => ∃ k : Nat, k ≤ L.length ∧ i = .int .i64 k ∧ Below w.heap.size w wr) (fun i _ => L.length - (intOf i).toNat)
  case atStart => exact ⟨0, by omega, rfl, Below.refl _ _⟩
  case round =>
    obtain ⟨k, hk, rfl, hb⟩ := hrel
    by_cases hlt : k < L.length
    · obtain ⟨a, rfl, hab, a0, a1⟩ := (hA.below hb (Nat.le_refl _)).at k hlt
      obtain ⟨b, rfl, hbb, b0, b1⟩ := (hB.below hb (Nat.le_refl _)).at k hlt
      obtain ⟨I, f, hI, g0, gk, gc, ge⟩ := class_grown wr
      have x0 := fun s => kept_cell (gk s) a0
      have x1 := fun s => kept_cell (gk s) a1
      have y0 := fun s => kept_cell (gk s) b0
      have y1 := fun s => kept_cell (gk s) b1
      have EQ := eqGroup_same L[k]
      unfold Grp.val at EQ
      have hlt' : (k : Int) < (L.length : Int) := by omega
      clear a0 a1 b0 b1
      go_wp2
      refine wp_region_kept f (by kernel_rfl) (by kernel_rfl) g0 ?_
      repeat (first
        | go_big_quiet_skip
        | (go_big_quiet_want; go_big_quiet_op; first | go_big_quiet_on | (apply Exists.intro; refine ⟨fun s => ?_, ?_⟩; (go_at_call 107; refine (EQ _).mono ?_; rintro e w4 ⟨rfl, hb4⟩; exact ⟨rfl, gc _ _ hb4⟩); go_big_quiet_on)))
      refine wpQuiet_nil ?_
      intro w5 h5
      have hb5 := ge _ h5
      go_wp2
      exact ⟨⟨k + 1, by omega, by go_num, hb.trans (hb5.mono hb.size)⟩, by simp [intOf]; omega⟩
    · obtain rfl : k = L.length := by omega
      go_wp2
      go_ret
      exact ⟨rfl, hb⟩
set_option maxHeartbeats 2000000 in
theorem eqTopic_same (nm : ByteArray) (bs : Int) (A B C D : Option Addr) (H : List ByteArray) (G : List Grp) (a b c d : Nat) (w : World) (hA : Strs w w.heap.size A H) (hC : Strs w w.heap.size C H) (hB : Grs w w.heap.size B G) (hD : Grs w w.heap.size D G) :
    Calls Try.prog 43 #[topV nm bs (.slice A H.length a) (.slice B G.length b), topV nm bs (.slice C H.length c) (.slice D G.length d)] w fun e w' => e = .returned (.bool true) ∧ Below w.heap.size w w' := by
  have h0 := (Blk.fresh w 26 [.string nm, .int .i64 bs, .slice A H.length a, .slice B G.length b]).alloc (.cells #[.string nm, .int .i64 bs, .slice C H.length c, .slice D G.length d] 26)
  have h1 := Blk.fresh (w.alloc (.cells #[.string nm, .int .i64 bs, .slice A H.length a, .slice B G.length b] 26)) 26 [.string nm, .int .i64 bs, .slice C H.length c, .slice D G.length d]
  have hb0 : Below w.heap.size w ((w.alloc (.cells #[.string nm, .int .i64 bs, .slice A H.length a, .slice B G.length b] 26)).alloc (.cells #[.string nm, .int .i64 bs, .slice C H.length c, .slice D G.length d] 26)) := ((Below.refl _ w).alloc (Nat.le_refl _) _).alloc (by simp) _
  simp only [List.toArray, World.size_alloc] at h0 h1
  have HE := Lib.hid (fun W (h : Below w.heap.size w W) => eqStringS_same A C H a c W (hA.on h) (hC.on h))
  have HG := Lib.hid (fun W (h : Below w.heap.size w W) => eqGroupS_same B D G b d W (hB.on h) (hD.on h))
  go_enter Try.func43, Try.ntmps43
  go_wp2_with (fail)
  refine (HE.out _ hb0).mono ?_
  rintro e w1 ⟨rfl, hb1⟩
  have g0 := h0.below hb1 h0.lt
  have g1 := h1.below hb1 h1.lt
  have hw1 := hb0.trans (hb1.mono hb0.size)
  clear h0 h1 hb0 hb1
  have k3 := g0.cell (i := 3) rfl
  have l3 := g1.cell (i := 3) rfl
  go_wp2_with (fail)
  refine (HG.out _ hw1).mono ?_
  rintro e w2 ⟨rfl, hb2⟩
  clear k3 l3
  go_wp2
  go_ret
  exact ⟨rfl, hw1.trans (hb2.mono hw1.size)⟩
set_option maxHeartbeats 2000000 in
theorem toTopic_any (t : Tpc) (A : Option Addr) (c : Nat) (B : Option Addr) (d : Nat) (w : World) (hs : t.small) (hA : Strs w w.heap.size A t.held) (hB : Grs w w.heap.size B t.groups) :
    Calls Try.prog 42 #[topV t.name t.base (.slice A t.held.length c) (.slice B t.groups.length d)] w fun e w' => ∃ g c' h d', e = .returned (topV t.name t.base (.slice (some ⟨g, 0, none⟩) t.held.length c') (.slice (some ⟨h, 0, none⟩) t.groups.length d')) ∧
      Rw w' w.heap.size w'.heap.size 9 1 (.slice (some ⟨g, 0, none⟩) t.held.length c') t.held.length (t.held.map Value.string) ∧ Rw w' w.heap.size w'.heap.size 47 2 (.slice (some ⟨h, 0, none⟩) t.groups.length d') t.groups.length (gflat t.groups) ∧ g < h ∧ Below w.heap.size w w' := by
  obtain ⟨nm, bs, H, G⟩ := t
  obtain ⟨s0, s1, s2⟩ := hs
  simp only at s0 s1 s2 hA hB ⊢
  have hb0 : Below w.heap.size w (((w.alloc (.cells #[.string nm, .int .i64 bs, .slice A H.length c, .slice B G.length d] 51)).alloc (.cells #[.string ⟨#[]⟩, .int .i64 0, .slice none 0 0, .slice none 0 0] 26)).alloc (.cells #[.string nm, .int .i64 bs, .slice none 0 0, .slice none 0 0] 26)) := (((Below.refl _ _).alloc (Nat.le_refl _) _).alloc (by simp) _).alloc (by simp; omega) _
  have k0 := ((Blk.fresh w 51 [.string nm, .int .i64 bs, .slice A H.length c, .slice B G.length d]).alloc (.cells #[.string ⟨#[]⟩, .int .i64 0, .slice none 0 0, .slice none 0 0] 26)).alloc (.cells #[.string nm, .int .i64 bs, .slice none 0 0, .slice none 0 0] 26)
  have k1 := (Blk.fresh (w.alloc (.cells #[.string nm, .int .i64 bs, .slice A H.length c, .slice B G.length d] 51)) 26 [.string ⟨#[]⟩, .int .i64 0, .slice none 0 0, .slice none 0 0]).alloc (.cells #[.string nm, .int .i64 bs, .slice none 0 0, .slice none 0 0] 26)
  have k2 := Blk.fresh ((w.alloc (.cells #[.string nm, .int .i64 bs, .slice A H.length c, .slice B G.length d] 51)).alloc (.cells #[.string ⟨#[]⟩, .int .i64 0, .slice none 0 0, .slice none 0 0] 26)) 26 [.string nm, .int .i64 bs, .slice none 0 0, .slice none 0 0]
  simp only [World.size_alloc] at k0 k1 k2
  replace k0 : Blk (((w.alloc (.cells #[.string nm, .int .i64 bs, .slice A H.length c, .slice B G.length d] 51)).alloc (.cells #[.string ⟨#[]⟩, .int .i64 0, .slice none 0 0, .slice none 0 0] 26)).alloc (.cells #[.string nm, .int .i64 bs, .slice none 0 0, .slice none 0 0] 26)) w.heap.size 51 [.string nm, .int .i64 bs, .slice A H.length c, .slice B G.length d] := k0
  replace k1 : Blk (((w.alloc (.cells #[.string nm, .int .i64 bs, .slice A H.length c, .slice B G.length d] 51)).alloc (.cells #[.string ⟨#[]⟩, .int .i64 0, .slice none 0 0, .slice none 0 0] 26)).alloc (.cells #[.string nm, .int .i64 bs, .slice none 0 0, .slice none 0 0] 26)) (w.heap.size + 1) 26 [.string ⟨#[]⟩, .int .i64 0, .slice none 0 0, .slice none 0 0] := k1
  replace k2 : Blk (((w.alloc (.cells #[.string nm, .int .i64 bs, .slice A H.length c, .slice B G.length d] 51)).alloc (.cells #[.string ⟨#[]⟩, .int .i64 0, .slice none 0 0, .slice none 0 0] 26)).alloc (.cells #[.string nm, .int .i64 bs, .slice none 0 0, .slice none 0 0] 26)) (w.heap.size + 1 + 1) 26 [.string nm, .int .i64 bs, .slice none 0 0, .slice none 0 0] := k2
  go_enter Try.func42, Try.ntmps42
  go_wp2_with (fail)
  generalize ((w.alloc (.cells #[.string nm, .int .i64 bs, .slice A H.length c, .slice B G.length d] 51)).alloc (.cells #[.string ⟨#[]⟩, .int .i64 0, .slice none 0 0, .slice none 0 0] 26)).alloc (.cells #[.string nm, .int .i64 bs, .slice none 0 0, .slice none 0 0] 26) = v0 at hb0 k0 k1 k2 ⊢
  refine (toStringS_any A H c v0 (hA.on hb0) s1.1).mono ?_
  rintro e w1 ⟨g, c', rfl, hr1, hb1⟩
  have hg1 : v0.heap.size ≤ g ∧ g < w1.heap.size := hr1.at g rfl
  have z0 := k2.lt
  have hw1 := hb0.trans (hb1.mono hb0.size)
  replace k0 := k0.below hb1 k0.lt
  replace k1 := k1.below hb1 k1.lt
  replace k2 := k2.below hb1 k2.lt
  have c0 := k2.cell (i := 2) rfl
  have f0 := k2.froz 2
  have d0 := k0.cell (i := 3) rfl
  have q2 := k2.put 2 (.slice (some ⟨g, 0, none⟩) H.length c')
  have q1 := k1.far (p := ⟨w.heap.size + 1 + 1, 2, none⟩) (by simp) (.slice (some ⟨g, 0, none⟩) H.length c')
  have q0 := k0.far (p := ⟨w.heap.size + 1 + 1, 2, none⟩) (by simp; omega) (.slice (some ⟨g, 0, none⟩) H.length c')
  have hbq := hw1.setCell (p := ⟨w.heap.size + 1 + 1, 2, none⟩) (by simp; omega) (.slice (some ⟨g, 0, none⟩) H.length c')
  have hrq : (w1.setCell ⟨w.heap.size + 1 + 1, 2, none⟩ (.slice (some ⟨g, 0, none⟩) H.length c')).ownsRow v0.heap.size 9 1 (.slice (some ⟨g, 0, none⟩) H.length c') H.length (H.map Value.string) := row_far hr1.1 (by simp; omega) _
  have e0 := q0.cell (i := 3) rfl
  have zq : (w1.setCell ⟨w.heap.size + 1 + 1, 2, none⟩ (.slice (some ⟨g, 0, none⟩) H.length c')).heap.size = w1.heap.size := by simp [World.setCell]
  go_wp2_with (fail)
  clear c0 f0 d0 e0 k0 k1 k2 hr1
  generalize w1.setCell ⟨w.heap.size + 1 + 1, 2, none⟩ (.slice (some ⟨g, 0, none⟩) H.length c') = v1 at q0 q1 q2 hbq hrq zq ⊢
  refine (toGroupS_any B G d v1 (hB.on hbq) s2.1).mono ?_
  rintro e w2 ⟨h, d', rfl, hr2, hb2⟩
  have hg2 : v1.heap.size ≤ h ∧ h < w2.heap.size := hr2.lt h rfl
  have hw2 := hbq.trans (hb2.mono hbq.size)
  have hz1 := hb1.size
  have hz2 := hb2.size
  have hrs := row_below hrq hb2 (Nat.le_refl _)
  replace q1 := q1.below hb2 q1.lt
  replace q2 := q2.below hb2 q2.lt
  simp only [List.set_cons_succ, List.set_cons_zero] at q2
  have c0 := q2.cell (i := 0) rfl
  have c1 := q2.cell (i := 1) rfl
  have c2 := q2.cell (i := 2) rfl
  have c3 := q2.cell (i := 3) rfl
  have f3 := q2.froz 3
  have p0 := q1.cell (i := 0) rfl
  have p1 := q1.cell (i := 1) rfl
  have p2 := q1.cell (i := 2) rfl
  have p3 := q1.cell (i := 3) rfl
  have o0 := q1.froz 0
  have o1 := q1.froz 1
  have o2 := q1.froz 2
  have o3 := q1.froz 3
  go_wp2
  have r1 := (((((q1.far (p := ⟨w.heap.size + 1 + 1, 3, none⟩) (by simp) (.slice (some ⟨h, 0, none⟩) G.length d')).put 0 (.string nm)).put 1 (.int .i64 bs)).put 2 (.slice (some ⟨g, 0, none⟩) H.length c')).put 3 (.slice (some ⟨h, 0, none⟩) G.length d'))
  have r2 := (row_far (row_far (row_far (row_far (row_far hrs (p := ⟨w.heap.size + 1 + 1, 3, none⟩) (by simp; omega) (.slice (some ⟨h, 0, none⟩) G.length d')) (p := ⟨w.heap.size + 1, 0, none⟩) (by simp; omega) (.string nm)) (p := ⟨w.heap.size + 1, 1, none⟩) (by simp; omega) (.int .i64 bs)) (p := ⟨w.heap.size + 1, 2, none⟩) (by simp; omega) (.slice (some ⟨g, 0, none⟩) H.length c')) (p := ⟨w.heap.size + 1, 3, none⟩) (by simp; omega) (.slice (some ⟨h, 0, none⟩) G.length d'))
  have r3 := (row_far (row_far (row_far (row_far (row_far hr2 (p := ⟨w.heap.size + 1 + 1, 3, none⟩) (by simp; omega) (.slice (some ⟨h, 0, none⟩) G.length d')) (p := ⟨w.heap.size + 1, 0, none⟩) (by simp; omega) (.string nm)) (p := ⟨w.heap.size + 1, 1, none⟩) (by simp; omega) (.int .i64 bs)) (p := ⟨w.heap.size + 1, 2, none⟩) (by simp; omega) (.slice (some ⟨g, 0, none⟩) H.length c')) (p := ⟨w.heap.size + 1, 3, none⟩) (by simp; omega) (.slice (some ⟨h, 0, none⟩) G.length d'))
  have r4 := (((((hw2.setCell (p := ⟨w.heap.size + 1 + 1, 3, none⟩) (by simp; try omega) (.slice (some ⟨h, 0, none⟩) G.length d')).setCell (p := ⟨w.heap.size + 1, 0, none⟩) (by simp; try omega) (.string nm)).setCell (p := ⟨w.heap.size + 1, 1, none⟩) (by simp; try omega) (.int .i64 bs)).setCell (p := ⟨w.heap.size + 1, 2, none⟩) (by simp; try omega) (.slice (some ⟨g, 0, none⟩) H.length c')).setCell (p := ⟨w.heap.size + 1, 3, none⟩) (by simp; try omega) (.slice (some ⟨h, 0, none⟩) G.length d'))
  simp only [List.set_cons_succ, List.set_cons_zero] at r1
  generalize (((((w2.setCell ⟨w.heap.size + 1 + 1, 3, none⟩ (.slice (some ⟨h, 0, none⟩) G.length d')).setCell ⟨w.heap.size + 1, 0, none⟩ (.string nm)).setCell ⟨w.heap.size + 1, 1, none⟩ (.int .i64 bs)).setCell ⟨w.heap.size + 1, 2, none⟩ (.slice (some ⟨g, 0, none⟩) H.length c')).setCell ⟨w.heap.size + 1, 3, none⟩ (.slice (some ⟨h, 0, none⟩) G.length d')) = w9 at r1 r2 r3 r4 ⊢
  have x0 := r1.cell (i := 0) rfl
  have x1 := r1.cell (i := 1) rfl
  have x2 := r1.cell (i := 2) rfl
  have x3 := r1.cell (i := 3) rfl
  exact bodyPost_ret (v := topV nm bs (.slice (some ⟨g, 0, none⟩) H.length c') (.slice (some ⟨h, 0, none⟩) G.length d')) (by simp [results, Try.results42, go_sem, x0, x1, x2, x3]) rfl ⟨g, c', h, d', rfl, Rw.of (own_base r2 (by omega)), Rw.of (own_base r3 (by omega)), by omega, r4⟩
end Go.Proofs.Ytdehpdmgoaopfaa
