/- DrawFsAppend. FsAppend of any file system, the empty one too: spec and impl answer alike, and how. What the promises' laws do with file systems: lwFiles, lwFs. -/
import Derived.Test.YtpgodphnjeifhaaGreatDoorDrFsGW
import Derived.Deep.OwnRows
import Derived.Deep.RegionLaw
import Derived.Test.YtpgodphnjeifhaaGreatDoorDrFsW
import Derived.Test.YtpgodphnjeifhaaGreatDoorFilRightW
import Derived.Test.YtpgodphnjeifhaaGreatDoorFSynW
import Derived.Laws.StructEq
namespace Go.Proofs.YtpgodphnjeifhaaGreatDoor
open Go.RowKit
set_option linter.unusedVariables false
set_option maxRecDepth 1000000

theorem mk_run (q : Nat) (hq : q ≤ 3010) (W : World) : (Instr.makeSlice 22 (.int .i64 (q : Int)) (.int .i64 (q : Int))).run Tryz.prog W = .ok (.slice (some ⟨W.heap.size, 0, none⟩) q q) (W.alloc (.cells (madeCells #[.int .u8 0] q) 5)) :=
  run_make_row' (P := Tryz.prog) 22 5 (.int .u8 0) 1 Tryz.underlying22 infoU8 rfl .i64 .i64 q (by omega) (by omega) W
theorem mk_own (q : Nat) (hq : q ≤ 3010) (W : World) : (W.alloc (.cells (madeCells #[.int .u8 0] q) 5)).ownsRow W.heap.size 5 1 (.slice (some ⟨W.heap.size, 0, none⟩) q q) q ((List.replicate q (0 : Int)).map (Value.int .u8)) := by
  obtain ⟨u0, hu0, hv0, hv1, hv2⟩ := info_parts infoU8
  obtain ⟨wm, hmk, hownm, hgrm⟩ := run_make_full (P := Tryz.prog) W W.heap.size 22 5 u0 (.int .u8 0) 1 Tryz.underlying22 hu0 hv0 hv1 .i64 .i64 q (by rw [hv2]; omega) (by unfold maxLen; omega) (Nat.le_refl _)
  rw [made_zero] at hownm
  rw [mk_run q hq W] at hmk
  injection hmk with _ e
  rw [e]
  exact hownm


set_option maxHeartbeats 4000000 in
theorem drawFsAppend_any (A : Option Addr) (n c : Nat) (w : World) (h : Bts w w.heap.size A n) :
    Calls Tryz.prog 5 #[.slice A n c] w fun e w' => ∃ (L : List Fil) (C : Option Addr) (x : Nat) (s : ByteArray) (t : ByteArray), e = .returned (.tuple #[.agg #[.slice C L.length x], .string s, .string t]) ∧ OwnF w' w.heap.size (.slice C L.length x) L ∧ Small L ∧ L.length ≤ 30 ∧ s.size ≤ 20 ∧ t.size ≤ 4000 ∧ Below w.heap.size w w' := by
  have hR0 := Blk.fresh w 25 [.slice none 0 0]
  have hb0 : Below w.heap.size w (w.alloc (.cells #[.slice none 0 0] 25)) := (Below.refl _ _).alloc (Nat.le_refl _) _
  obtain ⟨u0, hu0, hv0, hv1, hv2⟩ := info_parts infoU8
  go_enter Tryz.func5, Tryz.ntmps5
  go_wp2_with (fail)
  refine (drawFsRead_any A n c _ (bts_up h hb0)).mono ?_
  rintro e w1 ⟨L, C, x, s, rfl, hO, hS, hl, hsz, hb1⟩
  have hw1 := hb0.trans (hb1.mono hb0.size)
  have hw2 := hw1.alloc hw1.size (.cells #[.slice C L.length x] 25)
  have hR2 := (hR0.below hb1 hR0.lt).alloc (.cells #[.slice C L.length x] 25)
  have hP2 := Blk.fresh w1 25 [.slice C L.length x]
  have hO2 := OwnF.below hO ((Below.refl _ _).alloc (Nat.le_refl _) (.cells #[.slice C L.length x] 25)) (Nat.le_refl _)
  have hz1 := hb1.size
  simp only [World.size_alloc] at hO2 hz1
  go_wp2_with (fail)
  refine (source_any A n c w.heap.size _ (h.of_block fun k hk => hw2.block k hk) hw2.size).mono ?_
  rintro e w3 ⟨g, rfl, hg, hd3, hb3⟩
  have hs3 : St4 w w.heap.size g w1.heap.size C L x w3 := ⟨hd3, hw2.trans (hb3.mono hw2.size), hR2.below hb3 hR2.lt, hP2.below hb3 hP2.lt, OwnF.below hO2 hb3 (Nat.le_refl _), Nat.le_refl _, by omega⟩
  clear hO hO2 hb3 hd3 hR2 hP2 hw2 hb1
  generalize w1.heap.size = p at hs3 ⊢
  have hp := hs3.2.2.2.2.2.2
  have hdr := hs3.1
  go_wp2_with (fail)
  refine (one_any w.heap.size g 12 _ hdr (by omega) (by omega)).mono ?_
  rintro e w4 ⟨b, rfl, hd4, ho4⟩
  have hs4 := hs3.draw hd4 ho4
  clear hs3 hdr hd4 ho4
  cases b

  · have hs := hs4.drew
    go_wp2_with (fail)
    go_region_held3 (fun W => W.cell? ⟨p, 0, none⟩ = some (.slice C L.length x))
      (first
        | exact hs.2.2.2.1.cell (i := 0) rfl
        | exact cell_put_far (hs.2.2.2.1.cell (i := 0) rfl) (by simp; omega) _)
      (first
        | (go_at_call 36; have hdr := hs.1; (with_reducible refine (n_any w.heap.size g 4 _ hdr (by omega) (by omega)).mono ?_); clear hdr; rintro e wa ⟨y, rfl, y0, y1, _, hda, hoa⟩; have y2 := y1 (by omega); clear y1; replace hs := hs.draw hda hoa; have r0 := hs.2.2.1.cell (i := 0) rfl; have rf := hs.2.2.1.froz 0)
        | (go_at_call 37; have hdr := hs.1; (with_reducible refine (bytes_any w.heap.size g y _ hdr (by omega) (by omega)).mono ?_); clear hdr; rintro e wb ⟨t, rfl, htz, hdb, hob⟩; clear r0 rf; replace hs := hs.draw hdb hob; have r0 := hs.2.2.1.cell (i := 0) rfl; have rf := hs.2.2.1.froz 0))
    go_wp2
    have k0 := (hs.2.2.1.put 0 (.slice C L.length x)).cell (i := 0) rfl
    exact bodyPost_ret (v := .tuple #[.agg #[.slice C L.length x], .string s, .string t]) (by simp only [results, Tryz.results5]; simp [go_sem, k0]) rfl ⟨L, C, x, s, _, rfl, (hs.fin _).1, hS, hl, hsz, by omega, (hs.fin _).2⟩

  · have hs := hs4.drew
    go_wp2_with (fail)
    have p9 := hs.2.2.2.1.cell (i := 0) rfl
    have r9 := hs.2.2.1.cell (i := 0) rfl
    go_region_law
      (first
        | (go_simp; go_at_call 36; have hdr := hs.1; (with_reducible refine (n_any w.heap.size g 20 _ hdr (by omega) (by omega)).mono ?_); clear hdr; rintro e wa ⟨y, rfl, y0, y1, _, hda, hoa⟩; have y2 := y1 (by omega); clear y1; replace hs := hs.draw hda hoa; have r0 := hs.2.2.1.cell (i := 0) rfl; have rf := hs.2.2.1.froz 0; obtain ⟨q, HQ⟩ : ∃ q : Nat, Hid (q = 2990 + y.toNat) := ⟨_, Lib.hid rfl⟩; have hqb : q ≤ 3010 := (by rw [HQ.out]; omega); have hwr : IntKind.i64.wrap (2990 + y) = (q : Int) := (by rw [IntWalk.i64_in _ (by omega), HQ.out]; omega); have hmk := mk_run q hqb; have o1 := mk_own q hqb wa; have o2 := mk_own q hqb (wa.setCell ⟨w.heap.size, 0, none⟩ (.slice C L.length x)); obtain ⟨t, HD⟩ : ∃ d, Hid (strOfNums (List.replicate q 0) = d) := ⟨_, Lib.hid rfl⟩; have htz : t.size ≤ 3010 := (by rw [← HD.out, strOfNums_size, List.length_replicate]; exact hqb); have c1 := own_string o1; have c2 := own_string (row_far o1 (p := ⟨w.heap.size, 0, none⟩) (by have := hs.2.2.1.lt; simpa using this) (.slice C L.length x)); have c3 := own_string o2; rw [HD.out] at c1 c2 c3; obtain ⟨zz, HZ⟩ : ∃ z, Hid (madeCells #[.int .u8 0] q = z) := ⟨_, Lib.hid rfl⟩; rw [HZ.out] at c1 c2 c3; simp only [HZ.out] at hmk; simp only [World.size_setCell] at c3; clear o1 o2; have hsz9 := hs.2.2.1.lt; have r1 := (hs.2.2.1.alloc (.cells zz 5)).cell (i := 0) rfl; have rf1 := (hs.2.2.1.alloc (.cells zz 5)).froz 0; have p1 := (hs.2.2.2.1.alloc (.cells zz 5)).cell (i := 0) rfl; have p0 := hs.2.2.2.1.cell (i := 0) rfl))
    all_goals
      go_wp2
      first
        | (have k0 := ((hs.2.2.1.put 0 (.slice C L.length x)).alloc (.cells zz 5)).cell (i := 0) rfl
           have hfb := hs.fin (.slice C L.length x)
           refine bodyPost_ret (v := .tuple #[.agg #[.slice C L.length x], .string s, .string t]) (by simp only [results, Tryz.results5]; simp [go_sem, k0]) rfl ⟨L, C, x, s, t, rfl, OwnF.below hfb.1 ((Below.refl _ _).alloc (Nat.le_refl _) _) (Nat.le_refl _), hS, hl, hsz, by omega, hfb.2.alloc hfb.2.size _⟩)
        | (have k0 := ((hs.2.2.1.alloc (.cells zz 5)).put 0 (.slice C L.length x)).cell (i := 0) rfl
           have hfb := (hs.below ((Below.refl wa.heap.size wa).alloc (Nat.le_refl _) (.cells zz 5))).fin (.slice C L.length x)
           exact bodyPost_ret (v := .tuple #[.agg #[.slice C L.length x], .string s, .string t]) (by simp only [results, Tryz.results5]; simp [go_sem, k0]) rfl ⟨L, C, x, s, t, rfl, hfb.1, hS, hl, hsz, by omega, hfb.2⟩)

end Go.Proofs.YtpgodphnjeifhaaGreatDoor

namespace Go.Proofs.YtpgodphnjeifhaaGreatDoor
open Go.RowKit
set_option linter.unusedVariables false
set_option maxRecDepth 1000000

theorem fsAppend_bothA (L : List Fil) (s t : ByteArray) (a0 a1 a2 a3 a4 : Addr) (hf : ∀ f ∈ L, f.fits) (hS : Small L) (hs : s.size ≤ maxLen) (ht : t.size ≤ maxLen) (hs2 : s.size ≤ 1048576) (ht2 : t.size ≤ 1048576) :
    ∃ (M : List Fil) (cd : Int), (∀ f ∈ M, f.fits) ∧ M.length ≤ L.length + 1 ∧ ((Small M ∧ (cd = 0 → 0 < M.length)) ∧ (cd = 0 → ApHow L s t M)) ∧
      (∀ W A c, Fls W W.heap.size A L → (A = none → L = [] ∧ c = 0) → L.length ≤ c → c ≤ maxLen → Calls Tryz.prog 13 #[.agg #[.slice A L.length c], .string s, .string t] W fun e w' => ∃ C x, e = .returned (fsOut (.slice C M.length x) cd) ∧ OwnF w' W.heap.size (.slice C M.length x) M ∧ Below W.heap.size W w') ∧
      (∀ W A c, Fls W W.heap.size A L → Errs W a0 a1 a2 a3 a4 → Calls Tryz.prog 6 #[.agg #[.slice A L.length c], .string s, .string t] W fun e w' => ∃ C x, e = .returned (fsOut (.slice C M.length x) cd) ∧ OwnF w' W.heap.size (.slice C M.length x) M ∧ Below W.heap.size W w') := by
  have hsN : ∀ x ∈ [s], x.size ≤ maxLen := by intro x hx; simp at hx; subst hx; exact hs
  have nil : ∀ {f : FuncId} {args : Array Value} {W : World} {cd : Int}, (Calls Tryz.prog f args W fun e w' => e = .returned (fsOut (.slice none 0 0) cd) ∧ Below W.heap.size W w') → Calls Tryz.prog f args W fun e w' => ∃ C x, e = .returned (fsOut (.slice C ([] : List Fil).length x) cd) ∧ OwnF w' W.heap.size (.slice C ([] : List Fil).length x) [] ∧ Below W.heap.size W w' :=
    fun h => h.mono fun e w' ⟨he, hb⟩ => ⟨none, 0, he, ownF_nil _ _, hb⟩
  by_cases htl : 20000 < t.size
  · exact ⟨[], 2, by simp, by simp, ⟨⟨small_nil, fun h => absurd h (by decide)⟩, fun h => absurd h (by decide)⟩, fun W A c hL _ _ _ => specAppend_long A L c s t W hs ht htl, fun W A c hL hE => implAppend_long A L c s t W ht htl⟩
  rcases code_cases L s with ⟨h1, hc⟩ | ⟨h1, h2, hc⟩ | ⟨h1, h2, h3, h4, hc⟩ | ⟨h1, h2, h3, ⟨i, hi, h4, h5⟩, hc⟩
  · refine ⟨[], 2, by simp, by simp, ⟨⟨small_nil, fun h => absurd h (by decide)⟩, fun h => absurd h (by decide)⟩, fun W A c hL _ _ _ => specAppend_err A L c s t 2 W hL hs ht htl hc (by decide) (by decide), fun W A c hL hE => implFsAppend_of A L c s t W [] 2 ht htl (Lib.hid (nil ?_))⟩
    have hb := wFsAppend_below A L c s t W
    exact change_long A L c _ [s] 1 _ a0 a1 a2 a3 a4 _ (hE.below hb) (wFsAppend_names A L c s t W) (by simp) hsN h1
  · refine ⟨[], 1, by simp, by simp, ⟨⟨small_nil, fun h => absurd h (by decide)⟩, fun h => absurd h (by decide)⟩, fun W A c hL _ _ _ => specAppend_err A L c s t 1 W hL hs ht htl hc (by decide) (by decide), fun W A c hL hE => implFsAppend_of A L c s t W [] 1 ht htl (Lib.hid (nil ?_))⟩
    have hb := wFsAppend_below A L c s t W
    exact change_bad A L c _ [s] 1 _ a0 a1 a2 a3 a4 _ (hE.below hb) ((hL.below hb (Nat.le_refl _)).mono hb.size) (wFsAppend_names A L c s t W) (by simp) hsN h1 h2
  · have FULL : (∀ W b n, MapF W b n L → Errs W a0 a1 a2 a3 a4 → Calls Tryz.prog 41 #[.map (some b), .string s, .string t] W fun e w' => e = .returned (errV a4) ∧ Below W.heap.size W w') →
        ∀ W A c, Fls W W.heap.size A L → Errs W a0 a1 a2 a3 a4 → Calls Tryz.prog 6 #[.agg #[.slice A L.length c], .string s, .string t] W fun e w' => ∃ C x, e = .returned (fsOut (.slice C ([] : List Fil).length x) 9) ∧ OwnF w' W.heap.size (.slice C ([] : List Fil).length x) [] ∧ Below W.heap.size W w' := fun X W A c hL hE => by
      refine implFsAppend_of A L c s t W [] 9 ht htl (Lib.hid (nil ?_))
      have hb := wFsAppend_below A L c s t W
      exact change_err A L c _ [s] 1 40 _ 4 a4 a0 a1 a2 a3 a4 _ (hE.below hb) ((hL.below hb (Nat.le_refl _)).mono hb.size) (wFsAppend_names A L c s t W) (by simp) hsN h1 h2 enters_append rfl
        (Lib.hid fun W2 b n hW2 _ hM _ => appendC_err _ _ b a4 s t W2 (((wFsAppend_box0 A L c s t W).below hW2 (wFsAppend_box0 A L c s t W).lt).cell (i := 0) rfl) (((wFsAppend_box1 A L c s t W).below hW2 (wFsAppend_box1 A L c s t W).lt).cell (i := 0) rfl)
          (Lib.hid (X W2 b n hM ((hE.below hb).below hW2))))
    by_cases hm : 12 ≤ L.length
    · exact ⟨[], 9, by simp, by simp, ⟨⟨small_nil, fun h => absurd h (by decide)⟩, fun h => absurd h (by decide)⟩, fun W A c hL _ _ _ => specAppend_many A L c s t W hL hs ht htl hc hm, FULL fun W b n hM hE => extend_err b n L s t a0 a1 a2 a3 a4 W hM hs hE h4 hm⟩
    · by_cases hsum : 3000 < t.size
      · exact ⟨[], 9, by simp, by simp, ⟨⟨small_nil, fun h => absurd h (by decide)⟩, fun h => absurd h (by decide)⟩, fun W A c hL _ _ _ => specAppend_newfull A L c s t W hL hs ht htl hc hm hsum,
          FULL fun W b n hM hE => extend_full b n L s t ⟨s, ⟨#[]⟩, 0⟩ a0 a1 a2 a3 a4 W (by omega) (by show 0 ≤ 3000; omega) hE (by show 3000 < 0 + t.size; omega) (Lib.hid (make_new b n L s a0 a1 a2 a3 a4 W hM hs hE h4 (by omega)))⟩
      · have hR := rising_of_ok h3
        have hnm : nameB s = true := by have h2' := h2; rw [open_one] at h2'; simp at h2'; exact h2'.2
        have hes := emp_size t
        have hff0 : (⟨s, ⟨#[]⟩ ++ t, 0⟩ : Fil).fits := ⟨hs, by show ((⟨#[]⟩ : ByteArray) ++ t).size ≤ maxLen; rw [hes]; exact ht, by show (-9223372036854775808 : Int) ≤ 0; omega, by show (0 : Int) ≤ 9223372036854775807; omega⟩
        have hfx : ∀ f ∈ putL L ⟨s, ⟨#[]⟩ ++ t, 0⟩, f.fits := fun f h => by
          rcases put_mem h with rfl | h
          · exact hff0
          · exact hf f h
        have hpl := put_len L ⟨s, ⟨#[]⟩ ++ t, 0⟩
        have hSx : Small (putL L ⟨s, ⟨#[]⟩ ++ t, 0⟩) := by
          refine small_of (L := L) (by omega) fun g hg => ?_
          rcases put_mem hg with rfl | h
          · exact ⟨hs2, by show ((⟨#[]⟩ : ByteArray) ++ t).size ≤ _; rw [hes]; omega⟩
          · exact small_mem hS h
        refine ⟨putL L ⟨s, ⟨#[]⟩ ++ t, 0⟩, 0, hfx, hpl, ⟨⟨hSx, fun _ => put_pos _ _⟩, fun _ => ⟨h3, hnm, .inl ⟨h4, by omega, by omega, rfl⟩⟩⟩, fun W A c hL hA h6 h7 => (by
          cases A with
          | some a => exact specAppend_new a L c s t W hL hS hs ht htl hc hR hm hsum h6 h7 hff0
          | none => obtain ⟨rfl, rfl⟩ := hA rfl; exact specAppend_nil s t W hL hs ht htl hc hsum hff0), fun W A c hL hE => implFsAppend_of A L c s t W _ 0 ht htl (Lib.hid ?_)⟩
        have hb := wFsAppend_below A L c s t W
        exact change_ok A L c _ [s] 1 40 _ _ _ ((hL.below hb (Nat.le_refl _)).mono hb.size) (wFsAppend_names A L c s t W) (by simp) hsN h1 h2 enters_append (rising_put hR _) hfx hSx
          (Lib.hid fun W2 b n hW2 _ hM hn2 => (appendC_ok _ _ b (n + 1) _ s t W2 (((wFsAppend_box0 A L c s t W).below hW2 (wFsAppend_box0 A L c s t W).lt).cell (i := 0) rfl) (((wFsAppend_box1 A L c s t W).below hW2 (wFsAppend_box1 A L c s t W).lt).cell (i := 0) rfl)
            (Lib.hid (extend_ok b n L s t ⟨s, ⟨#[]⟩, 0⟩ W2 hM (by omega) hs (by omega) (by show 0 ≤ 3000; omega) rfl (by show ¬ 3000 < 0 + t.size; omega) (Lib.hid (make_new b n L s a0 a1 a2 a3 a4 W2 hM hs ((hE.below hb).below hW2) h4 (by omega)))))).mono fun e w' ⟨he, hm, hg⟩ => ⟨he, ⟨n + 1, by omega, hm⟩, hg⟩)
  · have hR := rising_of_ok h3
    have hd := data_3000 h3 hi
    have hfi := hf _ (List.getElem_mem hi)
    have hl12 := (fsOK_iff.1 h3).1
    by_cases hsum : 3000 < L[i].data.size + t.size
    · refine ⟨[], 9, by simp, by simp, ⟨⟨small_nil, fun h => absurd h (by decide)⟩, fun h => absurd h (by decide)⟩, fun W A c hL _ _ _ => specAppend_full A L c s t i hi W hL hs ht htl hc h4 hR hd hsum, fun W A c hL hE => implFsAppend_of A L c s t W [] 9 ht htl (Lib.hid (nil ?_))⟩
      have hb := wFsAppend_below A L c s t W
      exact change_err A L c _ [s] 1 40 _ 4 a4 a0 a1 a2 a3 a4 _ (hE.below hb) ((hL.below hb (Nat.le_refl _)).mono hb.size) (wFsAppend_names A L c s t W) (by simp) hsN h1 h2 enters_append rfl
        (Lib.hid fun W2 b n hW2 _ hM _ => appendC_err _ _ b a4 s t W2 (((wFsAppend_box0 A L c s t W).below hW2 (wFsAppend_box0 A L c s t W).lt).cell (i := 0) rfl) (((wFsAppend_box1 A L c s t W).below hW2 (wFsAppend_box1 A L c s t W).lt).cell (i := 0) rfl)
          (Lib.hid (extend_full b n L s t L[i] a0 a1 a2 a3 a4 W2 (by omega) hd ((hE.below hb).below hW2) hsum (Lib.hid (make_some b n L s L[i] a0 a1 a2 a3 a4 W2 hM hs ((hE.below hb).below hW2) h4)))))
    · have hnm : nameB s = true := by have h2' := h2; rw [open_one] at h2'; simp at h2'; exact h2'.2
      have hds : (L[i].data ++ t).size = L[i].data.size + t.size := ByteArray.size_append
      have hff0 : (⟨L[i].name, L[i].data ++ t, L[i].sync⟩ : Fil).fits := ⟨hfi.1, by show (L[i].data ++ t).size ≤ maxLen; rw [hds]; unfold maxLen; omega, hfi.2.2⟩
      have hfx : ∀ f ∈ putL L ⟨L[i].name, L[i].data ++ t, L[i].sync⟩, f.fits := fun f h => by
        rcases put_mem h with rfl | h
        · exact hff0
        · exact hf f h
      have hpl := put_len L ⟨L[i].name, L[i].data ++ t, L[i].sync⟩
      have hSx : Small (putL L ⟨L[i].name, L[i].data ++ t, L[i].sync⟩) := by
        refine small_of (L := L) (by omega) fun g hg => ?_
        rcases put_mem hg with rfl | h
        · exact ⟨(hS.2 i hi).1, by show (L[i].data ++ t).size ≤ _; rw [hds]; omega⟩
        · exact small_mem hS h
      refine ⟨putL L ⟨L[i].name, L[i].data ++ t, L[i].sync⟩, 0, hfx, hpl, ⟨⟨hSx, fun _ => put_pos _ _⟩, fun _ => ⟨h3, hnm, .inr ⟨L[i], h4, by omega, rfl⟩⟩⟩, fun W A c hL hA h6 h7 => (by
        cases A with
        | some a => exact specAppend_old a L c s t i hi W hL hS hs ht htl hc h4 hR hd hsum h6 h7 hff0
        | none => have h8 := (hA rfl).1; rw [h8] at hi; simp at hi), fun W A c hL hE => implFsAppend_of A L c s t W _ 0 ht htl (Lib.hid ?_)⟩
      have hb := wFsAppend_below A L c s t W
      exact change_ok A L c _ [s] 1 40 _ _ _ ((hL.below hb (Nat.le_refl _)).mono hb.size) (wFsAppend_names A L c s t W) (by simp) hsN h1 h2 enters_append (rising_put hR _) hfx hSx
        (Lib.hid fun W2 b n hW2 _ hM hn2 => (appendC_ok _ _ b (n + 1) _ s t W2 (((wFsAppend_box0 A L c s t W).below hW2 (wFsAppend_box0 A L c s t W).lt).cell (i := 0) rfl) (((wFsAppend_box1 A L c s t W).below hW2 (wFsAppend_box1 A L c s t W).lt).cell (i := 0) rfl)
          (Lib.hid (extend_ok b n L s t L[i] W2 hM (by omega) hs (by omega) hd h5 hsum (Lib.hid (make_some b n L s L[i] a0 a1 a2 a3 a4 W2 hM hs ((hE.below hb).below hW2) h4))))).mono fun e w' ⟨he, hm, hg⟩ => ⟨he, ⟨n + 1, by omega, hm⟩, hg⟩)


end Go.Proofs.YtpgodphnjeifhaaGreatDoor

namespace Go.Proofs.YtpgodphnjeifhaaGreatDoor
open Go.RowKit
set_option linter.unusedVariables false
set_option maxRecDepth 1000000

theorem eqFl (a b : ByteArray) (z : Int) (w : World) : (Op.equalIn 10000 53 (.agg #[.string a, .string b, .int .i64 z]) (.agg #[.string a, .string b, .int .i64 z])).run Tryz.prog w = .ok true w := by
  have u2 := Tryz.underlying2
  have u9 := Tryz.underlying9
  have hS : Tryz.prog.underlying 53 = some (.struct (Tryz.prog.fieldsOf 53)) := by kernel_rfl
  have hp : Tryz.prog.stoodInHeld 53 = false := by kernel_rfl
  rw [show (10000 : Nat) = 9999 + 1 from rfl, run_equalIn_agg w 9999 53 _ _ hS hp]
  simp only [Program.fieldsOf, Tryz.underlying53]
  go_simp
set_option maxHeartbeats 2000000 in
theorem lwFiles_same (A B : Option Addr) (L : List Fil) (c d : Nat) (w : World) (hA : Fls w w.heap.size A L) (hB : Fls w w.heap.size B L) :
    Calls Tryz.prog 26 #[.agg #[.slice A L.length c], .agg #[.slice B L.length d]] w fun e w' => e = .returned (.bool true) ∧ Below w.heap.size w w' := by
  have hn := hA.1
  unfold maxLen at hn
  have h0 := (Blk.fresh w 25 [.slice A L.length c]).alloc (.cells #[.slice B L.length d] 25)
  have h1 := Blk.fresh (w.alloc (.cells #[.slice A L.length c] 25)) 25 [.slice B L.length d]
  have hb0 : Below w.heap.size w ((w.alloc (.cells #[.slice A L.length c] 25)).alloc (.cells #[.slice B L.length d] 25)) := ((Below.refl _ w).alloc (Nat.le_refl _) _).alloc (by simp) _
  simp only [List.toArray, World.size_alloc] at h0 h1
  have heg : Tryz.prog.eqGuardType Tryz.prog.depth 53 = false := by kernel_rfl
  go_enter Tryz.func26, Tryz.ntmps26
  have e0 := h0.cell (i := 0) rfl
  have e1 := h1.cell (i := 0) rfl
  go_wp2
  generalize (w.alloc (.cells #[.slice A L.length c] 25)).alloc (.cells #[.slice B L.length d] 25) = w1 at h0 h1 hb0 e0 e1 ⊢
  go_loopw [5] (fun i wr => ∃ k : Nat, k ≤ L.length ∧ i = .int .i64 k ∧ Blk wr w.heap.size 25 [.slice A L.length c] ∧ Blk wr (w.heap.size + 1) 25 [.slice B L.length d] ∧ Below w.heap.size w wr) (fun i _ => L.length - (intOf i).toNat)
  case atStart => exact ⟨0, by omega, rfl, h0, h1, hb0⟩
  case round =>
    obtain ⟨k, hk, rfl, g0, g1, hb⟩ := hrel
    clear e0 e1
    have e0 := g0.cell (i := 0) rfl
    have e1 := g1.cell (i := 0) rfl
    by_cases hlt : k < L.length
    · have hlt' : (k : Int) < (L.length : Int) := by omega
      obtain ⟨a, rfl, hab, c0, c1, c2, hff⟩ := (hA.below hb (Nat.le_refl _)).at k hlt
      obtain ⟨a', rfl, hab', d0, d1, d2, _⟩ := (hB.below hb (Nat.le_refl _)).at k hlt
      have hq := fun W => eqFl L[k].name L[k].data L[k].sync W
      go_wp2
      go_quiet (fail)
      go_wp2
      exact ⟨⟨k + 1, by omega, by go_num, g0.drewN _, g1.drewN _, below_drewN hb _⟩, by simp [intOf]; omega⟩
    · obtain rfl : k = L.length := by omega
      go_wp2
      go_ret
      exact ⟨rfl, hb⟩
set_option maxHeartbeats 2000000 in
theorem lwFs_same (A B : Option Addr) (L : List Fil) (c d : Nat) (cd : Int) (w : World) (hA : Fls w w.heap.size A L) (hB : Fls w w.heap.size B L) (hok : cd = 0 → fsOK L = true) :
    Calls Tryz.prog 12 #[fsOut (.slice A L.length c) cd, fsOut (.slice B L.length d) cd] w fun e w' => e = .returned (.bool true) ∧ Below w.heap.size w w' := by
  have h0 := (Blk.fresh w 29 [.slice A L.length c, .int .i64 cd]).alloc (.cells #[.slice B L.length d, .int .i64 cd] 29)
  have h1 := Blk.fresh (w.alloc (.cells #[.slice A L.length c, .int .i64 cd] 29)) 29 [.slice B L.length d, .int .i64 cd]
  have hb0 : Below w.heap.size w ((w.alloc (.cells #[.slice A L.length c, .int .i64 cd] 29)).alloc (.cells #[.slice B L.length d, .int .i64 cd] 29)) := ((Below.refl _ w).alloc (Nat.le_refl _) _).alloc (by simp) _
  simp only [List.toArray, World.size_alloc] at h0 h1
  have HE := Lib.hid (lwFiles_same A B L c d _ ((hA.below hb0 (Nat.le_refl _)).mono hb0.size) ((hB.below hb0 (Nat.le_refl _)).mono hb0.size))
  by_cases hcd : cd = 0
  · have dcd : (cd != 0) = false := by simp [hcd]
    have HOK := Lib.hid (hok hcd)
    have HR := Lib.hid (fun W (h : Below w.heap.size w W) => specRight_any A L c W ((hA.below h (Nat.le_refl _)).mono h.size))
    clear hcd hok
    go_enter Tryz.func12, Tryz.ntmps12
    go_wp2_with (fail)
    refine HE.out.mono ?_
    rintro e w1 ⟨rfl, hb1⟩
    have g0 := h0.below hb1 h0.lt
    have hw1 := hb0.trans (hb1.mono hb0.size)
    have k0 := g0.cell (i := 0) rfl
    have k1 := g0.cell (i := 1) rfl
    clear HE
    go_wp2_with (fail)
    refine (HR.out _ hw1).mono ?_
    rintro e w2 ⟨rfl, hb2⟩
    rw [HOK.out]
    go_wp2
    go_ret
    exact ⟨rfl, hw1.trans (hb2.mono hw1.size)⟩
  · have dcd : (cd != 0) = true := by simpa using hcd
    clear hcd hok
    go_enter Tryz.func12, Tryz.ntmps12
    go_wp2_with (fail)
    refine HE.out.mono ?_
    rintro e w1 ⟨rfl, hb1⟩
    have g0 := h0.below hb1 h0.lt
    have hw1 := hb0.trans (hb1.mono hb0.size)
    have k1 := g0.cell (i := 1) rfl
    clear HE
    go_wp2
    go_ret
    exact ⟨rfl, hw1⟩
end Go.Proofs.YtpgodphnjeifhaaGreatDoor
