/- slices.Insert of one group into a row of groups of the call's own. The closure of runFor: a group is found or added, then an operation runs. The method runFor of topicWork. The closure of runFor, the operation being seek. -/
import Derived.Test.YtjnbhppnchmeoaaIs3W
import Derived.Test.YtjnbhppnchmeoaaStrArgW
import Derived.Test.YtjnbhppnchmeoaaTpWkW
import Derived.Shelf.Spec.SlicesInsert
import Derived.Lib.AppendZerosOnto
import Derived.Deep.RegionLaw
import Derived.Laws.CopyRow
import Derived.Test.YtjnbhppnchmeoaaTpOpFW
import Derived.Test.YtjnbhppnchmeoaaTpFtW
import Derived.Test.YtjnbhppnchmeoaaTpSetMW
import Derived.Test.YtjnbhppnchmeoaaTpPubXW
import Derived.Deep.DeepCutAuto
import Derived.Deep.RegionHeld3
import Derived.Test.YtjnbhppnchmeoaaTpRunFW
import Derived.Test.YtjnbhppnchmeoaaTpEndW
namespace Go.Proofs.Ytjnbhppnchmeoaa
open Go.RowKit Go.Deep
set_option linter.unusedVariables false
set_option maxRecDepth 1000000

/-- The copy of groups into a block that is known whole. -/
theorem run_copy_grp (w : World) (ty : TypeId) (g o dLen dCap : Nat) (a : Addr) (sLen sCap : Nat) (cur cs : List Value) (hg : Blk w g 94 cur) (hn : cs.length = Nat.min sLen dLen * 2)
    (hsrc : ∀ j v, cs[j]? = some v → w.cell? (a.add j) = some v) (hfit : o + cs.length ≤ cur.length) (h1 : ∀ v ∈ cs, v.oneCell' = true) :
    (Builtin.copy_ #[24, 24] ty #[.slice (some ⟨g, o, none⟩) dLen dCap, .slice (some a) sLen sCap]).run Try.prog w = .ok (goInt (Nat.min sLen dLen)) (w.setRow g (splice cur o cs).toArray) := by
  obtain ⟨i0, hi, hz0, hz1, hz2⟩ := info_parts infoGrp
  have hl := run_loadCells_list (P := Try.prog) w a cs hsrc
  have hst := run_storeCells_at Try.prog g o 94 cs 0 cur.toArray w hg (by simpa using hfit) h1
  have e : (cur.toArray.toList.take (o + 0) ++ cs ++ cur.toArray.toList.drop (o + 0 + cs.length)).toArray = (splice cur o cs).toArray := by simp [splice]
  rw [e] at hst
  simp only [Builtin.copy_, Builtin.lenOf, Builtin.firstCells, sizeOf, typeInfo]
  simp [run_underlying Try.underlying24, hi, hz1, ← hn, hl, hst]
/-- Groups with one more at a place. -/
def insAt (G : List Grp) (p : Nat) (g : Grp) : List Grp := G.take p ++ [g] ++ G.drop p
theorem insAt_len (G : List Grp) {p : Nat} (h : p ≤ G.length) (g : Grp) : (insAt G p g).length = G.length + 1 := by simp [insAt]; omega
/-- What the insertion of a group leaves. -/
def InsO (w : World) (base : Nat) (B : Option Addr) (G : List Grp) (p : Nat) (gr : Grp) (e : Ending) (w' : World) : Prop :=
  ∃ B' b', e = .returned (.slice B' (G.length + 1) b') ∧ w'.ownsRow base 94 2 (.slice B' (G.length + 1) b') (G.length + 1) (gflat (insAt G p gr)) ∧ w.grownBy w' (B.map (·.block))
theorem insert_end (B : Option Addr) (G : List Grp) (b vb base : Nat) (gr : Grp) (w : World) (hG : OwnG w base (.slice B G.length b) G) (hl : G.length ≤ 3) (hV : Blk w vb 94 [.string gr.name, .int .i64 gr.acked]) (hbase : base ≤ w.heap.size) :
    Calls Try.prog 115 #[.slice B G.length b, .int .i64 G.length, .slice (some ⟨vb, 0, none⟩) 1 1] w (InsO w base B G G.length gr) := by
  have hM : Grs w w.heap.size (some ⟨vb, 0, none⟩) [gr] := by
    refine ⟨by simp [maxLen], fun i hi => ⟨_, rfl, hV.lt, ?_, ?_⟩⟩
    · obtain rfl : i = 0 := by simp at hi; omega
      rw [add_none]; exact hV.cell (i := 0) rfl
    · obtain rfl : i = 0 := by simp at hi; omega
      rw [add_none]; exact hV.cell (i := 1) rfl
  have hcap := Cap.own hG
  have hx := hcap.le
  have hmx := hcap.max
  unfold maxLen at hmx
  have HI := Lib.hid (show ∀ A' c' w', OwnG w' base (.slice A' (G.length + 1) c') (G ++ [gr]) → w.grownBy w' (Value.slice B G.length b).ownBlock → InsO w base B G G.length gr (.returned (.slice A' (G.length + 1) c')) w' from fun A' c' w' h1 h2 => by
    have e : (G ++ [gr]).length = G.length + 1 := by simp
    refine ⟨A', c', rfl, ?_, by rw [← own_blk B G.length b]; exact h2⟩
    unfold OwnG at h1
    rw [e] at h1
    unfold insAt
    rw [List.take_of_length_le (Nat.le_refl _), List.drop_of_length_le (Nat.le_refl _), List.append_nil]
    exact h1)
  by_cases hbn : b = G.length
  · subst hbn
    go_enter Try.func115, Try.ntmps115
    go_wp2_with (at_builtin; (refine wpList_app_grp rfl (.tmp 23) (.tmp 24) rfl base (.slice B G.length G.length) G rfl hG w.heap.size (some ⟨vb, 0, none⟩) [gr] 1 rfl (fun e => by cases e) hM (by simp; omega) hbase ?_); intro A' c' w' h1 h2)
    have e : (G ++ [gr]).length = G.length + 1 := by simp
    rw [e] at h1
    have h3 := HI.out A' c' w' h1 h2
    go_ret
    exact h3
  · go_enter Try.func115, Try.ntmps115
    go_wp2_with (at_builtin; (refine wpList_app_grp rfl (.tmp 23) (.tmp 24) rfl base (.slice B G.length b) G rfl hG w.heap.size (some ⟨vb, 0, none⟩) [gr] 1 rfl (fun e => by cases e) hM (by simp; omega) hbase ?_); intro A' c' w' h1 h2)
    have e : (G ++ [gr]).length = G.length + 1 := by simp
    rw [e] at h1
    have h3 := HI.out A' c' w' h1 h2
    go_ret
    exact h3
theorem splice_room {α : Type} (C X1 X2 V : List α) (n p : Nat) (hp : p ≤ n) (h1 : C.take (n * 2) = X1 ++ X2) (l1 : X1.length = p * 2) (l2 : X2.length = (n - p) * 2) (lv : V.length = 2) (hc : (n + 1) * 2 ≤ C.length) :
    (splice (splice C ((p + 1) * 2) X2) (p * 2) V).take ((n + 1) * 2) = X1 ++ V ++ X2 := by
  have e1 : C.take (p * 2) = X1 := by
    have := congrArg (List.take (p * 2)) h1
    rw [List.take_take, Nat.min_eq_left (by omega), ← l1, List.take_left] at this
    rw [← l1]; exact this
  unfold splice
  have e2 : (C.take ((p + 1) * 2) ++ (X2 ++ C.drop ((p + 1) * 2 + X2.length))).take (p * 2) = X1 := by
    rw [List.take_append_of_le_length (by simp; omega), List.take_take, Nat.min_eq_left (by omega), e1]
  have e3 : (C.take ((p + 1) * 2) ++ (X2 ++ C.drop ((p + 1) * 2 + X2.length))).drop (p * 2 + V.length) = X2 ++ C.drop ((p + 1) * 2 + X2.length) := by
    have hl : (C.take ((p + 1) * 2)).length = p * 2 + V.length := by simp; omega
    rw [← hl, List.drop_left]
  rw [e2, e3, ← List.append_assoc, ← List.append_assoc]
  exact List.take_left' (by simp; omega)
theorem gflat_split (G : List Grp) (p : Nat) : gflat G = gflat (G.take p) ++ gflat (G.drop p) := by rw [← gflat_append, List.take_append_drop]
theorem gflat_ins (G : List Grp) (p : Nat) (gr : Grp) : gflat (insAt G p gr) = gflat (G.take p) ++ [.string gr.name, .int .i64 gr.acked] ++ gflat (G.drop p) := by unfold insAt; rw [gflat_append, gflat_append]; rfl
theorem hov_any (w : World) (vb g o lb cb : Nat) (cur vs : List Value) (hB : Blk w g 94 cur) (h0 : cur.length ≠ 0) (hV : Blk w vb 94 vs) (hne : vb ≠ g) :
    (callFunc 131 #[.slice (some ⟨vb, 0, none⟩) 1 1, .slice (some ⟨g, o, none⟩) lb cb]).run Try.prog w = .ok (.value (.bool false)) w := by
  obtain ⟨i0, hi, hz0, hz1, hz2⟩ := info_parts infoGrp
  have hs1 : w.shape? vb = some (94, vs.length) := by unfold Blk at hV; simp [World.shape?, hV]
  have hs2 : w.shape? g = some (94, cur.length) := by unfold Blk at hB; simp [World.shape?, hB]
  rw [run_callFunc_extern Try.func131 (by kernel_rfl) (by kernel_rfl) (by kernel_rfl) (e := Extern.SlicesOverlaps.overlaps #[24, 24] #[4]) (by kernel_rfl),
    Lib.run_overlaps_apart w 24 4 94 Try.underlying24 2 (fun W => by simp [sizeOf, typeInfo, hi, hz1]) ⟨vb, 0, none⟩ ⟨g, o, none⟩ 1 1 lb cb hne _ _ _ _ hs1 hs2 h0 (hV.froz 0) (hV.froz _)]
  rfl
set_option maxHeartbeats 2000000 in
theorem insert_room (g cap p vb base : Nat) (G : List Grp) (gr : Grp) (cur : List Value) (w : World) (hp : p < G.length) (hl : G.length ≤ 3) (hroom : G.length + 1 ≤ cap) (hcm : cap ≤ maxLen) (hB : Blk w g 94 cur) (hcl : cur.length = cap * 2) (hct : cur.take (G.length * 2) = gflat G)
    (hV : Blk w vb 94 [.string gr.name, .int .i64 gr.acked]) (hne : vb ≠ g) (hbase : base ≤ g) :
    Calls Try.prog 115 #[.slice (some ⟨g, 0, none⟩) G.length cap, .int .i64 p, .slice (some ⟨vb, 0, none⟩) 1 1] w (InsO w base (some ⟨g, 0, none⟩) G p gr) := by
  have hcm' := hcm
  unfold maxLen at hcm
  have hov := fun lb cb => hov_any w vb g ((p + 1) * 2) lb cb cur _ hB (by omega) hV hne
  have hd2 : (gflat (G.drop p)).length = (G.length - p) * 2 := by rw [gflat_len, List.length_drop]
  have ht2 : (gflat (G.take p)).length = p * 2 := by rw [gflat_len, List.length_take]; omega
  have hsp := splice_room cur (gflat (G.take p)) (gflat (G.drop p)) [.string gr.name, .int .i64 gr.acked] G.length p (by omega) (by rw [hct]; exact gflat_split G p) ht2 hd2 rfl (by omega)
  rw [← gflat_ins] at hsp
  have hsrc : ∀ j v, (gflat (G.drop p))[j]? = some v → w.cell? ((⟨g, p * 2, none⟩ : Addr).add j) = some v := by
    intro j v hj
    have hjl : j < (gflat (G.drop p)).length := (List.getElem?_eq_some_iff.1 hj).1
    have e : cur[p * 2 + j]? = some v := by
      have h1 : (cur.take (G.length * 2))[p * 2 + j]? = some v := by rw [hct, gflat_split G p, List.getElem?_append_right (by omega), ht2, Nat.add_sub_cancel_left]; exact hj
      rw [List.getElem?_take] at h1
      split at h1
      · exact h1
      · cases h1
    rw [add_none]; exact hB.cell e
  have hg1 : w.grownBy (w.drew.setRow g (splice cur ((p + 1) * 2) (gflat (G.drop p))).toArray) (some g) := ⟨rfl, rfl, rfl, Nat.le_of_eq (show w.drew.heap.size = (w.drew.setRow g _).heap.size by simp [World.setRow]), fun k hk hn => (setRow_other w.drew g k _ (fun e => hn (by rw [e])))⟩
  have hB1 := (hB.drew).setRow (splice cur ((p + 1) * 2) (gflat (G.drop p)))
  have hV1 := (hV.drew).row_far hne (splice cur ((p + 1) * 2) (gflat (G.drop p))).toArray
  have hl1 : (splice cur ((p + 1) * 2) (gflat (G.drop p))).length = cur.length := length_splice _ _ _ (by omega)
  have hcp1 : ∀ ty dc sc, (Builtin.copy_ #[24, 24] ty #[.slice (some ⟨g, (p + 1) * 2, none⟩) (G.length - p) dc, .slice (some ⟨g, p * 2, none⟩) (G.length + 1 - p) sc]).run Try.prog w.drew = .ok (goInt (Nat.min (G.length + 1 - p) (G.length - p))) (w.drew.setRow g (splice cur ((p + 1) * 2) (gflat (G.drop p))).toArray) := fun ty dc sc =>
    run_copy_grp w.drew ty g ((p + 1) * 2) (G.length - p) dc ⟨g, p * 2, none⟩ (G.length + 1 - p) sc cur _ hB.drew (by rw [hd2]; simp only [Nat.min_def]; split <;> omega) hsrc (by omega) (gflat_one _)
  generalize splice cur ((p + 1) * 2) (gflat (G.drop p)) = cur1 at hg1 hB1 hV1 hl1 hcp1 hsp
  generalize w.drew.setRow g cur1.toArray = W1 at hg1 hB1 hV1 hcp1
  have hsrc2 : ∀ j v, [Value.string gr.name, .int .i64 gr.acked][j]? = some v → W1.cell? ((⟨vb, 0, none⟩ : Addr).add j) = some v := by
    intro j v hj
    rw [add_none, Nat.zero_add]; exact hV1.cell hj
  have hg2 : w.grownBy (W1.setRow g (splice cur1 (p * 2) [.string gr.name, .int .i64 gr.acked]).toArray) (some g) := ⟨hg1.os, hg1.tape, hg1.output, Nat.le_trans hg1.size (Nat.le_of_eq (show W1.heap.size = (W1.setRow g _).heap.size by simp [World.setRow])), fun k hk hn => (setRow_other W1 g k _ (fun e => hn (by rw [e]))).trans (hg1.block k hk hn)⟩
  have hB2 := hB1.setRow (splice cur1 (p * 2) [.string gr.name, .int .i64 gr.acked])
  have hl2 : (splice cur1 (p * 2) [.string gr.name, .int .i64 gr.acked]).length = cur1.length := length_splice _ _ _ (by simp; omega)
  have hcp2 : ∀ ty dc sc, (Builtin.copy_ #[24, 24] ty #[.slice (some ⟨g, p * 2, none⟩) (G.length + 1 - p) dc, .slice (some ⟨vb, 0, none⟩) 1 sc]).run Try.prog W1 = .ok (goInt (Nat.min 1 (G.length + 1 - p))) (W1.setRow g (splice cur1 (p * 2) [.string gr.name, .int .i64 gr.acked]).toArray) := fun ty dc sc =>
    run_copy_grp W1 ty g (p * 2) (G.length + 1 - p) dc ⟨vb, 0, none⟩ 1 sc cur1 _ hB1 (by simp only [Nat.min_def, List.length_cons, List.length_nil]; split <;> omega) hsrc2 (by simp; omega) (by intro v hv; simp at hv; rcases hv with rfl | rfl <;> rfl)
  generalize splice cur1 (p * 2) [.string gr.name, .int .i64 gr.acked] = cur2 at hg2 hB2 hl2 hcp2 hsp
  generalize W1.setRow g cur2.toArray = W2 at hg2 hB2 hcp2
  have HF : Hid (InsO w base (some ⟨g, 0, none⟩) G p gr (.returned (.slice (some ⟨g, 0, none⟩) (G.length + 1) cap)) W2) := Lib.hid ⟨_, _, rfl, ⟨by rw [gflat_len, insAt_len G (by omega)], .inr ⟨g, cap, cur2.toArray, rfl, hbase, hB2, hroom, hcm', by simp; omega, by simpa using hsp⟩⟩, hg2⟩
  clear hsp hg1 hg2 hB1 hB2 hV1 hsrc hsrc2 hl1 hl2 hct hd2 ht2
  obtain ⟨n, HN⟩ : ∃ n, Hid (G.length = n) := ⟨_, Lib.hid rfl⟩
  rw [HN.out] at hp hl hroom hcp1 hcp2 HF ⊢
  have hp' : (p : Int) < (n : Int) := by omega
  have hz2 : ((p : Int) == (n : Int)) = false := by rw [beq_eq_false_iff_ne]; omega
  have hr' : ¬ ((cap : Int) < (n : Int) + 1) := by omega
  have hb2 : ¬ (cap = p + 1) := by omega
  have hb4 : ¬ (cap = p) := by omega
  have hw1 : IntKind.i64.wrap ((p : Int) + 1) = (p : Int) + 1 := IntWalk.i64_in _ (by omega)
  have hb1 : (0 : Int) ≤ (p : Int) + 1 := by omega
  have hb3 : (p : Int) + 1 ≤ (n : Int) + 1 := by omega
  have htn : ((p : Int) + 1).toNat = p + 1 := by omega
  have hb5 : (p : Int) ≤ (n : Int) + 1 := by omega
  go_enter Try.func115, Try.ntmps115
  go_wp2_with (simp only [hov])
  go_region_law (refine step_copy_runI rfl _ _ 24 24 rfl _ _ (by simp [Act.eval, Act.put]) (by simp [Act.eval, Act.put]) (hcp1 _ _ _) ?_)
  go_wp2_with (at_builtin; refine wpList_copy_runI _ rfl _ _ 24 24 rfl _ _ rfl rfl (hcp2 _ _ _) ?_)
  go_ret
  exact HF.out
theorem splice_grow {α : Type} (C X1 X2 V : List α) (n p : Nat) (hp : p ≤ n) (h1 : C.take (p * 2) = X1) (l1 : X1.length = p * 2) (l2 : X2.length = (n - p) * 2) (lv : V.length = 2) (hc : (n + 1) * 2 ≤ C.length) :
    (splice (splice C (p * 2) V) ((p + 1) * 2) X2).take ((n + 1) * 2) = X1 ++ V ++ X2 := by
  unfold splice
  rw [h1]
  have e2 : (X1 ++ (V ++ C.drop (p * 2 + V.length))).take ((p + 1) * 2) = X1 ++ V := by
    rw [← List.append_assoc]
    exact List.take_left' (by simp; omega)
  rw [e2, ← List.append_assoc]
  exact List.take_left' (by simp; omega)
set_option maxHeartbeats 2000000 in
theorem insert_grow (g cap p vb base : Nat) (G : List Grp) (gr : Grp) (cur : List Value) (w : World) (hp : p < G.length) (hl : G.length ≤ 3) (hle : G.length ≤ cap) (hroom : cap < G.length + 1) (hB : Blk w g 94 cur) (hcl : cur.length = cap * 2) (hct : cur.take (G.length * 2) = gflat G)
    (hV : Blk w vb 94 [.string gr.name, .int .i64 gr.acked]) (hbase : base ≤ w.heap.size) :
    Calls Try.prog 115 #[.slice (some ⟨g, 0, none⟩) G.length cap, .int .i64 p, .slice (some ⟨vb, 0, none⟩) 1 1] w (InsO w base (some ⟨g, 0, none⟩) G p gr) := by
  obtain ⟨i0, hi, hz0, hz1, hz2⟩ := info_parts infoGrp
  have hd2 : (gflat (G.drop p)).length = (G.length - p) * 2 := by rw [gflat_len, List.length_drop]
  have ht2 : (gflat (G.take p)).length = p * 2 := by rw [gflat_len, List.length_take]; omega
  have hgl := hB.lt
  have hvl := hV.lt
  have hcell : ∀ j v, (gflat G)[j]? = some v → w.cell? ⟨g, j, none⟩ = some v := by
    intro j v hj
    have h1 : (cur.take (G.length * 2))[j]? = some v := by rw [hct]; exact hj
    rw [List.getElem?_take] at h1
    split at h1
    · exact hB.cell h1
    · cases h1
  have hold : (Builtin.firstCells i0.size p (.slice (some ⟨g, 0, none⟩) p cap)).run Try.prog w.drew = .ok (gflat (G.take p)).toArray w.drew := by
    rw [hz1]
    refine run_firstCells_some w.drew 2 p ⟨g, 0, none⟩ p cap (gflat (G.take p)) ht2 (fun j v hj => ?_)
    have hjl : j < (gflat (G.take p)).length := (List.getElem?_eq_some_iff.1 hj).1
    rw [add_none, Nat.zero_add]
    exact hcell j v (by rw [gflat_split G p, List.getElem?_append_left hjl]; exact hj)
  have hik : p + (G.length + 1 - p) = G.length + 1 := by omega
  have hkk : (G.length : Int) + 1 - (p : Int) = ((G.length + 1 - p : Nat) : Int) := by omega
  have hrz : ∀ ty, (Builtin.append_ #[24, 3] ty #[.slice (some ⟨g, 0, none⟩) p cap, .int .i64 ((G.length : Int) + 1 - (p : Int))]).run Try.prog w =
      .ok (.slice (some ⟨w.heap.size, 0, none⟩) (G.length + 1) (grownCap w (G.length + 1) cap 94)) (w.drew.alloc (.cells ((gflat (G.take p)).toArray ++ Builtin.zeroCells (Value.agg #[.string ⟨#[]⟩, .int .i64 0]).cells (G.length + 1 - p) ++ Builtin.zeroCells (Value.agg #[.string ⟨#[]⟩, .int .i64 0]).cells (grownCap w (G.length + 1) cap 94 - (G.length + 1))) 94)) := fun ty => by
    have h := Lib.run_append_grow_zeros w 24 3 ty 94 i0 _ .i64 .i64 Try.underlying24 Try.underlying3 hi hz0 (some ⟨g, 0, none⟩) p cap (gflat (G.take p)) hold (G.length + 1 - p) (by omega) (by omega) (by omega) (by omega) (by rw [hz2]; omega) (by rw [hz2, hik]; exact growslice_fits hroom (by omega))
    rw [hik] at h
    rw [hkk]
    exact h
  have hGn : G.length + 1 ≤ grownCap w (G.length + 1) cap 94 := grownCap_ge w _ _ _
  have hGm : grownCap w (G.length + 1) cap 94 ≤ maxLen := grownCap_le_maxLen w (G.length + 1) cap 94 (by unfold maxLen; omega)
  generalize grownCap w (G.length + 1) cap 94 = K at hrz hGn hGm
  obtain ⟨ROW, hROW⟩ : ∃ ROW : List Value, ROW = ((gflat (G.take p)).toArray ++ Builtin.zeroCells (Value.agg #[.string ⟨#[]⟩, .int .i64 0]).cells (G.length + 1 - p) ++ Builtin.zeroCells (Value.agg #[.string ⟨#[]⟩, .int .i64 0]).cells (K - (G.length + 1))).toList := ⟨_, rfl⟩
  have hROW2 : ((gflat (G.take p)).toArray ++ Builtin.zeroCells (Value.agg #[.string ⟨#[]⟩, .int .i64 0]).cells (G.length + 1 - p) ++ Builtin.zeroCells (Value.agg #[.string ⟨#[]⟩, .int .i64 0]).cells (K - (G.length + 1))) = ROW.toArray := by rw [hROW]
  rw [hROW2] at hrz
  have hRl : ROW.length = K * 2 := by
    rw [hROW]
    simp [Builtin.zeroCells, Value.cells, ht2]
    omega
  have hRt : ROW.take (p * 2) = gflat (G.take p) := by
    rw [hROW]
    simp only [Array.toList_append, List.append_assoc]
    exact List.take_left' ht2
  clear hROW hROW2 hold
  have hb1 : Below w.heap.size w (w.drew.alloc (.cells ROW.toArray 94)) := (below_drew (Below.refl _ w)).alloc (Nat.le_refl _) _
  have hN : Blk (w.drew.alloc (.cells ROW.toArray 94)) w.heap.size 94 ROW := Blk.fresh w.drew 94 ROW
  generalize w.drew.alloc (.cells ROW.toArray 94) = W1 at hrz hb1 hN
  obtain ⟨N, HN0⟩ : ∃ N, Hid (w.heap.size = N) := ⟨_, Lib.hid rfl⟩
  have hNl : g < N ∧ vb < N ∧ base ≤ N := by rw [← HN0.out]; exact ⟨hgl, hvl, hbase⟩
  have hV1 := hV.below hb1 hvl
  have hcell1 : ∀ j v, (gflat G)[j]? = some v → W1.cell? ⟨g, j, none⟩ = some v := fun j v hj => kept_cell hb1 (hcell j v hj)
  rw [HN0.out] at hrz hN hb1
  have hsrcA : ∀ j v, [Value.string gr.name, .int .i64 gr.acked][j]? = some v → W1.cell? ((⟨vb, 0, none⟩ : Addr).add j) = some v := by
    intro j v hj
    rw [add_none, Nat.zero_add]; exact hV1.cell hj
  have hcpA : ∀ ty dc sc, (Builtin.copy_ #[24, 24] ty #[.slice (some ⟨N, p * 2, none⟩) (G.length + 1 - p) dc, .slice (some ⟨vb, 0, none⟩) 1 sc]).run Try.prog W1 = .ok (goInt (Nat.min 1 (G.length + 1 - p))) (W1.setRow N (splice ROW (p * 2) [.string gr.name, .int .i64 gr.acked]).toArray) := fun ty dc sc =>
    run_copy_grp W1 ty N (p * 2) (G.length + 1 - p) dc ⟨vb, 0, none⟩ 1 sc ROW _ hN (by simp only [Nat.min_def, List.length_cons, List.length_nil]; split <;> omega) hsrcA (by simp <;> omega) (by intro v hv; simp at hv; rcases hv with rfl | rfl <;> rfl)
  have hsp := splice_grow ROW (gflat (G.take p)) (gflat (G.drop p)) [.string gr.name, .int .i64 gr.acked] G.length p (by omega) hRt ht2 hd2 rfl (by omega)
  rw [← gflat_ins] at hsp
  have hN2 := hN.setRow (splice ROW (p * 2) [.string gr.name, .int .i64 gr.acked])
  have hl1 : (splice ROW (p * 2) [.string gr.name, .int .i64 gr.acked]).length = ROW.length := length_splice _ _ _ (by simp <;> omega)
  have hb2 := below_setRow hb1 (Nat.le_refl N) (splice ROW (p * 2) [.string gr.name, .int .i64 gr.acked]).toArray
  have hcell2 : ∀ j v, (gflat G)[j]? = some v → (W1.setRow N (splice ROW (p * 2) [.string gr.name, .int .i64 gr.acked]).toArray).cell? ⟨g, j, none⟩ = some v := fun j v hj => by
    rw [← hcell1 j v hj]; exact World.cell?_of_block (setRow_other W1 N g _ (by omega))
  generalize splice ROW (p * 2) [.string gr.name, .int .i64 gr.acked] = cur1 at hcpA hsp hN2 hl1 hb2 hcell2
  generalize W1.setRow N cur1.toArray = W2 at hcpA hN2 hb2 hcell2
  have hsrcB : ∀ j v, (gflat (G.drop p))[j]? = some v → W2.drew.cell? ((⟨g, p * 2, none⟩ : Addr).add j) = some v := by
    intro j v hj
    rw [add_none]
    exact hcell2 (p * 2 + j) v (by rw [gflat_split G p, List.getElem?_append_right (by omega), ht2, Nat.add_sub_cancel_left]; exact hj)
  have hcpB : ∀ ty dc sc, (Builtin.copy_ #[24, 24] ty #[.slice (some ⟨N, (p + 1) * 2, none⟩) (G.length - p) dc, .slice (some ⟨g, p * 2, none⟩) (G.length - p) sc]).run Try.prog W2.drew = .ok (goInt (Nat.min (G.length - p) (G.length - p))) (W2.drew.setRow N (splice cur1 ((p + 1) * 2) (gflat (G.drop p))).toArray) := fun ty dc sc =>
    run_copy_grp W2.drew ty N ((p + 1) * 2) (G.length - p) dc ⟨g, p * 2, none⟩ (G.length - p) sc cur1 _ hN2.drew (by rw [hd2]; simp only [Nat.min_def]; split <;> omega) hsrcB (by omega) (gflat_one _)
  have hN3 := (hN2.drew).setRow (splice cur1 ((p + 1) * 2) (gflat (G.drop p)))
  have hl3 : (splice cur1 ((p + 1) * 2) (gflat (G.drop p))).length = cur1.length := length_splice _ _ _ (by omega)
  have hb3 := below_setRow (below_drew hb2) (Nat.le_refl N) (splice cur1 ((p + 1) * 2) (gflat (G.drop p))).toArray
  generalize splice cur1 ((p + 1) * 2) (gflat (G.drop p)) = cur2 at hcpB hsp hN3 hl3 hb3
  generalize W2.drew.setRow N cur2.toArray = W3 at hcpB hN3 hb3
  rw [← HN0.out] at hb3
  have HF : Hid (InsO w base (some ⟨g, 0, none⟩) G p gr (.returned (.slice (some ⟨N, 0, none⟩) (G.length + 1) K)) W3) := Lib.hid ⟨_, _, rfl, ⟨by rw [gflat_len, insAt_len G (by omega)], .inr ⟨N, K, cur2.toArray, rfl, hNl.2.2, hN3, hGn, hGm, by simp <;> omega, by simpa using hsp⟩⟩, ⟨hb3.os, hb3.tape, hb3.output, hb3.size, fun k hk _ => hb3.block k hk⟩⟩
  clear hsp hb1 hb2 hb3 hN hN2 hN3 hV1 hsrcA hsrcB hl1 hl3 hct hd2 ht2 hcell hcell1 hcell2 hRl hRt hik hkk hi hz0 hz1 hz2
  obtain ⟨n, HN⟩ : ∃ n, Hid (G.length = n) := ⟨_, Lib.hid rfl⟩
  rw [HN.out] at hp hl hle hroom hcpA hcpB HF hrz hGn ⊢
  obtain rfl : cap = n := by omega
  unfold maxLen at hGm
  have hp' : (p : Int) < (cap : Int) := by omega
  have hz2 : ((p : Int) == (cap : Int)) = false := by rw [beq_eq_false_iff_ne]; omega
  have hr' : (cap : Int) < (cap : Int) + 1 := by omega
  have hc2 : ¬ (cap = p) := by omega
  have hk2 : ¬ (K = p + 1) := by omega
  have hk4 : ¬ (K = p) := by omega
  have hw1 : IntKind.i64.wrap ((p : Int) + 1) = (p : Int) + 1 := IntWalk.i64_in _ (by omega)
  have hb1 : (0 : Int) ≤ (p : Int) + 1 := by omega
  have hb3 : (p : Int) + 1 ≤ (cap : Int) + 1 := by omega
  have htn : ((p : Int) + 1).toNat = p + 1 := by omega
  have hb5 : (p : Int) ≤ (cap : Int) + 1 := by omega
  have hb6 : (p : Int) ≤ (cap : Int) := by omega
  go_enter Try.func115, Try.ntmps115
  go_wp2_with (first
    | (at_builtin; refine Lib.wpList_append_run _ rfl _ _ _ _ rfl _ _ rfl rfl _ _ (hrz _) ?_)
    | (at_builtin; refine wpList_copy_runI _ rfl _ _ 24 24 rfl _ _ rfl rfl (hcpA _ _ _) ?_))
  go_region_law (refine step_copy_runI rfl _ _ 24 24 rfl _ _ (by simp [Act.eval, Act.put]) (by simp [Act.eval, Act.put]) (hcpB _ _ _) ?_)
  go_wp2
  go_ret
  exact HF.out
theorem insert_any (B : Option Addr) (G : List Grp) (b p vb base : Nat) (gr : Grp) (w : World) (hG : OwnG w base (.slice B G.length b) G) (hl : G.length ≤ 3) (hp : p ≤ G.length) (hV : Blk w vb 94 [.string gr.name, .int .i64 gr.acked]) (hne : ∀ k, B.map (·.block) = some k → vb ≠ k) (hbase : base ≤ w.heap.size) :
    Calls Try.prog 115 #[.slice B G.length b, .int .i64 p, .slice (some ⟨vb, 0, none⟩) 1 1] w (InsO w base B G p gr) := by
  by_cases hpn : p = G.length
  · subst hpn
    exact insert_end B G b vb base gr w hG hl hV hbase
  · rcases hG.2 with ⟨he, h0⟩ | ⟨g, cap, cur, he, hb, hg, hle, hm, hs, ht⟩
    · omega
    · injection he with e1 e2 e3
      subst e1 e3
      have hB : Blk w g 94 cur.toList := by unfold Blk; simpa using hg
      by_cases hr : G.length + 1 ≤ b
      · exact insert_room g b p vb base G gr cur.toList w (by omega) hl hr hm hB (by simpa using hs) ht hV (hne g rfl) hb
      · exact insert_grow g b p vb base G gr cur.toList w (by omega) hl hle (by omega) hB (by simpa using hs) ht hV hbase
end Go.Proofs.Ytjnbhppnchmeoaa

namespace Go.Proofs.Ytjnbhppnchmeoaa
open Go.RowKit Go.Deep
set_option linter.unusedVariables false
set_option maxRecDepth 1000000
/-- What an operation of a group answers. -/
noncomputable def forA (t : Tpc) (s : ByteArray) (R : Ans) : Ans := if isG t.groups s = false ∧ 4 ≤ t.groups.length then ill 9 else R
theorem OpPost.after {lo p : Nat} {s : ByteArray} {n : Int} {R : Ans} {w W w' : World} {e : Ending} (hb : Below lo w W) (hk : ∀ g cs, g ≠ p → Blk w g 30 cs → Blk W g 30 cs) (h : OpPost lo p s n R W e w') (hl : lo ≤ w.heap.size) : OpPost lo p s n R w e w' :=
  ⟨hb.trans h.1, fun g cs hg q => h.2.1 g cs hg (hk g cs hg q), h.2.2⟩
theorem blk_ne {w : World} {g h : Nat} {t t' : TypeId} {cs ds : List Value} (h1 : Blk w g t cs) (h2 : Blk w h t' ds) (ht : t ≠ t') : g ≠ h := by
  intro e
  subst e
  unfold Blk at h1 h2
  rw [h1] at h2
  injection h2 with h2
  injection h2 with _ h5 _
  exact ht h5
theorem far2 {W : World} {b c i : Nat} {u0 u1 v : Value} (hne : c ≠ b) (h : W.cell? ⟨c, i, none⟩ = some v) : ((W.setCell ⟨b, 0, none⟩ u0).setCell ⟨b, 1, none⟩ u1).cell? ⟨c, i, none⟩ = some v :=
  cell_put_far (cell_put_far h hne _) hne _
/-- What lies there once the new group is made. -/
def AdCut (w : World) (nm : ByteArray) (bs : Int) (y : Value) (wx : World) : Prop := ∃ W b, W = wx ∧ y = .pointer (some ⟨b, 0, none⟩) ∧ w.heap.size ≤ b ∧ Blk wx b 94 [.string nm, .int .i64 bs] ∧ Below w.heap.size w wx
theorem AdCut.of {w W : World} {b : Nat} {nm : ByteArray} {bs : Int} {u0 u1 : Value} (hZ : Blk W b 94 [u0, u1]) (hb : Below w.heap.size w W) (hbb : w.heap.size ≤ b) : AdCut w nm bs (.pointer (some ⟨b, 0, none⟩)) ((W.setCell ⟨b, 0, none⟩ (.string nm)).setCell ⟨b, 1, none⟩ (.int .i64 bs)) :=
  ⟨_, b, rfl, rfl, hbb, (hZ.put 0 (.string nm)).put 1 (.int .i64 bs), (hb.setCell (p := ⟨b, 0, none⟩) hbb _).setCell (p := ⟨b, 1, none⟩) hbb _⟩
theorem AdCut.late {w W : World} {nm : ByteArray} {bs : Int} (hb : Below w.heap.size w W) : AdCut w nm bs (.pointer (some ⟨W.heap.size, 0, none⟩)) (W.alloc (.cells #[.string nm, .int .i64 bs] 94)) :=
  ⟨_, W.heap.size, rfl, rfl, hb.size, Blk.fresh W 94 [.string nm, .int .i64 bs], hb.alloc hb.size _⟩
/-- What lies there once the group is added. -/
def InCut (w : World) (lo p b5 b9 : Nat) (nm : ByteArray) (bs : Int) (H : List ByteArray) (A : Option Addr) (a : Nat) (s : ByteArray) (n : Int) (opf : FuncId) (L : List Grp) (wx : World) : Prop :=
  ∃ W bg b', W = wx ∧ Blk W p 83 [.string nm, .int .i64 bs, .slice A H.length a, .slice (some ⟨bg, 0, none⟩) L.length b', .string s, .int .i64 n, .slice none 0 0, .int .i64 0] ∧ W.ownsRow lo 94 2 (.slice (some ⟨bg, 0, none⟩) L.length b') L.length (gflat L) ∧ OwnS W lo (.slice A H.length a) H ∧
    Blk W b5 126 [.pointer (some ⟨p, 0, none⟩)] ∧ Blk W b9 97 [.func (.func opf) #[.pointer (some ⟨p, 0, none⟩)] #[]] ∧ Below lo w W ∧ ∀ g cs, g ≠ p → Blk w g 30 cs → Blk W g 30 cs
end Go.Proofs.Ytjnbhppnchmeoaa

namespace Go.Proofs.Ytjnbhppnchmeoaa
open Go.RowKit Go.Deep
set_option linter.unusedVariables false
set_option maxRecDepth 1000000
/-- What runFor answers. -/
noncomputable def rfR (t : Tpc) (g : ByteArray) (r : Bool) (R : Ans) : Ans := if 20000 < g.size then ill 2 else runR t (r && nameB g) (forA t g R)
theorem forR_eq (t : Tpc) (g : ByteArray) (r : Bool) (R : Ans) : forR t g r R = rfR t g r R := by
  unfold forR rfR runR forA begC
  by_cases h1 : 20000 < g.size
  · simp [h1]
  · simp only [if_neg h1]
    rw [Bool.and_comm (nameB g) r]
    by_cases h2 : (topB t && (r && nameB g)) = false
    · simp [h2]
    · simp only [if_neg h2]
      by_cases h3 : isG t.groups g = false ∧ 4 ≤ t.groups.length
      · simp [h3]
      · simp only [if_neg h3]; simp
theorem for_out {lo hi : Nat} {w w9 : World} {on : ByteArray} {ob rn co : Int} {oH N : List ByteArray} {oG : List Grp} {A9 B9 T9 : Option Addr} {a9 b9 x9 : Nat} (hsz : hi ≤ w9.heap.size) (rA : Sl w9 lo hi 9 A9 (oH.map Value.string)) (rB : Sl w9 lo hi 94 B9 (gflat oG)) (rT : Sl w9 lo hi 9 T9 (N.map Value.string)) (hap : Apart A9 T9) (cA : Cap A9 oH.length a9) (cB : Cap B9 oG.length b9) (hb : Below lo w w9) :
    RunO lo w w9 (.returned (outV on ob (.slice A9 oH.length a9) (.slice B9 oG.length b9) (.slice T9 N.length x9) rn co)) ⟨⟨on, ob, oH, oG⟩, N, rn, co⟩ :=
  ⟨A9, a9, B9, b9, T9, x9, rfl, rA.wide (Nat.le_refl _) hsz, rB.wide (Nat.le_refl _) hsz, rT.wide (Nat.le_refl _) hsz, hap, cA, cB, hb⟩
theorem rf_long {t : Tpc} {g : ByteArray} {r : Bool} {R : Ans} (h : 20000 < g.size) : rfR t g r R = ill 2 := by unfold rfR; rw [if_pos h]
theorem rf_run {t : Tpc} {g : ByteArray} {r : Bool} {R : Ans} (h : ¬ 20000 < g.size) : rfR t g r R = runR t (r && nameB g) (forA t g R) := by unfold rfR; rw [if_neg h]
set_option maxHeartbeats 8000000 in
theorem runFor2_any (t : Tpc) (gn s : ByteArray) (n : Int) (r : Bool) (R0 : Ans) (opf : FuncId) (lo p : Nat) (A : Option Addr) (c : Nat) (B : Option Addr) (d : Nat) (w : World) (hf : t.fits) (hsm : t.small) (hgs : gn.size ≤ maxLen) (hA : Strs w w.heap.size A t.held) (hB : Grs w w.heap.size B t.groups) (hp : lo ≤ p)
    (CL : ∀ W b5 b7 b9 A2 a2 B2 b2, Wk W lo p t s n A2 a2 B2 b2 → topOK t → r = true → gn.size ≤ 20000 → Blk W b5 126 [.pointer (some ⟨p, 0, none⟩)] → Blk W b7 9 [.string gn] → Blk W b9 97 [.func (.func opf) #[.pointer (some ⟨p, 0, none⟩)] #[]] → Calls Try.prog 114 #[.pointer (some ⟨b5, 0, none⟩), .pointer (some ⟨b7, 0, none⟩), .pointer (some ⟨b9, 0, none⟩)] W (OpPost lo p s n (forA t gn R0) W))
    (P : Blk w p 83 [.string ⟨#[]⟩, .int .i64 0, .slice none 0 0, .slice none 0 0, .string s, .int .i64 n, .slice none 0 0, .int .i64 0]) :
    Calls Try.prog 71 #[.pointer (some ⟨p, 0, none⟩), topV t.name t.base (.slice A t.held.length c) (.slice B t.groups.length d), .string gn, .bool r, .func (.func opf) #[.pointer (some ⟨p, 0, none⟩)] #[]] w fun e w' => RunO lo w w' e (rfR t gn r R0) ∧ Kp w w' p := by
  have hlow : lo ≤ w.heap.size := Nat.le_trans hp (Nat.le_of_lt P.lt)
  have hplt := P.lt
  have TL := fun w => tooLong_any gn w hgs
  have RN0 := Lib.hid (fun (hg : gn.size ≤ 20000) W b5 b7 b9 (h : Below w.heap.size w W) (hP : Blk W p 83 [.string ⟨#[]⟩, .int .i64 0, .slice none 0 0, .slice none 0 0, .string s, .int .i64 n, .slice none 0 0, .int .i64 0]) (h5 : Blk W b5 126 [.pointer (some ⟨p, 0, none⟩)]) (h7 : Blk W b7 9 [.string gn]) (h9 : Blk W b9 97 [.func (.func opf) #[.pointer (some ⟨p, 0, none⟩)] #[]]) (n5 : b5 ≠ p) (n7 : b7 ≠ p) (n9 : b9 ≠ p) =>
    runFor_any t s n (r && nameB gn) (forA t gn R0) lo p A c B d W hf hsm (hA.on h) (hB.on h) hp b5 b7 b9 (fun W' A2 a2 B2 b2 k ho hr hw => CL W' b5 b7 b9 A2 a2 B2 b2 hw ho (by simp at hr; exact hr.1) hg (k.blk h5 n5) (k.blk h7 n7) (k.blk h9 n9)) hP)
  clear CL
  have RL := Lib.hid (rf_long (t := t) (g := gn) (r := r) (R := R0))
  have RR := Lib.hid (rf_run (t := t) (g := gn) (r := r) (R := R0))
  obtain ⟨R, HR0⟩ : ∃ x, Hid (rfR t gn r R0 = x) := ⟨_, Lib.hid rfl⟩
  rw [HR0.out] at RL RR ⊢
  obtain ⟨nm, bs, H, G⟩ := t
  simp only at RN0 hA hB ⊢
  have K5 := ((((Blk.fresh w 126 [.pointer (some ⟨p, 0, none⟩)]).alloc (.cells #[.string nm, .int .i64 bs, .slice A H.length c, .slice B G.length d] 26)).alloc (.cells #[.string gn] 9)).alloc (.cells #[.func (.func opf) #[.pointer (some ⟨p, 0, none⟩)] #[]] 97)).alloc (.cells #[.string ⟨#[]⟩, .int .i64 0, .slice none 0 0, .slice none 0 0, .slice none 0 0, .int .i64 0, .int .i64 0] 30)
  have K6 := (((Blk.fresh (w.alloc (.cells #[.pointer (some ⟨p, 0, none⟩)] 126)) 26 [.string nm, .int .i64 bs, .slice A H.length c, .slice B G.length d]).alloc (.cells #[.string gn] 9)).alloc (.cells #[.func (.func opf) #[.pointer (some ⟨p, 0, none⟩)] #[]] 97)).alloc (.cells #[.string ⟨#[]⟩, .int .i64 0, .slice none 0 0, .slice none 0 0, .slice none 0 0, .int .i64 0, .int .i64 0] 30)
  have K7 := ((Blk.fresh ((w.alloc (.cells #[.pointer (some ⟨p, 0, none⟩)] 126)).alloc (.cells #[.string nm, .int .i64 bs, .slice A H.length c, .slice B G.length d] 26)) 9 [.string gn]).alloc (.cells #[.func (.func opf) #[.pointer (some ⟨p, 0, none⟩)] #[]] 97)).alloc (.cells #[.string ⟨#[]⟩, .int .i64 0, .slice none 0 0, .slice none 0 0, .slice none 0 0, .int .i64 0, .int .i64 0] 30)
  have K9 := (Blk.fresh (((w.alloc (.cells #[.pointer (some ⟨p, 0, none⟩)] 126)).alloc (.cells #[.string nm, .int .i64 bs, .slice A H.length c, .slice B G.length d] 26)).alloc (.cells #[.string gn] 9)) 97 [.func (.func opf) #[.pointer (some ⟨p, 0, none⟩)] #[]]).alloc (.cells #[.string ⟨#[]⟩, .int .i64 0, .slice none 0 0, .slice none 0 0, .slice none 0 0, .int .i64 0, .int .i64 0] 30)
  have O := Blk.fresh ((((w.alloc (.cells #[.pointer (some ⟨p, 0, none⟩)] 126)).alloc (.cells #[.string nm, .int .i64 bs, .slice A H.length c, .slice B G.length d] 26)).alloc (.cells #[.string gn] 9)).alloc (.cells #[.func (.func opf) #[.pointer (some ⟨p, 0, none⟩)] #[]] 97)) 30 [.string ⟨#[]⟩, .int .i64 0, .slice none 0 0, .slice none 0 0, .slice none 0 0, .int .i64 0, .int .i64 0]
  have hbw : Below w.heap.size w (((((w.alloc (.cells #[.pointer (some ⟨p, 0, none⟩)] 126)).alloc (.cells #[.string nm, .int .i64 bs, .slice A H.length c, .slice B G.length d] 26)).alloc (.cells #[.string gn] 9)).alloc (.cells #[.func (.func opf) #[.pointer (some ⟨p, 0, none⟩)] #[]] 97)).alloc (.cells #[.string ⟨#[]⟩, .int .i64 0, .slice none 0 0, .slice none 0 0, .slice none 0 0, .int .i64 0, .int .i64 0] 30)) := ((((((Below.refl w.heap.size w).alloc (by simp <;> omega) (.cells #[.pointer (some ⟨p, 0, none⟩)] 126)).alloc (by simp <;> omega) (.cells #[.string nm, .int .i64 bs, .slice A H.length c, .slice B G.length d] 26)).alloc (by simp <;> omega) (.cells #[.string gn] 9)).alloc (by simp <;> omega) (.cells #[.func (.func opf) #[.pointer (some ⟨p, 0, none⟩)] #[]] 97)).alloc (by simp <;> omega) (.cells #[.string ⟨#[]⟩, .int .i64 0, .slice none 0 0, .slice none 0 0, .slice none 0 0, .int .i64 0, .int .i64 0] 30))
  have kp := ((((((Kp.refl w p).alloc (.cells #[.pointer (some ⟨p, 0, none⟩)] 126)).alloc (.cells #[.string nm, .int .i64 bs, .slice A H.length c, .slice B G.length d] 26)).alloc (.cells #[.string gn] 9)).alloc (.cells #[.func (.func opf) #[.pointer (some ⟨p, 0, none⟩)] #[]] 97)).alloc (.cells #[.string ⟨#[]⟩, .int .i64 0, .slice none 0 0, .slice none 0 0, .slice none 0 0, .int .i64 0, .int .i64 0] 30))
  replace P := (((((P.alloc (.cells #[.pointer (some ⟨p, 0, none⟩)] 126)).alloc (.cells #[.string nm, .int .i64 bs, .slice A H.length c, .slice B G.length d] 26)).alloc (.cells #[.string gn] 9)).alloc (.cells #[.func (.func opf) #[.pointer (some ⟨p, 0, none⟩)] #[]] 97)).alloc (.cells #[.string ⟨#[]⟩, .int .i64 0, .slice none 0 0, .slice none 0 0, .slice none 0 0, .int .i64 0, .int .i64 0] 30))
  simp only [World.size_alloc] at K5 K6 K7 K9 O
  replace K5 : Blk (((((w.alloc (.cells #[.pointer (some ⟨p, 0, none⟩)] 126)).alloc (.cells #[.string nm, .int .i64 bs, .slice A H.length c, .slice B G.length d] 26)).alloc (.cells #[.string gn] 9)).alloc (.cells #[.func (.func opf) #[.pointer (some ⟨p, 0, none⟩)] #[]] 97)).alloc (.cells #[.string ⟨#[]⟩, .int .i64 0, .slice none 0 0, .slice none 0 0, .slice none 0 0, .int .i64 0, .int .i64 0] 30)) (w.heap.size) 126 [.pointer (some ⟨p, 0, none⟩)] := K5
  replace K6 : Blk (((((w.alloc (.cells #[.pointer (some ⟨p, 0, none⟩)] 126)).alloc (.cells #[.string nm, .int .i64 bs, .slice A H.length c, .slice B G.length d] 26)).alloc (.cells #[.string gn] 9)).alloc (.cells #[.func (.func opf) #[.pointer (some ⟨p, 0, none⟩)] #[]] 97)).alloc (.cells #[.string ⟨#[]⟩, .int .i64 0, .slice none 0 0, .slice none 0 0, .slice none 0 0, .int .i64 0, .int .i64 0] 30)) (w.heap.size + 1) 26 [.string nm, .int .i64 bs, .slice A H.length c, .slice B G.length d] := K6
  replace K7 : Blk (((((w.alloc (.cells #[.pointer (some ⟨p, 0, none⟩)] 126)).alloc (.cells #[.string nm, .int .i64 bs, .slice A H.length c, .slice B G.length d] 26)).alloc (.cells #[.string gn] 9)).alloc (.cells #[.func (.func opf) #[.pointer (some ⟨p, 0, none⟩)] #[]] 97)).alloc (.cells #[.string ⟨#[]⟩, .int .i64 0, .slice none 0 0, .slice none 0 0, .slice none 0 0, .int .i64 0, .int .i64 0] 30)) (w.heap.size + 1 + 1) 9 [.string gn] := K7
  replace K9 : Blk (((((w.alloc (.cells #[.pointer (some ⟨p, 0, none⟩)] 126)).alloc (.cells #[.string nm, .int .i64 bs, .slice A H.length c, .slice B G.length d] 26)).alloc (.cells #[.string gn] 9)).alloc (.cells #[.func (.func opf) #[.pointer (some ⟨p, 0, none⟩)] #[]] 97)).alloc (.cells #[.string ⟨#[]⟩, .int .i64 0, .slice none 0 0, .slice none 0 0, .slice none 0 0, .int .i64 0, .int .i64 0] 30)) (w.heap.size + 1 + 1 + 1) 97 [.func (.func opf) #[.pointer (some ⟨p, 0, none⟩)] #[]] := K9
  replace O : Blk (((((w.alloc (.cells #[.pointer (some ⟨p, 0, none⟩)] 126)).alloc (.cells #[.string nm, .int .i64 bs, .slice A H.length c, .slice B G.length d] 26)).alloc (.cells #[.string gn] 9)).alloc (.cells #[.func (.func opf) #[.pointer (some ⟨p, 0, none⟩)] #[]] 97)).alloc (.cells #[.string ⟨#[]⟩, .int .i64 0, .slice none 0 0, .slice none 0 0, .slice none 0 0, .int .i64 0, .int .i64 0] 30)) (w.heap.size + 1 + 1 + 1 + 1) 30 [.string ⟨#[]⟩, .int .i64 0, .slice none 0 0, .slice none 0 0, .slice none 0 0, .int .i64 0, .int .i64 0] := O
  have hz : w.heap.size + 1 + 1 + 1 + 1 < (((((w.alloc (.cells #[.pointer (some ⟨p, 0, none⟩)] 126)).alloc (.cells #[.string nm, .int .i64 bs, .slice A H.length c, .slice B G.length d] 26)).alloc (.cells #[.string gn] 9)).alloc (.cells #[.func (.func opf) #[.pointer (some ⟨p, 0, none⟩)] #[]] 97)).alloc (.cells #[.string ⟨#[]⟩, .int .i64 0, .slice none 0 0, .slice none 0 0, .slice none 0 0, .int .i64 0, .int .i64 0] 30)).heap.size := O.lt
  have hb := hbw.mono hlow
  by_cases h1 : 20000 < gn.size
  · have HR := Lib.hid (RL.out h1)
    have hd : decide (20000 < gn.size) = true := by simpa using h1
    rw [hd] at TL
    clear h1 hd
    go_enter Try.func71, Try.ntmps71
    go_wp2_with (fail)
    generalize ((((w.alloc (.cells #[.pointer (some ⟨p, 0, none⟩)] 126)).alloc (.cells #[.string nm, .int .i64 bs, .slice A H.length c, .slice B G.length d] 26)).alloc (.cells #[.string gn] 9)).alloc (.cells #[.func (.func opf) #[.pointer (some ⟨p, 0, none⟩)] #[]] 97)).alloc (.cells #[.string ⟨#[]⟩, .int .i64 0, .slice none 0 0, .slice none 0 0, .slice none 0 0, .int .i64 0, .int .i64 0] 30) = v0 at K5 K6 K7 K9 O P hbw hb kp hz ⊢
    have kq0 := K7.cell (i := 0) rfl
    go_wp2_with (fail)
    refine (TL _).mono ?_
    rintro e w1 ⟨rfl, rfl⟩
    clear kq0
    have qc0 := O.cell (i := 0) rfl
    have qf0 := O.froz 0
    have qc1 := O.cell (i := 1) rfl
    have qf1 := O.froz 1
    have qc2 := O.cell (i := 2) rfl
    have qf2 := O.froz 2
    have qc3 := O.cell (i := 3) rfl
    have qf3 := O.froz 3
    have qc4 := O.cell (i := 4) rfl
    have qf4 := O.froz 4
    have qc5 := O.cell (i := 5) rfl
    have qf5 := O.froz 5
    have qc6 := O.cell (i := 6) rfl
    have qf6 := O.froz 6
    go_wp2
    clear qc0 qf0 qc1 qf1 qc2 qf2 qc3 qf3 qc4 qf4 qc5 qf5 qc6 qf6
    have O9 := (((((((O.put 0 (.string ⟨#[]⟩)).put 1 (.int .i64 0)).put 2 (.slice none 0 0)).put 3 (.slice none 0 0)).put 4 (.slice none 0 0)).put 5 (.int .i64 0)).put 6 (.int .i64 2))
    have hb9 := (((((((hb.setCell (p := ⟨w.heap.size + 1 + 1 + 1 + 1, 0, none⟩) (by simp <;> omega) (.string ⟨#[]⟩)).setCell (p := ⟨w.heap.size + 1 + 1 + 1 + 1, 1, none⟩) (by simp <;> omega) (.int .i64 0)).setCell (p := ⟨w.heap.size + 1 + 1 + 1 + 1, 2, none⟩) (by simp <;> omega) (.slice none 0 0)).setCell (p := ⟨w.heap.size + 1 + 1 + 1 + 1, 3, none⟩) (by simp <;> omega) (.slice none 0 0)).setCell (p := ⟨w.heap.size + 1 + 1 + 1 + 1, 4, none⟩) (by simp <;> omega) (.slice none 0 0)).setCell (p := ⟨w.heap.size + 1 + 1 + 1 + 1, 5, none⟩) (by simp <;> omega) (.int .i64 0)).setCell (p := ⟨w.heap.size + 1 + 1 + 1 + 1, 6, none⟩) (by simp <;> omega) (.int .i64 2))
    have kp9 := (((((((kp.put ⟨w.heap.size + 1 + 1 + 1 + 1, 0, none⟩ (.inr (by simp <;> omega)) (.string ⟨#[]⟩)).put ⟨w.heap.size + 1 + 1 + 1 + 1, 1, none⟩ (.inr (by simp <;> omega)) (.int .i64 0)).put ⟨w.heap.size + 1 + 1 + 1 + 1, 2, none⟩ (.inr (by simp <;> omega)) (.slice none 0 0)).put ⟨w.heap.size + 1 + 1 + 1 + 1, 3, none⟩ (.inr (by simp <;> omega)) (.slice none 0 0)).put ⟨w.heap.size + 1 + 1 + 1 + 1, 4, none⟩ (.inr (by simp <;> omega)) (.slice none 0 0)).put ⟨w.heap.size + 1 + 1 + 1 + 1, 5, none⟩ (.inr (by simp <;> omega)) (.int .i64 0)).put ⟨w.heap.size + 1 + 1 + 1 + 1, 6, none⟩ (.inr (by simp <;> omega)) (.int .i64 2))
    simp only [List.set_cons_succ, List.set_cons_zero] at O9
    generalize ((((((w1.setCell ⟨w.heap.size + 1 + 1 + 1 + 1, 0, none⟩ (.string ⟨#[]⟩)).setCell ⟨w.heap.size + 1 + 1 + 1 + 1, 1, none⟩ (.int .i64 0)).setCell ⟨w.heap.size + 1 + 1 + 1 + 1, 2, none⟩ (.slice none 0 0)).setCell ⟨w.heap.size + 1 + 1 + 1 + 1, 3, none⟩ (.slice none 0 0)).setCell ⟨w.heap.size + 1 + 1 + 1 + 1, 4, none⟩ (.slice none 0 0)).setCell ⟨w.heap.size + 1 + 1 + 1 + 1, 5, none⟩ (.int .i64 0)).setCell ⟨w.heap.size + 1 + 1 + 1 + 1, 6, none⟩ (.int .i64 2) = w9 at O9 hb9 kp9  ⊢
    have oc0 := O9.cell (i := 0) rfl
    have oc1 := O9.cell (i := 1) rfl
    have oc2 := O9.cell (i := 2) rfl
    have oc3 := O9.cell (i := 3) rfl
    have oc4 := O9.cell (i := 4) rfl
    have oc5 := O9.cell (i := 5) rfl
    have oc6 := O9.cell (i := 6) rfl
    exact bodyPost_ret (v := .agg #[.string ⟨#[]⟩, .int .i64 0, .slice none 0 0, .slice none 0 0, .slice none 0 0, .int .i64 0, .int .i64 2]) (by simp [results, Try.results71, go_sem, oc0, oc1, oc2, oc3, oc4, oc5, oc6]) rfl (⟨by rw [HR.out]; exact RunO.ill hb9, kp9⟩)
  have hd : decide (20000 < gn.size) = false := by simpa using h1
  rw [hd] at TL
  have RN := Lib.hid (RN0.out (by omega))
  have HR := Lib.hid (RR.out h1)
  clear RN0 RL RR h1 hd
  have NR := Lib.hid (fun W => bl (implName_b (rfl : nameB gn = nameB gn) hgs W))
  cases r with
  | false =>
    go_enter Try.func71, Try.ntmps71
    go_wp2_with (fail)
    generalize ((((w.alloc (.cells #[.pointer (some ⟨p, 0, none⟩)] 126)).alloc (.cells #[.string nm, .int .i64 bs, .slice A H.length c, .slice B G.length d] 26)).alloc (.cells #[.string gn] 9)).alloc (.cells #[.func (.func opf) #[.pointer (some ⟨p, 0, none⟩)] #[]] 97)).alloc (.cells #[.string ⟨#[]⟩, .int .i64 0, .slice none 0 0, .slice none 0 0, .slice none 0 0, .int .i64 0, .int .i64 0] 30) = v0 at K5 K6 K7 K9 O P hbw hb kp hz ⊢
    have kq0 := K7.cell (i := 0) rfl
    go_wp2_with (fail)
    refine (TL _).mono ?_
    rintro e w1 ⟨rfl, rfl⟩
    clear kq0
    go_wp2_with (fail)
    obtain ⟨I, fw, hI, g5', h6, g6', g7'⟩ := class_grown w1
    have x5 := fun q => kept_cell (h6 q) (K5.cell (i := 0) rfl)
    have x7 := fun q => kept_cell (h6 q) (K7.cell (i := 0) rfl)
    have y0 := fun q => kept_cell (h6 q) (K6.cell (i := 0) rfl)
    have y1 := fun q => kept_cell (h6 q) (K6.cell (i := 1) rfl)
    have y2 := fun q => kept_cell (h6 q) (K6.cell (i := 2) rfl)
    have y3 := fun q => kept_cell (h6 q) (K6.cell (i := 3) rfl)
    have G7 := Lib.hid g7'
    have G6 := Lib.hid g6'
    clear h6 g7' g6'
    refine wp_region_class_tail (C := fun w' => ∃ q, w' = fw q) 8 (by kernel_rfl) (by kernel_rfl) g5' ?_
    simp only [List.take_succ_cons, List.take_zero, List.drop_succ_cons, List.drop_zero]
    repeat (first
      | go_big_quiet_skip
      | (go_big_quiet_want; go_big_quiet_op; go_big_quiet_on))
    refine wpQuiet_nil ?_
    intro w5 h5
    have hb5 := G7.out _ h5
    clear x5 x7 y0 y1 y2 y3 g5' h5
    replace P := P.below hb5 P.lt
    replace K5 := K5.below hb5 K5.lt
    replace K7 := K7.below hb5 K7.lt
    replace K9 := K9.below hb5 K9.lt
    replace O := O.below hb5 O.lt
    replace hb := hb.trans (hb5.mono (Nat.le_trans hlow hbw.size))
    replace hbw := hbw.trans (hb5.mono hbw.size)
    replace kp := kp.below hb5
    have RN5 := RN.out w5 _ _ _ hbw P K5 K7 K9 (by omega) (by omega) (by omega)
    rw [← HR.out] at RN5
    clear hb5 hz RN HR
    obtain ⟨⟨on, ob, oH, oG⟩, N, rn, co⟩ := R
    go_wp2_with (fail)
    refine RN5.mono ?_
    rintro e w6 ⟨⟨A1, a1, B1, b1, T1, x1, rfl, sA, sB, sT, hap, cA, cB, hb6⟩, hk⟩
    simp only at sA sB sT cA cB
    replace O := hk _ _ (by omega) O
    replace hb := hb.trans hb6
    replace kp := kp.then hk
    clear RN5 hk P K5 K6 K7 K9 hb6 hbw
    have qc0 := O.cell (i := 0) rfl
    have qf0 := O.froz 0
    have qc1 := O.cell (i := 1) rfl
    have qf1 := O.froz 1
    have qc2 := O.cell (i := 2) rfl
    have qf2 := O.froz 2
    have qc3 := O.cell (i := 3) rfl
    have qf3 := O.froz 3
    have qc4 := O.cell (i := 4) rfl
    have qf4 := O.froz 4
    have qc5 := O.cell (i := 5) rfl
    have qf5 := O.froz 5
    have qc6 := O.cell (i := 6) rfl
    have qf6 := O.froz 6
    go_wp2
    clear qc0 qf0 qc1 qf1 qc2 qf2 qc3 qf3 qc4 qf4 qc5 qf5 qc6 qf6
    have hsz : w6.heap.size ≤ (((((((w6.setCell ⟨w.heap.size + 1 + 1 + 1 + 1, 0, none⟩ (.string on)).setCell ⟨w.heap.size + 1 + 1 + 1 + 1, 1, none⟩ (.int .i64 ob)).setCell ⟨w.heap.size + 1 + 1 + 1 + 1, 2, none⟩ (.slice A1 oH.length a1)).setCell ⟨w.heap.size + 1 + 1 + 1 + 1, 3, none⟩ (.slice B1 oG.length b1)).setCell ⟨w.heap.size + 1 + 1 + 1 + 1, 4, none⟩ (.slice T1 N.length x1)).setCell ⟨w.heap.size + 1 + 1 + 1 + 1, 5, none⟩ (.int .i64 rn)).setCell ⟨w.heap.size + 1 + 1 + 1 + 1, 6, none⟩ (.int .i64 co)).heap.size := by simp [World.setCell]
    have rA := (((((((sA.off O (by decide) 0 (.string on)).off (O.put 0 (.string on)) (by decide) 1 (.int .i64 ob)).off ((O.put 0 (.string on)).put 1 (.int .i64 ob)) (by decide) 2 (.slice A1 oH.length a1)).off (((O.put 0 (.string on)).put 1 (.int .i64 ob)).put 2 (.slice A1 oH.length a1)) (by decide) 3 (.slice B1 oG.length b1)).off ((((O.put 0 (.string on)).put 1 (.int .i64 ob)).put 2 (.slice A1 oH.length a1)).put 3 (.slice B1 oG.length b1)) (by decide) 4 (.slice T1 N.length x1)).off (((((O.put 0 (.string on)).put 1 (.int .i64 ob)).put 2 (.slice A1 oH.length a1)).put 3 (.slice B1 oG.length b1)).put 4 (.slice T1 N.length x1)) (by decide) 5 (.int .i64 rn)).off ((((((O.put 0 (.string on)).put 1 (.int .i64 ob)).put 2 (.slice A1 oH.length a1)).put 3 (.slice B1 oG.length b1)).put 4 (.slice T1 N.length x1)).put 5 (.int .i64 rn)) (by decide) 6 (.int .i64 co))
    have rB := (((((((sB.off O (by decide) 0 (.string on)).off (O.put 0 (.string on)) (by decide) 1 (.int .i64 ob)).off ((O.put 0 (.string on)).put 1 (.int .i64 ob)) (by decide) 2 (.slice A1 oH.length a1)).off (((O.put 0 (.string on)).put 1 (.int .i64 ob)).put 2 (.slice A1 oH.length a1)) (by decide) 3 (.slice B1 oG.length b1)).off ((((O.put 0 (.string on)).put 1 (.int .i64 ob)).put 2 (.slice A1 oH.length a1)).put 3 (.slice B1 oG.length b1)) (by decide) 4 (.slice T1 N.length x1)).off (((((O.put 0 (.string on)).put 1 (.int .i64 ob)).put 2 (.slice A1 oH.length a1)).put 3 (.slice B1 oG.length b1)).put 4 (.slice T1 N.length x1)) (by decide) 5 (.int .i64 rn)).off ((((((O.put 0 (.string on)).put 1 (.int .i64 ob)).put 2 (.slice A1 oH.length a1)).put 3 (.slice B1 oG.length b1)).put 4 (.slice T1 N.length x1)).put 5 (.int .i64 rn)) (by decide) 6 (.int .i64 co))
    have rT := (((((((sT.off O (by decide) 0 (.string on)).off (O.put 0 (.string on)) (by decide) 1 (.int .i64 ob)).off ((O.put 0 (.string on)).put 1 (.int .i64 ob)) (by decide) 2 (.slice A1 oH.length a1)).off (((O.put 0 (.string on)).put 1 (.int .i64 ob)).put 2 (.slice A1 oH.length a1)) (by decide) 3 (.slice B1 oG.length b1)).off ((((O.put 0 (.string on)).put 1 (.int .i64 ob)).put 2 (.slice A1 oH.length a1)).put 3 (.slice B1 oG.length b1)) (by decide) 4 (.slice T1 N.length x1)).off (((((O.put 0 (.string on)).put 1 (.int .i64 ob)).put 2 (.slice A1 oH.length a1)).put 3 (.slice B1 oG.length b1)).put 4 (.slice T1 N.length x1)) (by decide) 5 (.int .i64 rn)).off ((((((O.put 0 (.string on)).put 1 (.int .i64 ob)).put 2 (.slice A1 oH.length a1)).put 3 (.slice B1 oG.length b1)).put 4 (.slice T1 N.length x1)).put 5 (.int .i64 rn)) (by decide) 6 (.int .i64 co))
    have O9 := (((((((O.put 0 (.string on)).put 1 (.int .i64 ob)).put 2 (.slice A1 oH.length a1)).put 3 (.slice B1 oG.length b1)).put 4 (.slice T1 N.length x1)).put 5 (.int .i64 rn)).put 6 (.int .i64 co))
    have hb9 := (((((((hb.setCell (p := ⟨w.heap.size + 1 + 1 + 1 + 1, 0, none⟩) (by simp <;> omega) (.string on)).setCell (p := ⟨w.heap.size + 1 + 1 + 1 + 1, 1, none⟩) (by simp <;> omega) (.int .i64 ob)).setCell (p := ⟨w.heap.size + 1 + 1 + 1 + 1, 2, none⟩) (by simp <;> omega) (.slice A1 oH.length a1)).setCell (p := ⟨w.heap.size + 1 + 1 + 1 + 1, 3, none⟩) (by simp <;> omega) (.slice B1 oG.length b1)).setCell (p := ⟨w.heap.size + 1 + 1 + 1 + 1, 4, none⟩) (by simp <;> omega) (.slice T1 N.length x1)).setCell (p := ⟨w.heap.size + 1 + 1 + 1 + 1, 5, none⟩) (by simp <;> omega) (.int .i64 rn)).setCell (p := ⟨w.heap.size + 1 + 1 + 1 + 1, 6, none⟩) (by simp <;> omega) (.int .i64 co))
    have kp9 := (((((((kp.put ⟨w.heap.size + 1 + 1 + 1 + 1, 0, none⟩ (.inr (by simp <;> omega)) (.string on)).put ⟨w.heap.size + 1 + 1 + 1 + 1, 1, none⟩ (.inr (by simp <;> omega)) (.int .i64 ob)).put ⟨w.heap.size + 1 + 1 + 1 + 1, 2, none⟩ (.inr (by simp <;> omega)) (.slice A1 oH.length a1)).put ⟨w.heap.size + 1 + 1 + 1 + 1, 3, none⟩ (.inr (by simp <;> omega)) (.slice B1 oG.length b1)).put ⟨w.heap.size + 1 + 1 + 1 + 1, 4, none⟩ (.inr (by simp <;> omega)) (.slice T1 N.length x1)).put ⟨w.heap.size + 1 + 1 + 1 + 1, 5, none⟩ (.inr (by simp <;> omega)) (.int .i64 rn)).put ⟨w.heap.size + 1 + 1 + 1 + 1, 6, none⟩ (.inr (by simp <;> omega)) (.int .i64 co))
    simp only [List.set_cons_succ, List.set_cons_zero] at O9
    generalize ((((((w6.setCell ⟨w.heap.size + 1 + 1 + 1 + 1, 0, none⟩ (.string on)).setCell ⟨w.heap.size + 1 + 1 + 1 + 1, 1, none⟩ (.int .i64 ob)).setCell ⟨w.heap.size + 1 + 1 + 1 + 1, 2, none⟩ (.slice A1 oH.length a1)).setCell ⟨w.heap.size + 1 + 1 + 1 + 1, 3, none⟩ (.slice B1 oG.length b1)).setCell ⟨w.heap.size + 1 + 1 + 1 + 1, 4, none⟩ (.slice T1 N.length x1)).setCell ⟨w.heap.size + 1 + 1 + 1 + 1, 5, none⟩ (.int .i64 rn)).setCell ⟨w.heap.size + 1 + 1 + 1 + 1, 6, none⟩ (.int .i64 co) = w9 at O9 hb9 kp9 hsz rA rB rT  ⊢
    have oc0 := O9.cell (i := 0) rfl
    have oc1 := O9.cell (i := 1) rfl
    have oc2 := O9.cell (i := 2) rfl
    have oc3 := O9.cell (i := 3) rfl
    have oc4 := O9.cell (i := 4) rfl
    have oc5 := O9.cell (i := 5) rfl
    have oc6 := O9.cell (i := 6) rfl
    exact bodyPost_ret (v := .agg #[.string on, .int .i64 ob, .slice A1 oH.length a1, .slice B1 oG.length b1, .slice T1 N.length x1, .int .i64 rn, .int .i64 co]) (by simp [results, Try.results71, go_sem, oc0, oc1, oc2, oc3, oc4, oc5, oc6]) rfl (⟨for_out hsz rA rB rT hap cA cB hb9, kp9⟩)
  | true =>
    go_enter Try.func71, Try.ntmps71
    go_wp2_with (fail)
    generalize ((((w.alloc (.cells #[.pointer (some ⟨p, 0, none⟩)] 126)).alloc (.cells #[.string nm, .int .i64 bs, .slice A H.length c, .slice B G.length d] 26)).alloc (.cells #[.string gn] 9)).alloc (.cells #[.func (.func opf) #[.pointer (some ⟨p, 0, none⟩)] #[]] 97)).alloc (.cells #[.string ⟨#[]⟩, .int .i64 0, .slice none 0 0, .slice none 0 0, .slice none 0 0, .int .i64 0, .int .i64 0] 30) = v0 at K5 K6 K7 K9 O P hbw hb kp hz ⊢
    have kq0 := K7.cell (i := 0) rfl
    go_wp2_with (fail)
    refine (TL _).mono ?_
    rintro e w1 ⟨rfl, rfl⟩
    clear kq0
    go_wp2_with (fail)
    obtain ⟨I, fw, hI, g5', h6, g6', g7'⟩ := class_grown w1
    have x5 := fun q => kept_cell (h6 q) (K5.cell (i := 0) rfl)
    have x7 := fun q => kept_cell (h6 q) (K7.cell (i := 0) rfl)
    have y0 := fun q => kept_cell (h6 q) (K6.cell (i := 0) rfl)
    have y1 := fun q => kept_cell (h6 q) (K6.cell (i := 1) rfl)
    have y2 := fun q => kept_cell (h6 q) (K6.cell (i := 2) rfl)
    have y3 := fun q => kept_cell (h6 q) (K6.cell (i := 3) rfl)
    have G7 := Lib.hid g7'
    have G6 := Lib.hid g6'
    clear h6 g7' g6'
    refine wp_region_class_tail (C := fun w' => ∃ q, w' = fw q) 8 (by kernel_rfl) (by kernel_rfl) g5' ?_
    simp only [List.take_succ_cons, List.take_zero, List.drop_succ_cons, List.drop_zero]
    repeat (first
      | go_big_quiet_skip
      | (go_big_quiet_want; go_big_quiet_op; first | go_big_quiet_on | (apply Exists.intro; refine ⟨fun q => ?_, ?_⟩; (go_at_call 63; (with_reducible refine (NR.out _).mono ?_); rintro e w9 ⟨rfl, hb9'⟩; exact ⟨rfl, G6.out _ _ hb9'⟩); go_big_quiet_on)))
    refine wpQuiet_nil ?_
    intro w5 h5
    have hb5 := G7.out _ h5
    clear x5 x7 y0 y1 y2 y3 g5' h5
    replace P := P.below hb5 P.lt
    replace K5 := K5.below hb5 K5.lt
    replace K7 := K7.below hb5 K7.lt
    replace K9 := K9.below hb5 K9.lt
    replace O := O.below hb5 O.lt
    replace hb := hb.trans (hb5.mono (Nat.le_trans hlow hbw.size))
    replace hbw := hbw.trans (hb5.mono hbw.size)
    replace kp := kp.below hb5
    have RN5 := RN.out w5 _ _ _ hbw P K5 K7 K9 (by omega) (by omega) (by omega)
    rw [← HR.out] at RN5
    clear hb5 hz RN HR
    obtain ⟨⟨on, ob, oH, oG⟩, N, rn, co⟩ := R
    go_wp2_with (fail)
    refine RN5.mono ?_
    rintro e w6 ⟨⟨A1, a1, B1, b1, T1, x1, rfl, sA, sB, sT, hap, cA, cB, hb6⟩, hk⟩
    simp only at sA sB sT cA cB
    replace O := hk _ _ (by omega) O
    replace hb := hb.trans hb6
    replace kp := kp.then hk
    clear RN5 hk P K5 K6 K7 K9 hb6 hbw
    have qc0 := O.cell (i := 0) rfl
    have qf0 := O.froz 0
    have qc1 := O.cell (i := 1) rfl
    have qf1 := O.froz 1
    have qc2 := O.cell (i := 2) rfl
    have qf2 := O.froz 2
    have qc3 := O.cell (i := 3) rfl
    have qf3 := O.froz 3
    have qc4 := O.cell (i := 4) rfl
    have qf4 := O.froz 4
    have qc5 := O.cell (i := 5) rfl
    have qf5 := O.froz 5
    have qc6 := O.cell (i := 6) rfl
    have qf6 := O.froz 6
    go_wp2
    clear qc0 qf0 qc1 qf1 qc2 qf2 qc3 qf3 qc4 qf4 qc5 qf5 qc6 qf6
    have hsz : w6.heap.size ≤ (((((((w6.setCell ⟨w.heap.size + 1 + 1 + 1 + 1, 0, none⟩ (.string on)).setCell ⟨w.heap.size + 1 + 1 + 1 + 1, 1, none⟩ (.int .i64 ob)).setCell ⟨w.heap.size + 1 + 1 + 1 + 1, 2, none⟩ (.slice A1 oH.length a1)).setCell ⟨w.heap.size + 1 + 1 + 1 + 1, 3, none⟩ (.slice B1 oG.length b1)).setCell ⟨w.heap.size + 1 + 1 + 1 + 1, 4, none⟩ (.slice T1 N.length x1)).setCell ⟨w.heap.size + 1 + 1 + 1 + 1, 5, none⟩ (.int .i64 rn)).setCell ⟨w.heap.size + 1 + 1 + 1 + 1, 6, none⟩ (.int .i64 co)).heap.size := by simp [World.setCell]
    have rA := (((((((sA.off O (by decide) 0 (.string on)).off (O.put 0 (.string on)) (by decide) 1 (.int .i64 ob)).off ((O.put 0 (.string on)).put 1 (.int .i64 ob)) (by decide) 2 (.slice A1 oH.length a1)).off (((O.put 0 (.string on)).put 1 (.int .i64 ob)).put 2 (.slice A1 oH.length a1)) (by decide) 3 (.slice B1 oG.length b1)).off ((((O.put 0 (.string on)).put 1 (.int .i64 ob)).put 2 (.slice A1 oH.length a1)).put 3 (.slice B1 oG.length b1)) (by decide) 4 (.slice T1 N.length x1)).off (((((O.put 0 (.string on)).put 1 (.int .i64 ob)).put 2 (.slice A1 oH.length a1)).put 3 (.slice B1 oG.length b1)).put 4 (.slice T1 N.length x1)) (by decide) 5 (.int .i64 rn)).off ((((((O.put 0 (.string on)).put 1 (.int .i64 ob)).put 2 (.slice A1 oH.length a1)).put 3 (.slice B1 oG.length b1)).put 4 (.slice T1 N.length x1)).put 5 (.int .i64 rn)) (by decide) 6 (.int .i64 co))
    have rB := (((((((sB.off O (by decide) 0 (.string on)).off (O.put 0 (.string on)) (by decide) 1 (.int .i64 ob)).off ((O.put 0 (.string on)).put 1 (.int .i64 ob)) (by decide) 2 (.slice A1 oH.length a1)).off (((O.put 0 (.string on)).put 1 (.int .i64 ob)).put 2 (.slice A1 oH.length a1)) (by decide) 3 (.slice B1 oG.length b1)).off ((((O.put 0 (.string on)).put 1 (.int .i64 ob)).put 2 (.slice A1 oH.length a1)).put 3 (.slice B1 oG.length b1)) (by decide) 4 (.slice T1 N.length x1)).off (((((O.put 0 (.string on)).put 1 (.int .i64 ob)).put 2 (.slice A1 oH.length a1)).put 3 (.slice B1 oG.length b1)).put 4 (.slice T1 N.length x1)) (by decide) 5 (.int .i64 rn)).off ((((((O.put 0 (.string on)).put 1 (.int .i64 ob)).put 2 (.slice A1 oH.length a1)).put 3 (.slice B1 oG.length b1)).put 4 (.slice T1 N.length x1)).put 5 (.int .i64 rn)) (by decide) 6 (.int .i64 co))
    have rT := (((((((sT.off O (by decide) 0 (.string on)).off (O.put 0 (.string on)) (by decide) 1 (.int .i64 ob)).off ((O.put 0 (.string on)).put 1 (.int .i64 ob)) (by decide) 2 (.slice A1 oH.length a1)).off (((O.put 0 (.string on)).put 1 (.int .i64 ob)).put 2 (.slice A1 oH.length a1)) (by decide) 3 (.slice B1 oG.length b1)).off ((((O.put 0 (.string on)).put 1 (.int .i64 ob)).put 2 (.slice A1 oH.length a1)).put 3 (.slice B1 oG.length b1)) (by decide) 4 (.slice T1 N.length x1)).off (((((O.put 0 (.string on)).put 1 (.int .i64 ob)).put 2 (.slice A1 oH.length a1)).put 3 (.slice B1 oG.length b1)).put 4 (.slice T1 N.length x1)) (by decide) 5 (.int .i64 rn)).off ((((((O.put 0 (.string on)).put 1 (.int .i64 ob)).put 2 (.slice A1 oH.length a1)).put 3 (.slice B1 oG.length b1)).put 4 (.slice T1 N.length x1)).put 5 (.int .i64 rn)) (by decide) 6 (.int .i64 co))
    have O9 := (((((((O.put 0 (.string on)).put 1 (.int .i64 ob)).put 2 (.slice A1 oH.length a1)).put 3 (.slice B1 oG.length b1)).put 4 (.slice T1 N.length x1)).put 5 (.int .i64 rn)).put 6 (.int .i64 co))
    have hb9 := (((((((hb.setCell (p := ⟨w.heap.size + 1 + 1 + 1 + 1, 0, none⟩) (by simp <;> omega) (.string on)).setCell (p := ⟨w.heap.size + 1 + 1 + 1 + 1, 1, none⟩) (by simp <;> omega) (.int .i64 ob)).setCell (p := ⟨w.heap.size + 1 + 1 + 1 + 1, 2, none⟩) (by simp <;> omega) (.slice A1 oH.length a1)).setCell (p := ⟨w.heap.size + 1 + 1 + 1 + 1, 3, none⟩) (by simp <;> omega) (.slice B1 oG.length b1)).setCell (p := ⟨w.heap.size + 1 + 1 + 1 + 1, 4, none⟩) (by simp <;> omega) (.slice T1 N.length x1)).setCell (p := ⟨w.heap.size + 1 + 1 + 1 + 1, 5, none⟩) (by simp <;> omega) (.int .i64 rn)).setCell (p := ⟨w.heap.size + 1 + 1 + 1 + 1, 6, none⟩) (by simp <;> omega) (.int .i64 co))
    have kp9 := (((((((kp.put ⟨w.heap.size + 1 + 1 + 1 + 1, 0, none⟩ (.inr (by simp <;> omega)) (.string on)).put ⟨w.heap.size + 1 + 1 + 1 + 1, 1, none⟩ (.inr (by simp <;> omega)) (.int .i64 ob)).put ⟨w.heap.size + 1 + 1 + 1 + 1, 2, none⟩ (.inr (by simp <;> omega)) (.slice A1 oH.length a1)).put ⟨w.heap.size + 1 + 1 + 1 + 1, 3, none⟩ (.inr (by simp <;> omega)) (.slice B1 oG.length b1)).put ⟨w.heap.size + 1 + 1 + 1 + 1, 4, none⟩ (.inr (by simp <;> omega)) (.slice T1 N.length x1)).put ⟨w.heap.size + 1 + 1 + 1 + 1, 5, none⟩ (.inr (by simp <;> omega)) (.int .i64 rn)).put ⟨w.heap.size + 1 + 1 + 1 + 1, 6, none⟩ (.inr (by simp <;> omega)) (.int .i64 co))
    simp only [List.set_cons_succ, List.set_cons_zero] at O9
    generalize ((((((w6.setCell ⟨w.heap.size + 1 + 1 + 1 + 1, 0, none⟩ (.string on)).setCell ⟨w.heap.size + 1 + 1 + 1 + 1, 1, none⟩ (.int .i64 ob)).setCell ⟨w.heap.size + 1 + 1 + 1 + 1, 2, none⟩ (.slice A1 oH.length a1)).setCell ⟨w.heap.size + 1 + 1 + 1 + 1, 3, none⟩ (.slice B1 oG.length b1)).setCell ⟨w.heap.size + 1 + 1 + 1 + 1, 4, none⟩ (.slice T1 N.length x1)).setCell ⟨w.heap.size + 1 + 1 + 1 + 1, 5, none⟩ (.int .i64 rn)).setCell ⟨w.heap.size + 1 + 1 + 1 + 1, 6, none⟩ (.int .i64 co) = w9 at O9 hb9 kp9 hsz rA rB rT  ⊢
    have oc0 := O9.cell (i := 0) rfl
    have oc1 := O9.cell (i := 1) rfl
    have oc2 := O9.cell (i := 2) rfl
    have oc3 := O9.cell (i := 3) rfl
    have oc4 := O9.cell (i := 4) rfl
    have oc5 := O9.cell (i := 5) rfl
    have oc6 := O9.cell (i := 6) rfl
    exact bodyPost_ret (v := .agg #[.string on, .int .i64 ob, .slice A1 oH.length a1, .slice B1 oG.length b1, .slice T1 N.length x1, .int .i64 rn, .int .i64 co]) (by simp [results, Try.results71, go_sem, oc0, oc1, oc2, oc3, oc4, oc5, oc6]) rfl (⟨for_out hsz rA rB rT hap cA cB hb9, kp9⟩)
end Go.Proofs.Ytjnbhppnchmeoaa

namespace Go.Proofs.Ytjnbhppnchmeoaa
open Go.RowKit Go.Deep
set_option linter.unusedVariables false
set_option maxRecDepth 1000000
end Go.Proofs.Ytjnbhppnchmeoaa
