/- TopicRetain: plain mathematics. The method retain of topicWork. The method run of topicWork, with any operation (Ret). spec.TopicRetain. -/
import Derived.Test.YtjmmffhndecikaaTpRSW
import Derived.Test.YtjmmffhndecikaaStrArgW
import Derived.Test.YtjmmffhndecikaaTpCopyW
import Derived.Test.YtjmmffhndecikaaTpRIW
import Derived.BigQuiet
import Derived.Deep.DeepCutAuto
import Derived.Test.YtjmmffhndecikaaTpArgW
namespace Go.Proofs.Ytjmmffhndecikaa
open Go.RowKit
set_option linter.unusedVariables false
/-- A group that is moved to the first message. -/
def upG (b : Int) (g : Grp) : Grp := ⟨g.name, max b g.acked⟩
/-- How many messages go. -/
def goneN (t : Tpc) (keep : Int) : Nat := t.held.length - keep.toNat
/-- TopicRetain. -/
noncomputable def retT (t : Tpc) (keep : Int) : Ans :=
  if (topB t && inB keep 0 20) = false then ill 1
  else ⟨⟨t.name, t.base + goneN t keep, t.held.drop (goneN t keep), t.groups.map (upG (t.base + goneN t keep))⟩, [], goneN t keep, 0⟩
theorem gone_le (t : Tpc) (keep : Int) : goneN t keep ≤ t.held.length := Nat.sub_le _ _
theorem gone_max {n : Nat} {keep : Int} (h : 0 ≤ keep) : max 0 ((n : Int) - keep) = ((n - keep.toNat : Nat) : Int) := by omega
/-- Groups the first of which are moved. -/
def partG (b : Int) (G : List Grp) (k : Nat) : List Grp := (G.map (upG b)).take k ++ G.drop k
theorem partG_zero (b : Int) (G : List Grp) : partG b G 0 = G := by simp [partG]
theorem partG_all (b : Int) (G : List Grp) : partG b G G.length = G.map (upG b) := by
  unfold partG; rw [List.take_of_length_le (by simp), List.drop_length, List.append_nil]
theorem partG_len (b : Int) (G : List Grp) (k : Nat) (h : k ≤ G.length) : (partG b G k).length = G.length := by simp [partG]; omega
theorem partG_at (b : Int) (G : List Grp) {k : Nat} (h : k < G.length) : (partG b G k)[k]? = some G[k] := by
  unfold partG
  rw [List.getElem?_append_right (by simp; omega), List.getElem?_drop]
  have : (List.take k (G.map (upG b))).length = k := by simp; omega
  simp [this, h]
theorem gflat_acked (v : Int) : ∀ (L : List Grp) (i : Nat) (h : i < L.length), (gflat L).set (i * 2 + 1) (.int .i64 v) = gflat (L.set i ⟨L[i].name, v⟩)
  | [], i, h => by simp at h
  | g :: L, 0, _ => rfl
  | g :: L, i + 1, h => by
    rw [gflat_cons, show (i + 1) * 2 + 1 = i * 2 + 1 + 1 + 1 by omega, List.set_cons_succ, List.set_cons_succ, gflat_acked v L i (by simpa using h)]
    rfl
theorem partG_set (b : Int) (G : List Grp) {k : Nat} (h : k < G.length) : (partG b G k).set k (upG b G[k]) = partG b G (k + 1) := by
  unfold partG
  have := part_set (M := G.map (upG b)) (L := G) (j := k) (by simp) h
  simpa using this
theorem partG_step (b : Int) (G : List Grp) {k : Nat} (h : k < G.length) : (gflat (partG b G k)).set (k * 2 + 1) (.int .i64 (max b G[k].acked)) = gflat (partG b G (k + 1)) := by
  have hl := partG_len b G k (by omega)
  rw [gflat_acked _ _ k (by omega)]
  have e : (partG b G k)[k]'(by omega) = G[k] := by
    have := partG_at b G h
    rw [List.getElem?_eq_getElem (by omega)] at this
    exact Option.some.inj this
  rw [e, ← partG_set b G h]
  rfl
/-- What lies behind a cut. -/
theorem strs_drop {w : World} {B : Nat} {A : Option Addr} {L : List ByteArray} (h : Strs w B A L) {k c : Nat} (hk : k ≤ L.length) (hc : L.length ≤ c) : Strs w B (if c = k then A else A.map (·.add k)) (L.drop k) := by
  refine ⟨Nat.le_trans (by simp) h.1, fun i hi => ?_⟩
  have hi' : k + i < L.length := by simp at hi; omega
  obtain ⟨a, e, h1, h2⟩ := h.2 (k + i) hi'
  rw [if_neg (by omega)]
  refine ⟨a.add k, by rw [e]; rfl, by rw [add_blk]; exact h1, ?_⟩
  rw [ofNat_add]
  simpa using h2
theorem cap_drop {A : Option Addr} {L : List ByteArray} {k c : Nat} (h : Cap A L.length c) (hk : k ≤ L.length) : Cap (if c = k then A else A.map (·.add k)) (L.drop k).length (c - k) := by
  have h1 := h.le
  have h2 := h.max
  refine ⟨fun e => ?_, by simp; omega, by omega⟩
  by_cases hc : c = k
  · omega
  · rw [if_neg hc] at e
    have : A = none := by cases A with | none => rfl | some a => simp at e
    have := h.nil this
    omega
end Go.Proofs.Ytjmmffhndecikaa

namespace Go.Proofs.Ytjmmffhndecikaa
open Go.RowKit
set_option linter.unusedVariables false
set_option maxRecDepth 1000000
/-- What an operation on a topicWork leaves: a code, or the answer laid into its block. -/
def OpPost (lo p : Nat) (s : ByteArray) (n : Int) (R : Ans) (w : World) (e : Ending) (w' : World) : Prop :=
  Below lo w w' ∧ (∀ g cs, g ≠ p → Blk w g 30 cs → Blk w' g 30 cs) ∧ e = .returned (.int .i64 R.code) ∧
    ((R.code ≠ 0 ∧ R = ill R.code) ∨ (R.code = 0 ∧ ∃ A a B b T x, Blk w' p 69 [.string R.o.name, .int .i64 R.o.base, .slice A R.o.held.length a, .slice B R.o.groups.length b, .string s, .int .i64 n, .slice T R.texts.length x, .int .i64 R.n] ∧
      Sl w' lo w'.heap.size 9 A (R.o.held.map Value.string) ∧ Sl w' lo w'.heap.size 47 B (gflat R.o.groups) ∧ Sl w' lo w'.heap.size 9 T (R.texts.map Value.string) ∧ Apart A T ∧ Cap A R.o.held.length a ∧ Cap B R.o.groups.length b))
/-- What retain makes of a topic. -/
def retA (t : Tpc) (m : Nat) : Ans := ⟨⟨t.name, t.base + m, t.held.drop m, t.groups.map (upG (t.base + m))⟩, [], m, 0⟩
theorem Sl.cut {w : World} {lo hi : Nat} {A : Option Addr} {L : List ByteArray} (h : Sl w lo hi 9 A (L.map Value.string)) {k c : Nat} (hk : k ≤ L.length) (hc : L.length ≤ c) : Sl w lo hi 9 (if c = k then A else A.map (·.add k)) ((L.drop k).map Value.string) := by
  by_cases hz : L.length = k
  · exact .inl (by rw [List.map_eq_nil_iff, List.drop_eq_nil_iff]; omega)
  rw [if_neg (by omega)]
  rcases h with h | ⟨g, off, cs, h1, h2, h3, h4⟩
  · refine .inl ?_
    rw [List.map_eq_nil_iff] at h
    subst h; simp
  · refine .inr ⟨g, off + k, cs, by rw [h1]; simp [add_none], h2, h3, fun j v hj => ?_⟩
    rw [Nat.add_assoc]
    refine h4 (k + j) v ?_
    rw [List.map_drop, List.getElem?_drop] at hj
    exact hj
set_option maxHeartbeats 8000000 in
theorem retain_any (t : Tpc) (s : ByteArray) (n : Int) (lo p : Nat) (A : Option Addr) (a : Nat) (B : Option Addr) (b : Nat) (w : World) (h : Wk w lo p t s n A a B b) (hl : lo ≤ p) (hf : ∀ g ∈ t.groups, g.fits) (hH : t.held.length ≤ 20) (hG : t.groups.length ≤ 4) (h0 : 0 ≤ t.base) (h1 : t.base + t.held.length ≤ 1000000000) (hn0 : 0 ≤ n) (hn1 : n ≤ 20) :
    Calls Try.prog 79 #[.pointer (some ⟨p, 0, none⟩)] w (OpPost lo p s n (retA t (goneN t n)) w) := by
  obtain ⟨P, oS, oG⟩ := h
  obtain ⟨m, HM⟩ : ∃ m, Hid (goneN t n = m) := ⟨_, Lib.hid rfl⟩
  have hml := gone_le t n
  have HMX : Hid (max ((t.held.length : Int) - n) 0 = ((goneN t n : Nat) : Int)) := Lib.hid (by unfold goneN; omega)
  rw [HM.out] at hml HMX ⊢
  obtain ⟨nm, bs, H, G⟩ := t
  simp only at P oS oG hH hG h0 h1 hml HMX hf
  have hlow : lo ≤ w.heap.size := Nat.le_trans hl (Nat.le_of_lt P.lt)
  have hmx := HMX.out
  have kq := Lib.hid (fun g cs (_ : g ≠ p) (h : Blk w g 30 cs) => h)
  have hb : Below lo w w := Below.refl _ _
  have cS := Cap.own oS
  have nS := own_not oS P (by decide)
  have nG := own_not oG P (by decide)
  have HC3 := Lib.hid (cap_drop (k := m) cS hml)
  have HS3 := Lib.hid (fun (W : World) (h : W.ownsRow lo 9 1 (.slice A H.length a) H.length (H.map Value.string)) => Sl.cut (Sl.of_own h rfl) hml cS.le)
  go_enter Try.func79, Try.ntmps79
  go_wp2_with (fail)
  obtain ⟨I, fw, hI, g0, h6, gc, ge⟩ := class_grown w
  have x2 := fun q => kept_cell (h6 q) (P.cell (i := 2) rfl)
  have x5 := fun q => kept_cell (h6 q) (P.cell (i := 5) rfl)
  have GE := Lib.hid ge
  clear h6 gc ge
  refine wp_region_kept fw (by kernel_rfl) (by kernel_rfl) g0 ?_
  repeat (first
    | go_big_quiet_skip
    | (go_big_quiet_want; go_big_quiet_op; go_big_quiet_on))
  refine wpQuiet_nil ?_
  intro w1 h6
  have hb1 := GE.out _ h6
  clear x2 x5 g0 h6 GE
  have hif : (if (H.length : Int) - n < 0 then 0 else (H.length : Int) - n) = (m : Int) := by
    have := HMX.out
    split <;> omega
  rw [hif]
  clear hmx hif
  replace P := P.below hb1 P.lt
  replace oS : w1.ownsRow lo 9 1 (.slice A H.length a) H.length (H.map Value.string) := row_below oS hb1 (Nat.le_refl _)
  replace oG : w1.ownsRow lo 47 2 (.slice B G.length b) G.length (gflat G) := row_below oG hb1 (Nat.le_refl _)
  replace kq := Lib.hid (fun g cs (hg : g ≠ p) (h : Blk w g 30 cs) => (kq.out g cs hg h).below hb1 h.lt)
  replace hb := hb.trans (hb1.mono hlow)
  have hm1 : (m : Int) ≤ (H.length : Int) := by omega
  clear hb1
  have p2 := P.cell (i := 2) rfl
  have q2 := P.froz 2
  go_upto_region 3 with (fail)
  clear p2 q2
  generalize (if a = m then A else Option.map (fun x => x.add m) A) = A3 at HC3 HS3 ⊢
  generalize a - m = c3 at HC3 ⊢
  replace P := P.put 2 (.slice A3 (H.length - m) c3)
  replace oS := row_off oS (p := ⟨p, 2, none⟩) nS (.slice A3 (H.length - m) c3)
  replace oG := row_off oG (p := ⟨p, 2, none⟩) nG (.slice A3 (H.length - m) c3)
  replace kq := Lib.hid (fun g cs (hg : g ≠ p) (h : Blk w g 30 cs) => (kq.out g cs hg h).far (p := ⟨p, 2, none⟩) hg (.slice A3 (H.length - m) c3))
  replace hb := hb.setCell (p := ⟨p, 2, none⟩) hl (.slice A3 (H.length - m) c3)
  simp only [List.set_cons_succ, List.set_cons_zero] at P
  generalize w1.setCell ⟨p, 2, none⟩ (.slice A3 (H.length - m) c3) = w2 at P oS oG kq hb ⊢
  have p1 := P.cell (i := 1) rfl
  have q1 := P.froz 1
  go_upto_region 4 with (fail)
  clear p1 q1
  replace P := P.put 1 (.int .i64 (bs + m))
  replace oS := row_off oS (p := ⟨p, 1, none⟩) nS (.int .i64 (bs + m))
  replace oG := row_off oG (p := ⟨p, 1, none⟩) nG (.int .i64 (bs + m))
  replace kq := Lib.hid (fun g cs (hg : g ≠ p) (h : Blk w g 30 cs) => (kq.out g cs hg h).far (p := ⟨p, 1, none⟩) hg (.int .i64 (bs + m)))
  replace hb := hb.setCell (p := ⟨p, 1, none⟩) hl (.int .i64 (bs + m))
  simp only [List.set_cons_succ, List.set_cons_zero] at P
  generalize w2.setCell ⟨p, 1, none⟩ (.int .i64 (bs + m)) = w3 at P oS oG kq hb ⊢
  have HF := Lib.hid (fun i (h : i < G.length) => (hf G[i] (List.getElem_mem h)).2)
  obtain ⟨b', HBm⟩ : ∃ b' : Int, Hid (bs + (m : Int) = b') := ⟨_, Lib.hid rfl⟩
  have hbb : 0 ≤ b' ∧ b' ≤ 2000000000 := by have := HBm.out; omega
  have HP : Hid (∀ w e w', OpPost lo p s n ⟨⟨nm, b', H.drop m, G.map (upG b')⟩, [], m, 0⟩ w e w' → OpPost lo p s n (retA ⟨nm, bs, H, G⟩ m) w e w') := Lib.hid fun w e w' h => by rw [← HBm.out] at h; exact h
  rw [HBm.out] at P ⊢
  have p3 := P.cell (i := 3) rfl
  go_wp2_with (fail)
  clear p3
  go_loopw [4, 5, 45] (fun _ _ i wr => ∃ k : Nat, k ≤ G.length ∧ i = .int .i64 k ∧ Blk wr p 69 [.string nm, .int .i64 b', .slice A3 (H.length - m) c3, .slice B G.length b, .string s, .int .i64 n, .slice none 0 0, .int .i64 0] ∧ wr.ownsRow lo 9 1 (.slice A H.length a) H.length (H.map Value.string) ∧ wr.ownsRow lo 47 2 (.slice B G.length b) G.length (gflat (partG b' G k)) ∧ Hid (∀ g cs, g ≠ p → Blk w g 30 cs → Blk wr g 30 cs) ∧ Below lo w wr) (fun _ _ i _ => G.length - (intOf i).toNat)
  case atStart => exact ⟨0, by omega, rfl, P, oS, by rw [partG_zero]; exact oG, kq, hb⟩
  case round =>
    clear P oS oG kq hb
    obtain ⟨k, hk, rfl, P, oS, oG, kq, hb⟩ := hrel
    have p3 := P.cell (i := 3) rfl
    have p7 := P.cell (i := 7) rfl
    have q7 := P.froz 7
    by_cases hlt : k < G.length
    rotate_left
    · obtain rfl : k = G.length := by omega
      rw [partG_all] at oG
      go_wp2
      go_ret
      refine HP.out _ _ _ ⟨hb.setCell (p := ⟨p, 7, none⟩) hl _, fun g cs hg h => (kq.out g cs hg h).far (p := ⟨p, 7, none⟩) hg _, rfl, .inr ⟨rfl, A3, c3, B, b, none, 0, ?_, ?_, ?_, .inl rfl, (fun _ _ _ h => by cases h), HC3.out, ?_⟩⟩
      · have := P.put 7 (.int .i64 m)
        simpa using this
      · exact HS3.out _ (row_off oS (p := ⟨p, 7, none⟩) nS _)
      · exact Sl.of_own (row_off oG (p := ⟨p, 7, none⟩) nG _) rfl
      · simp only [List.length_map]; exact Cap.own oG
    have hlt' : (k : Int) < (G.length : Int) := by omega
    obtain ⟨g, rfl⟩ : ∃ g, B = some ⟨g, 0, none⟩ := by
      rcases oG.2 with ⟨he, h0⟩ | ⟨g, cap, cur, he, _⟩
      · omega
      · cases he; exact ⟨g, rfl⟩
    have hpl := partG_len b' G k hk
    have hkp : k < (partG b' G k).length := by rw [hpl]; exact hlt
    have he : (partG b' G k)[k] = G[k] := by
      have := partG_at b' G hlt
      rw [List.getElem?_eq_getElem hkp] at this
      exact Option.some.inj this
    have HE := Lib.hid he
    clear he hpl
    obtain ⟨_, d1, _, _⟩ := row_grp oG (k := k) hkp
    rw [HE.out] at d1
    clear p7 q7
    go_wp2_with (fail)
    obtain ⟨I, fw, hI, g5', h6, g6', g7'⟩ := class_grown wr
    have x1 := fun q => kept_cell (h6 q) (P.cell (i := 1) rfl)
    have y1 := fun q => kept_cell (h6 q) d1
    have G7 := Lib.hid g7'
    clear h6 g7' g6' p3 d1
    refine wp_region_class_tail (C := fun w' => ∃ q, w' = fw q) 11 (by kernel_rfl) (by kernel_rfl) g5' ?_
    simp only [List.take_succ_cons, List.take_zero, List.drop_succ_cons, List.drop_zero]
    repeat (first
      | go_big_quiet_skip
      | (go_big_quiet_want; go_big_quiet_op; go_big_quiet_on))
    refine wpQuiet_nil ?_
    intro w6 h6
    have hb6 := G7.out _ h6
    clear x1 y1 g5' h6
    have hmxk : (if G[k].acked < b' then b' else G[k].acked) = max b' G[k].acked := by
      split <;> omega
    rw [hmxk]
    clear hmxk
    replace P := P.below hb6 P.lt
    replace oS := row_below oS hb6 (Nat.le_refl _)
    replace oG := row_below oG hb6 (Nat.le_refl _)
    replace kq := Lib.hid (fun g cs (hg : g ≠ p) (h : Blk w g 30 cs) => (kq.out g cs hg h).below hb6 (kq.out g cs hg h).lt)
    have hlr : lo ≤ wr.heap.size := Nat.le_trans hlow hb.size
    replace hb := hb.trans (hb6.mono hlr)
    obtain ⟨_, d1, _, f1⟩ := row_grp oG (k := k) hkp
    rw [HE.out] at d1
    go_wp2
    have hgl := (oG.lt g rfl).1
    have nP := own_not oG P (by decide)
    have nS2 : (Value.slice A H.length a).ownBlock ≠ some g := by
      rcases own_apart oS oG (by decide) with h | h
      · rw [h]; simp
      · exact h
    have o9 := (oG.stored (k * 2 + 1) (.int .i64 (max b' G[k].acked))).1
    rw [partG_step b' G hlt] at o9
    exact ⟨⟨k + 1, by omega, by go_num, P.far (fun e => nP (by rw [e]; rfl)) _, row_off oS nS2 _, o9, Lib.hid (fun g' cs hg' h => (kq.out g' cs hg' h).far (fun e => own_not oG (kq.out g' cs hg' h) (by decide) (by rw [e]; rfl)) _), hb.setCell (by simp; omega) _⟩, by simp [intOf]; omega⟩
end Go.Proofs.Ytjmmffhndecikaa

namespace Go.Proofs.Ytjmmffhndecikaa
open Go.RowKit Go.Deep
set_option linter.unusedVariables false
set_option maxRecDepth 1000000
/-- All that lay in w lies there still, but for block p. -/
structure Kept (w W : World) (p : Nat) : Prop where
  size : w.heap.size ≤ W.heap.size
  at_ : ∀ g, g < w.heap.size → g ≠ p → W.heap[g]? = w.heap[g]?
theorem Kept.refl (w : World) (p : Nat) : Kept w w p := ⟨Nat.le_refl _, fun _ _ _ => rfl⟩
theorem Kept.below {w W W' : World} {p : Nat} (h : Kept w W p) (hb : Below W.heap.size W W') : Kept w W' p := ⟨Nat.le_trans h.size hb.size, fun g hg hp => (hb.block g (Nat.lt_of_lt_of_le hg h.size)).trans (h.at_ g hg hp)⟩
theorem Kept.alloc {w W : World} {p : Nat} (h : Kept w W p) (o : Obj) : Kept w (W.alloc o) p := h.below ((Below.refl _ W).alloc (Nat.le_refl _) o)
theorem Kept.put {w W : World} {p : Nat} (h : Kept w W p) (q : Addr) (hq : q.block = p ∨ w.heap.size ≤ q.block) (v : Value) : Kept w (W.setCell q v) p :=
  ⟨by have := h.size; simpa [World.setCell] using this, fun g hg hp => (Below.heap_setCell W q v g (by rcases hq with hq | hq <;> omega)).trans (h.at_ g hg hp)⟩
theorem Kept.blk {w W : World} {p g : Nat} {t : TypeId} {cs : List Value} (h : Kept w W p) (hb : Blk w g t cs) (hp : g ≠ p) : Blk W g t cs := (h.at_ g hb.lt hp).trans hb
/-- What run answers. -/
noncomputable def runR (t : Tpc) (r : Bool) (R : Ans) : Ans := if (topB t && r) = false then ill 1 else R
theorem run_out {lo hi : Nat} {w w9 : World} {on : ByteArray} {ob rn : Int} {oH N : List ByteArray} {oG : List Grp} {A9 B9 T9 : Option Addr} {a9 b9 x9 : Nat} {R : Ans} (h : R = ⟨⟨on, ob, oH, oG⟩, N, rn, 0⟩) (hsz : hi ≤ w9.heap.size) (rA : Sl w9 lo hi 9 A9 (oH.map Value.string)) (rB : Sl w9 lo hi 47 B9 (gflat oG)) (rT : Sl w9 lo hi 9 T9 (N.map Value.string)) (hap : Apart A9 T9) (cA : Cap A9 oH.length a9) (cB : Cap B9 oG.length b9) (hb : Below lo w w9) :
    RunO lo w w9 (.returned (outV on ob (.slice A9 oH.length a9) (.slice B9 oG.length b9) (.slice T9 N.length x9) rn 0)) R := by
  subst h
  exact ⟨A9, a9, B9, b9, T9, x9, rfl, rA.wide (Nat.le_refl _) hsz, rB.wide (Nat.le_refl _) hsz, rT.wide (Nat.le_refl _) hsz, hap, cA, cB, hb⟩
set_option maxHeartbeats 8000000 in
theorem runRet_any (t : Tpc) (s : ByteArray) (n : Int) (r : Bool) (R : Ans) (lo p : Nat) (A : Option Addr) (c : Nat) (B : Option Addr) (d : Nat) (w : World) (hf : t.fits) (hsm : t.small) (hA : Strs w w.heap.size A t.held) (hB : Grs w w.heap.size B t.groups) (hp : lo ≤ p) (HOP : ∀ W A2 a2 B2 b2, Kept w W p → topOK t → r = true → Wk W lo p t s n A2 a2 B2 b2 → Calls Try.prog 79 #[.pointer (some ⟨p, 0, none⟩)] W (OpPost lo p s n R W)) (P : Blk w p 69 [.string ⟨#[]⟩, .int .i64 0, .slice none 0 0, .slice none 0 0, .string s, .int .i64 n, .slice none 0 0, .int .i64 0]) :
    Calls Try.prog 53 #[.pointer (some ⟨p, 0, none⟩), topV t.name t.base (.slice A t.held.length c) (.slice B t.groups.length d), .bool r, (.func (.func 79) #[.pointer (some ⟨p, 0, none⟩)] #[])] w fun e w' => RunO lo w w' e (runR t r R) ∧ Kp w w' p := by
  have hlow : lo ≤ w.heap.size := Nat.le_trans hp (Nat.le_of_lt P.lt)
  have hplt := P.lt
  have TR := Lib.hid (fun W (h : Below w.heap.size w W) => implTopicRight_any t A c B d W hf (hA.on h) (hB.on h))
  have HR0 : Hid (runR t r R = _) := Lib.hid (runR.eq_def t r R)
  have HO := Lib.hid (topB_iff (t := t))
  have FT := Lib.hid (fun W (h : Below w.heap.size w W) (ho : topOK t) => freshTopic_any t A c B d W hsm.1 (fun x hx => by obtain ⟨i, hi, rfl⟩ := List.mem_iff_getElem.1 hx; exact hsm.2.1.2 i hi) (fun x hx => by obtain ⟨i, hi, rfl⟩ := List.mem_iff_getElem.1 hx; exact hsm.2.2.2 i hi) ho.2.2.1 ho.2.2.2.2.1 (hA.on h) (hB.on h))
  have PB := Lib.hid HOP
  clear HOP
  obtain ⟨rr, HRR⟩ : ∃ x, Hid (runR t r R = x) := ⟨_, Lib.hid rfl⟩
  rw [HRR.out] at HR0 ⊢
  obtain ⟨nm, bs, H, G⟩ := t
  simp only at TR HR0 FT hA hB ⊢
  have K := (Blk.fresh w 26 [.string nm, .int .i64 bs, .slice A H.length c, .slice B G.length d]).alloc (.cells #[.string ⟨#[]⟩, .int .i64 0, .slice none 0 0, .slice none 0 0, .slice none 0 0, .int .i64 0, .int .i64 0] 30)
  have O := Blk.fresh (w.alloc (.cells #[.string nm, .int .i64 bs, .slice A H.length c, .slice B G.length d] 26)) 30 [.string ⟨#[]⟩, .int .i64 0, .slice none 0 0, .slice none 0 0, .slice none 0 0, .int .i64 0, .int .i64 0]
  have hb : Below w.heap.size w ((w.alloc (.cells #[.string nm, .int .i64 bs, .slice A H.length c, .slice B G.length d] 26)).alloc (.cells #[.string ⟨#[]⟩, .int .i64 0, .slice none 0 0, .slice none 0 0, .slice none 0 0, .int .i64 0, .int .i64 0] 30)) := ((Below.refl _ _).alloc (Nat.le_refl _) _).alloc (by simp) _
  simp only [World.size_alloc] at K O
  replace K : Blk ((w.alloc (.cells #[.string nm, .int .i64 bs, .slice A H.length c, .slice B G.length d] 26)).alloc (.cells #[.string ⟨#[]⟩, .int .i64 0, .slice none 0 0, .slice none 0 0, .slice none 0 0, .int .i64 0, .int .i64 0] 30)) w.heap.size 26 [.string nm, .int .i64 bs, .slice A H.length c, .slice B G.length d] := K
  replace O : Blk ((w.alloc (.cells #[.string nm, .int .i64 bs, .slice A H.length c, .slice B G.length d] 26)).alloc (.cells #[.string ⟨#[]⟩, .int .i64 0, .slice none 0 0, .slice none 0 0, .slice none 0 0, .int .i64 0, .int .i64 0] 30)) (w.heap.size + 1) 30 [.string ⟨#[]⟩, .int .i64 0, .slice none 0 0, .slice none 0 0, .slice none 0 0, .int .i64 0, .int .i64 0] := O
  have hbw := hb
  replace hb := hb.mono hlow
  have kt := ((Kept.refl w p).alloc (.cells #[.string nm, .int .i64 bs, .slice A H.length c, .slice B G.length d] 26)).alloc (.cells #[.string ⟨#[]⟩, .int .i64 0, .slice none 0 0, .slice none 0 0, .slice none 0 0, .int .i64 0, .int .i64 0] 30)
  have kp := ((Kp.refl w p).alloc (.cells #[.string nm, .int .i64 bs, .slice A H.length c, .slice B G.length d] 26)).alloc (.cells #[.string ⟨#[]⟩, .int .i64 0, .slice none 0 0, .slice none 0 0, .slice none 0 0, .int .i64 0, .int .i64 0] 30)
  replace P := (P.alloc (.cells #[.string nm, .int .i64 bs, .slice A H.length c, .slice B G.length d] 26)).alloc (.cells #[.string ⟨#[]⟩, .int .i64 0, .slice none 0 0, .slice none 0 0, .slice none 0 0, .int .i64 0, .int .i64 0] 30)
  cases r with
  | false =>
    have HR : Hid (rr = ill 1) := Lib.hid (by rw [HR0.out, if_pos (by simp)])
    clear HR0
    go_enter Try.func53, Try.ntmps53
    go_upto_region 2 with (fail)
    generalize (w.alloc (.cells #[.string nm, .int .i64 bs, .slice A H.length c, .slice B G.length d] 26)).alloc (.cells #[.string ⟨#[]⟩, .int .i64 0, .slice none 0 0, .slice none 0 0, .slice none 0 0, .int .i64 0, .int .i64 0] 30) = v0 at K O P hb hbw kp kt ⊢
    have qc0 := O.cell (i := 0) rfl
    have qf0 := O.froz 0
    have qc1 := O.cell (i := 1) rfl
    have qf1 := O.froz 1
    have qc2 := O.cell (i := 2) rfl
    have qf2 := O.froz 2
    have qc3 := O.cell (i := 3) rfl
    have qf3 := O.froz 3
    have qc4 := O.cell (i := 4) rfl
    have qf4 := O.froz 4
    have qc5 := O.cell (i := 5) rfl
    have qf5 := O.froz 5
    have qc6 := O.cell (i := 6) rfl
    have qf6 := O.froz 6
    go_wp2
    clear qc0 qf0 qc1 qf1 qc2 qf2 qc3 qf3 qc4 qf4 qc5 qf5 qc6 qf6
    have O9 := (((((((O.put 0 (.string ⟨#[]⟩)).put 1 (.int .i64 0)).put 2 (.slice none 0 0)).put 3 (.slice none 0 0)).put 4 (.slice none 0 0)).put 5 (.int .i64 0)).put 6 (.int .i64 1))
    have hb9 := (((((((hb.setCell (p := ⟨w.heap.size + 1, 0, none⟩) (by simp <;> omega) (.string ⟨#[]⟩)).setCell (p := ⟨w.heap.size + 1, 1, none⟩) (by simp <;> omega) (.int .i64 0)).setCell (p := ⟨w.heap.size + 1, 2, none⟩) (by simp <;> omega) (.slice none 0 0)).setCell (p := ⟨w.heap.size + 1, 3, none⟩) (by simp <;> omega) (.slice none 0 0)).setCell (p := ⟨w.heap.size + 1, 4, none⟩) (by simp <;> omega) (.slice none 0 0)).setCell (p := ⟨w.heap.size + 1, 5, none⟩) (by simp <;> omega) (.int .i64 0)).setCell (p := ⟨w.heap.size + 1, 6, none⟩) (by simp <;> omega) (.int .i64 1))
    have kp9 := (((((((kp.put ⟨w.heap.size + 1, 0, none⟩ (.inr (by simp)) (.string ⟨#[]⟩)).put ⟨w.heap.size + 1, 1, none⟩ (.inr (by simp)) (.int .i64 0)).put ⟨w.heap.size + 1, 2, none⟩ (.inr (by simp)) (.slice none 0 0)).put ⟨w.heap.size + 1, 3, none⟩ (.inr (by simp)) (.slice none 0 0)).put ⟨w.heap.size + 1, 4, none⟩ (.inr (by simp)) (.slice none 0 0)).put ⟨w.heap.size + 1, 5, none⟩ (.inr (by simp)) (.int .i64 0)).put ⟨w.heap.size + 1, 6, none⟩ (.inr (by simp)) (.int .i64 1))
    simp only [List.set_cons_succ, List.set_cons_zero] at O9
    generalize ((((((v0.setCell ⟨w.heap.size + 1, 0, none⟩ (.string ⟨#[]⟩)).setCell ⟨w.heap.size + 1, 1, none⟩ (.int .i64 0)).setCell ⟨w.heap.size + 1, 2, none⟩ (.slice none 0 0)).setCell ⟨w.heap.size + 1, 3, none⟩ (.slice none 0 0)).setCell ⟨w.heap.size + 1, 4, none⟩ (.slice none 0 0)).setCell ⟨w.heap.size + 1, 5, none⟩ (.int .i64 0)).setCell ⟨w.heap.size + 1, 6, none⟩ (.int .i64 1) = w9 at O9 hb9 kp9  ⊢
    have oc0 := O9.cell (i := 0) rfl
    have oc1 := O9.cell (i := 1) rfl
    have oc2 := O9.cell (i := 2) rfl
    have oc3 := O9.cell (i := 3) rfl
    have oc4 := O9.cell (i := 4) rfl
    have oc5 := O9.cell (i := 5) rfl
    have oc6 := O9.cell (i := 6) rfl
    exact bodyPost_ret (v := .agg #[.string ⟨#[]⟩, .int .i64 0, .slice none 0 0, .slice none 0 0, .slice none 0 0, .int .i64 0, .int .i64 1]) (by simp [results, Try.results53, go_sem, oc0, oc1, oc2, oc3, oc4, oc5, oc6]) rfl (⟨by rw [HR.out]; exact RunO.ill hb9, kp9⟩)
  | true =>
  rcases Bool.eq_false_or_eq_true (topB ⟨nm, bs, H, G⟩) with hT | hT
  rotate_left
  · have HR : Hid (rr = ill 1) := Lib.hid (by rw [HR0.out, if_pos (by rw [hT]; rfl)])
    rw [hT] at TR
    clear HR0
    go_enter Try.func53, Try.ntmps53
    go_wp2_with (fail)
    generalize (w.alloc (.cells #[.string nm, .int .i64 bs, .slice A H.length c, .slice B G.length d] 26)).alloc (.cells #[.string ⟨#[]⟩, .int .i64 0, .slice none 0 0, .slice none 0 0, .slice none 0 0, .int .i64 0, .int .i64 0] 30) = v0 at K O P hb hbw kp kt ⊢
    refine (TR.out _ hbw).mono ?_
    rintro e w0 ⟨rfl, hb0⟩
    replace K := K.below hb0 K.lt
    replace O := O.below hb0 O.lt
    replace P := P.below hb0 P.lt
    replace hb := hb.trans (hb0.mono (Nat.le_trans hlow hb.size))
    replace kp := kp.below hb0
    replace kt := kt.below hb0
    have qc0 := O.cell (i := 0) rfl
    have qf0 := O.froz 0
    have qc1 := O.cell (i := 1) rfl
    have qf1 := O.froz 1
    have qc2 := O.cell (i := 2) rfl
    have qf2 := O.froz 2
    have qc3 := O.cell (i := 3) rfl
    have qf3 := O.froz 3
    have qc4 := O.cell (i := 4) rfl
    have qf4 := O.froz 4
    have qc5 := O.cell (i := 5) rfl
    have qf5 := O.froz 5
    have qc6 := O.cell (i := 6) rfl
    have qf6 := O.froz 6
    go_wp2
    clear qc0 qf0 qc1 qf1 qc2 qf2 qc3 qf3 qc4 qf4 qc5 qf5 qc6 qf6
    have O9 := (((((((O.put 0 (.string ⟨#[]⟩)).put 1 (.int .i64 0)).put 2 (.slice none 0 0)).put 3 (.slice none 0 0)).put 4 (.slice none 0 0)).put 5 (.int .i64 0)).put 6 (.int .i64 1))
    have hb9 := (((((((hb.setCell (p := ⟨w.heap.size + 1, 0, none⟩) (by simp <;> omega) (.string ⟨#[]⟩)).setCell (p := ⟨w.heap.size + 1, 1, none⟩) (by simp <;> omega) (.int .i64 0)).setCell (p := ⟨w.heap.size + 1, 2, none⟩) (by simp <;> omega) (.slice none 0 0)).setCell (p := ⟨w.heap.size + 1, 3, none⟩) (by simp <;> omega) (.slice none 0 0)).setCell (p := ⟨w.heap.size + 1, 4, none⟩) (by simp <;> omega) (.slice none 0 0)).setCell (p := ⟨w.heap.size + 1, 5, none⟩) (by simp <;> omega) (.int .i64 0)).setCell (p := ⟨w.heap.size + 1, 6, none⟩) (by simp <;> omega) (.int .i64 1))
    have kp9 := (((((((kp.put ⟨w.heap.size + 1, 0, none⟩ (.inr (by simp)) (.string ⟨#[]⟩)).put ⟨w.heap.size + 1, 1, none⟩ (.inr (by simp)) (.int .i64 0)).put ⟨w.heap.size + 1, 2, none⟩ (.inr (by simp)) (.slice none 0 0)).put ⟨w.heap.size + 1, 3, none⟩ (.inr (by simp)) (.slice none 0 0)).put ⟨w.heap.size + 1, 4, none⟩ (.inr (by simp)) (.slice none 0 0)).put ⟨w.heap.size + 1, 5, none⟩ (.inr (by simp)) (.int .i64 0)).put ⟨w.heap.size + 1, 6, none⟩ (.inr (by simp)) (.int .i64 1))
    simp only [List.set_cons_succ, List.set_cons_zero] at O9
    generalize ((((((w0.setCell ⟨w.heap.size + 1, 0, none⟩ (.string ⟨#[]⟩)).setCell ⟨w.heap.size + 1, 1, none⟩ (.int .i64 0)).setCell ⟨w.heap.size + 1, 2, none⟩ (.slice none 0 0)).setCell ⟨w.heap.size + 1, 3, none⟩ (.slice none 0 0)).setCell ⟨w.heap.size + 1, 4, none⟩ (.slice none 0 0)).setCell ⟨w.heap.size + 1, 5, none⟩ (.int .i64 0)).setCell ⟨w.heap.size + 1, 6, none⟩ (.int .i64 1) = w9 at O9 hb9 kp9  ⊢
    have oc0 := O9.cell (i := 0) rfl
    have oc1 := O9.cell (i := 1) rfl
    have oc2 := O9.cell (i := 2) rfl
    have oc3 := O9.cell (i := 3) rfl
    have oc4 := O9.cell (i := 4) rfl
    have oc5 := O9.cell (i := 5) rfl
    have oc6 := O9.cell (i := 6) rfl
    exact bodyPost_ret (v := .agg #[.string ⟨#[]⟩, .int .i64 0, .slice none 0 0, .slice none 0 0, .slice none 0 0, .int .i64 0, .int .i64 1]) (by simp [results, Try.results53, go_sem, oc0, oc1, oc2, oc3, oc4, oc5, oc6]) rfl (⟨by rw [HR.out]; exact RunO.ill hb9, kp9⟩)
  rw [hT] at TR
  have hO := HO.out.1 hT
  have HR1 : Hid (rr = R) := Lib.hid (by rw [HR0.out, if_neg (by rw [hT]; decide)])
  have FT1 := Lib.hid (fun W h => FT.out W h hO)
  have PB1 := Lib.hid (fun W A2 a2 B2 b2 k h => PB.out W A2 a2 B2 b2 k hO rfl h)
  clear HR0 FT PB HO hO hT
  go_enter Try.func53, Try.ntmps53
  go_wp2_with (fail)
  generalize (w.alloc (.cells #[.string nm, .int .i64 bs, .slice A H.length c, .slice B G.length d] 26)).alloc (.cells #[.string ⟨#[]⟩, .int .i64 0, .slice none 0 0, .slice none 0 0, .slice none 0 0, .int .i64 0, .int .i64 0] 30) = v0 at K O P hb hbw kp kt ⊢
  refine (TR.out _ hbw).mono ?_
  rintro e w1 ⟨rfl, hb1⟩
  replace K := K.below hb1 K.lt
  replace O := O.below hb1 O.lt
  replace P := P.below hb1 P.lt
  replace hb := hb.trans (hb1.mono (Nat.le_trans hlow hb.size))
  replace kp := kp.below hb1
  replace kt := kt.below hb1
  replace hbw := hbw.trans (hb1.mono hbw.size)
  clear TR hb1
  have kc0 := K.cell (i := 0) rfl
  have kc1 := K.cell (i := 1) rfl
  have kc2 := K.cell (i := 2) rfl
  have kc3 := K.cell (i := 3) rfl
  go_wp2_with (fail)
  refine (FT1.out _ hbw).mono ?_
  rintro e w2 ⟨A2, a2, B2, b2, rfl, oS, oG, hb2⟩
  have hl1 : lo ≤ w1.heap.size := Nat.le_trans hlow hbw.size
  clear kc0 kc1 kc2 kc3
  replace K := K.below hb2 K.lt
  replace O := O.below hb2 O.lt
  replace P := P.below hb2 P.lt
  replace hb := hb.trans (hb2.mono (Nat.le_trans hlow hb.size))
  replace kp := kp.below hb2
  replace kt := kt.below hb2
  replace oS : OwnS w2 lo (.slice A2 H.length a2) H := own_base oS hl1
  replace oG : OwnG w2 lo (.slice B2 G.length b2) G := own_base oG hl1
  have hl2 : lo ≤ w2.heap.size := Nat.le_trans hl1 hb2.size
  clear FT1 hb2 hbw
  have uc0 := P.cell (i := 0) rfl
  have uf0 := P.froz 0
  have uc1 := P.cell (i := 1) rfl
  have uf1 := P.froz 1
  have uc2 := P.cell (i := 2) rfl
  have uf2 := P.froz 2
  have uc3 := P.cell (i := 3) rfl
  have uf3 := P.froz 3
  go_wp2_with (fail)
  clear uc0 uf0 uc1 uf1 uc2 uf2 uc3 uf3
  have nS := own_not oS P (by decide)
  have nG := own_not oG P (by decide)
  have P3 := ((((P.put 0 (.string nm)).put 1 (.int .i64 bs)).put 2 (.slice A2 H.length a2)).put 3 (.slice B2 G.length b2))
  have O3 := ((((O.far (p := ⟨p, 0, none⟩) (by simp <;> omega) (.string nm)).far (p := ⟨p, 1, none⟩) (by simp <;> omega) (.int .i64 bs)).far (p := ⟨p, 2, none⟩) (by simp <;> omega) (.slice A2 H.length a2)).far (p := ⟨p, 3, none⟩) (by simp <;> omega) (.slice B2 G.length b2))
  have oS3 := (row_off (row_off (row_off (row_off oS (p := ⟨p, 0, none⟩) nS (.string nm)) (p := ⟨p, 1, none⟩) nS (.int .i64 bs)) (p := ⟨p, 2, none⟩) nS (.slice A2 H.length a2)) (p := ⟨p, 3, none⟩) nS (.slice B2 G.length b2))
  have oG3 := (row_off (row_off (row_off (row_off oG (p := ⟨p, 0, none⟩) nG (.string nm)) (p := ⟨p, 1, none⟩) nG (.int .i64 bs)) (p := ⟨p, 2, none⟩) nG (.slice A2 H.length a2)) (p := ⟨p, 3, none⟩) nG (.slice B2 G.length b2))
  have hb3 := ((((hb.setCell (p := ⟨p, 0, none⟩) (by simp <;> omega) (.string nm)).setCell (p := ⟨p, 1, none⟩) (by simp <;> omega) (.int .i64 bs)).setCell (p := ⟨p, 2, none⟩) (by simp <;> omega) (.slice A2 H.length a2)).setCell (p := ⟨p, 3, none⟩) (by simp <;> omega) (.slice B2 G.length b2))
  have kp3 := ((((kp.put ⟨p, 0, none⟩ (.inl rfl) (.string nm)).put ⟨p, 1, none⟩ (.inl rfl) (.int .i64 bs)).put ⟨p, 2, none⟩ (.inl rfl) (.slice A2 H.length a2)).put ⟨p, 3, none⟩ (.inl rfl) (.slice B2 G.length b2))
  have kt3 := ((((kt.put ⟨p, 0, none⟩ (.inl rfl) (.string nm)).put ⟨p, 1, none⟩ (.inl rfl) (.int .i64 bs)).put ⟨p, 2, none⟩ (.inl rfl) (.slice A2 H.length a2)).put ⟨p, 3, none⟩ (.inl rfl) (.slice B2 G.length b2))
  simp only [List.set_cons_succ, List.set_cons_zero] at P3
  generalize (((w2.setCell ⟨p, 0, none⟩ (.string nm)).setCell ⟨p, 1, none⟩ (.int .i64 bs)).setCell ⟨p, 2, none⟩ (.slice A2 H.length a2)).setCell ⟨p, 3, none⟩ (.slice B2 G.length b2) = w3 at P3 O3 oS3 oG3 hb3 kp3 kt3 ⊢
  clear P O K oS oG hb nS nG
  have hz3 := O3.lt
  obtain ⟨⟨on, ob, oH, oG⟩, N, rn, cd⟩ := R
  have PB2 := PB1.out w3 A2 a2 B2 b2 kt3 ⟨P3, oS3, oG3⟩
  clear PB1
  go_wp2_with (fail)
  refine PB2.mono ?_
  rintro e w4 ⟨hb4, hkp, rfl, hpost⟩
  have O4 := hkp _ _ (Nat.ne_of_gt (Nat.lt_of_lt_of_le hplt (Nat.le_succ _))) O3
  have hb5 := hb3.trans hb4
  replace kp := kp3.then hkp
  clear kp3 kt3 kt PB2 P3 O3 oS3 oG3 hb3 hb4 hkp
  simp only at hpost
  rcases hpost with ⟨hcd, hil⟩ | ⟨hcd, A9, a9, B9, b9, T9, x9, P4, sA, sB, sT, hap, cA, cB⟩
  · have HR : Hid (rr = ill cd) := Lib.hid (by rw [HR1.out, hil])
    clear HR1 hil
    have hd : (cd != 0) = true := by simpa using hcd
    have O := O4
    have hb := hb5
    have qc0 := O.cell (i := 0) rfl
    have qf0 := O.froz 0
    have qc1 := O.cell (i := 1) rfl
    have qf1 := O.froz 1
    have qc2 := O.cell (i := 2) rfl
    have qf2 := O.froz 2
    have qc3 := O.cell (i := 3) rfl
    have qf3 := O.froz 3
    have qc4 := O.cell (i := 4) rfl
    have qf4 := O.froz 4
    have qc5 := O.cell (i := 5) rfl
    have qf5 := O.froz 5
    have qc6 := O.cell (i := 6) rfl
    have qf6 := O.froz 6
    go_wp2
    clear qc0 qf0 qc1 qf1 qc2 qf2 qc3 qf3 qc4 qf4 qc5 qf5 qc6 qf6
    have O9 := (((((((O.put 0 (.string ⟨#[]⟩)).put 1 (.int .i64 0)).put 2 (.slice none 0 0)).put 3 (.slice none 0 0)).put 4 (.slice none 0 0)).put 5 (.int .i64 0)).put 6 (.int .i64 cd))
    have hb9 := (((((((hb.setCell (p := ⟨w.heap.size + 1, 0, none⟩) (by simp <;> omega) (.string ⟨#[]⟩)).setCell (p := ⟨w.heap.size + 1, 1, none⟩) (by simp <;> omega) (.int .i64 0)).setCell (p := ⟨w.heap.size + 1, 2, none⟩) (by simp <;> omega) (.slice none 0 0)).setCell (p := ⟨w.heap.size + 1, 3, none⟩) (by simp <;> omega) (.slice none 0 0)).setCell (p := ⟨w.heap.size + 1, 4, none⟩) (by simp <;> omega) (.slice none 0 0)).setCell (p := ⟨w.heap.size + 1, 5, none⟩) (by simp <;> omega) (.int .i64 0)).setCell (p := ⟨w.heap.size + 1, 6, none⟩) (by simp <;> omega) (.int .i64 cd))
    have kp9 := (((((((kp.put ⟨w.heap.size + 1, 0, none⟩ (.inr (by simp)) (.string ⟨#[]⟩)).put ⟨w.heap.size + 1, 1, none⟩ (.inr (by simp)) (.int .i64 0)).put ⟨w.heap.size + 1, 2, none⟩ (.inr (by simp)) (.slice none 0 0)).put ⟨w.heap.size + 1, 3, none⟩ (.inr (by simp)) (.slice none 0 0)).put ⟨w.heap.size + 1, 4, none⟩ (.inr (by simp)) (.slice none 0 0)).put ⟨w.heap.size + 1, 5, none⟩ (.inr (by simp)) (.int .i64 0)).put ⟨w.heap.size + 1, 6, none⟩ (.inr (by simp)) (.int .i64 cd))
    simp only [List.set_cons_succ, List.set_cons_zero] at O9
    generalize ((((((w4.setCell ⟨w.heap.size + 1, 0, none⟩ (.string ⟨#[]⟩)).setCell ⟨w.heap.size + 1, 1, none⟩ (.int .i64 0)).setCell ⟨w.heap.size + 1, 2, none⟩ (.slice none 0 0)).setCell ⟨w.heap.size + 1, 3, none⟩ (.slice none 0 0)).setCell ⟨w.heap.size + 1, 4, none⟩ (.slice none 0 0)).setCell ⟨w.heap.size + 1, 5, none⟩ (.int .i64 0)).setCell ⟨w.heap.size + 1, 6, none⟩ (.int .i64 cd) = w9 at O9 hb9 kp9  ⊢
    have oc0 := O9.cell (i := 0) rfl
    have oc1 := O9.cell (i := 1) rfl
    have oc2 := O9.cell (i := 2) rfl
    have oc3 := O9.cell (i := 3) rfl
    have oc4 := O9.cell (i := 4) rfl
    have oc5 := O9.cell (i := 5) rfl
    have oc6 := O9.cell (i := 6) rfl
    exact bodyPost_ret (v := .agg #[.string ⟨#[]⟩, .int .i64 0, .slice none 0 0, .slice none 0 0, .slice none 0 0, .int .i64 0, .int .i64 cd]) (by simp [results, Try.results53, go_sem, oc0, oc1, oc2, oc3, oc4, oc5, oc6]) rfl (⟨by rw [HR.out]; exact RunO.ill hb9, kp9⟩)
  subst hcd
  have HR : Hid (rr = ⟨⟨on, ob, oH, oG⟩, N, rn, 0⟩) := HR1
  clear HR1
  replace O4 : Blk w4 (w.heap.size + 1) 30 _ := O4
  go_wp2_with (fail)
  obtain ⟨I, fw, hI, g5', h6, g6', g7'⟩ := class_grown w4
  have bb0 := fun q => kept_cell (h6 q) (P4.cell (i := 0) rfl)
  have bb1 := fun q => kept_cell (h6 q) (P4.cell (i := 1) rfl)
  have bb2 := fun q => kept_cell (h6 q) (P4.cell (i := 2) rfl)
  have bb3 := fun q => kept_cell (h6 q) (P4.cell (i := 3) rfl)
  have bb6 := fun q => kept_cell (h6 q) (P4.cell (i := 6) rfl)
  have bb7 := fun q => kept_cell (h6 q) (P4.cell (i := 7) rfl)
  have G7 := Lib.hid g7'
  clear h6 g7' g6'
  refine wp_region_class_tail (C := fun w' => ∃ q, w' = fw q) 13 (by kernel_rfl) (by kernel_rfl) g5' ?_
  simp only [List.take_succ_cons, List.take_zero, List.drop_succ_cons, List.drop_zero]
  repeat (first
    | go_big_quiet_skip
    | (go_big_quiet_want; go_big_quiet_op; go_big_quiet_on))
  refine wpQuiet_nil ?_
  intro w6 h6
  have hb67 := G7.out _ h6
  have hb := hb5.trans (hb67.mono (Nat.le_trans (Nat.le_trans hlow (Nat.le_of_lt (Nat.lt_of_succ_lt O4.lt))) (Nat.le_refl _)))
  have O := O4.below hb67 O4.lt
  replace kp := kp.below hb67
  replace sA := sA.below hb67
  replace sB := sB.below hb67
  replace sT := sT.below hb67
  have hz46 := hb67.size
  clear bb0 bb1 bb2 bb3 bb6 bb7 g5' h6 P4 hb67 O4 hb5
  have qc0 := O.cell (i := 0) rfl
  have qf0 := O.froz 0
  have qc1 := O.cell (i := 1) rfl
  have qf1 := O.froz 1
  have qc2 := O.cell (i := 2) rfl
  have qf2 := O.froz 2
  have qc3 := O.cell (i := 3) rfl
  have qf3 := O.froz 3
  have qc4 := O.cell (i := 4) rfl
  have qf4 := O.froz 4
  have qc5 := O.cell (i := 5) rfl
  have qf5 := O.froz 5
  have qc6 := O.cell (i := 6) rfl
  have qf6 := O.froz 6
  go_wp2
  clear qc0 qf0 qc1 qf1 qc2 qf2 qc3 qf3 qc4 qf4 qc5 qf5 qc6 qf6
  have hsz : w4.heap.size ≤ (((((((w6.setCell ⟨w.heap.size + 1, 0, none⟩ (.string on)).setCell ⟨w.heap.size + 1, 1, none⟩ (.int .i64 ob)).setCell ⟨w.heap.size + 1, 2, none⟩ (.slice A9 oH.length a9)).setCell ⟨w.heap.size + 1, 3, none⟩ (.slice B9 oG.length b9)).setCell ⟨w.heap.size + 1, 4, none⟩ (.slice T9 N.length x9)).setCell ⟨w.heap.size + 1, 5, none⟩ (.int .i64 rn)).setCell ⟨w.heap.size + 1, 6, none⟩ (.int .i64 0)).heap.size := by simpa [World.setCell] using hz46
  have rA := (((((((sA.off O (by decide) 0 (.string on)).off (O.put 0 (.string on)) (by decide) 1 (.int .i64 ob)).off ((O.put 0 (.string on)).put 1 (.int .i64 ob)) (by decide) 2 (.slice A9 oH.length a9)).off (((O.put 0 (.string on)).put 1 (.int .i64 ob)).put 2 (.slice A9 oH.length a9)) (by decide) 3 (.slice B9 oG.length b9)).off ((((O.put 0 (.string on)).put 1 (.int .i64 ob)).put 2 (.slice A9 oH.length a9)).put 3 (.slice B9 oG.length b9)) (by decide) 4 (.slice T9 N.length x9)).off (((((O.put 0 (.string on)).put 1 (.int .i64 ob)).put 2 (.slice A9 oH.length a9)).put 3 (.slice B9 oG.length b9)).put 4 (.slice T9 N.length x9)) (by decide) 5 (.int .i64 rn)).off ((((((O.put 0 (.string on)).put 1 (.int .i64 ob)).put 2 (.slice A9 oH.length a9)).put 3 (.slice B9 oG.length b9)).put 4 (.slice T9 N.length x9)).put 5 (.int .i64 rn)) (by decide) 6 (.int .i64 0))
  have rB := (((((((sB.off O (by decide) 0 (.string on)).off (O.put 0 (.string on)) (by decide) 1 (.int .i64 ob)).off ((O.put 0 (.string on)).put 1 (.int .i64 ob)) (by decide) 2 (.slice A9 oH.length a9)).off (((O.put 0 (.string on)).put 1 (.int .i64 ob)).put 2 (.slice A9 oH.length a9)) (by decide) 3 (.slice B9 oG.length b9)).off ((((O.put 0 (.string on)).put 1 (.int .i64 ob)).put 2 (.slice A9 oH.length a9)).put 3 (.slice B9 oG.length b9)) (by decide) 4 (.slice T9 N.length x9)).off (((((O.put 0 (.string on)).put 1 (.int .i64 ob)).put 2 (.slice A9 oH.length a9)).put 3 (.slice B9 oG.length b9)).put 4 (.slice T9 N.length x9)) (by decide) 5 (.int .i64 rn)).off ((((((O.put 0 (.string on)).put 1 (.int .i64 ob)).put 2 (.slice A9 oH.length a9)).put 3 (.slice B9 oG.length b9)).put 4 (.slice T9 N.length x9)).put 5 (.int .i64 rn)) (by decide) 6 (.int .i64 0))
  have rT := (((((((sT.off O (by decide) 0 (.string on)).off (O.put 0 (.string on)) (by decide) 1 (.int .i64 ob)).off ((O.put 0 (.string on)).put 1 (.int .i64 ob)) (by decide) 2 (.slice A9 oH.length a9)).off (((O.put 0 (.string on)).put 1 (.int .i64 ob)).put 2 (.slice A9 oH.length a9)) (by decide) 3 (.slice B9 oG.length b9)).off ((((O.put 0 (.string on)).put 1 (.int .i64 ob)).put 2 (.slice A9 oH.length a9)).put 3 (.slice B9 oG.length b9)) (by decide) 4 (.slice T9 N.length x9)).off (((((O.put 0 (.string on)).put 1 (.int .i64 ob)).put 2 (.slice A9 oH.length a9)).put 3 (.slice B9 oG.length b9)).put 4 (.slice T9 N.length x9)) (by decide) 5 (.int .i64 rn)).off ((((((O.put 0 (.string on)).put 1 (.int .i64 ob)).put 2 (.slice A9 oH.length a9)).put 3 (.slice B9 oG.length b9)).put 4 (.slice T9 N.length x9)).put 5 (.int .i64 rn)) (by decide) 6 (.int .i64 0))
  have O9 := (((((((O.put 0 (.string on)).put 1 (.int .i64 ob)).put 2 (.slice A9 oH.length a9)).put 3 (.slice B9 oG.length b9)).put 4 (.slice T9 N.length x9)).put 5 (.int .i64 rn)).put 6 (.int .i64 0))
  have hb9 := (((((((hb.setCell (p := ⟨w.heap.size + 1, 0, none⟩) (by simp <;> omega) (.string on)).setCell (p := ⟨w.heap.size + 1, 1, none⟩) (by simp <;> omega) (.int .i64 ob)).setCell (p := ⟨w.heap.size + 1, 2, none⟩) (by simp <;> omega) (.slice A9 oH.length a9)).setCell (p := ⟨w.heap.size + 1, 3, none⟩) (by simp <;> omega) (.slice B9 oG.length b9)).setCell (p := ⟨w.heap.size + 1, 4, none⟩) (by simp <;> omega) (.slice T9 N.length x9)).setCell (p := ⟨w.heap.size + 1, 5, none⟩) (by simp <;> omega) (.int .i64 rn)).setCell (p := ⟨w.heap.size + 1, 6, none⟩) (by simp <;> omega) (.int .i64 0))
  have kp9 := (((((((kp.put ⟨w.heap.size + 1, 0, none⟩ (.inr (by simp)) (.string on)).put ⟨w.heap.size + 1, 1, none⟩ (.inr (by simp)) (.int .i64 ob)).put ⟨w.heap.size + 1, 2, none⟩ (.inr (by simp)) (.slice A9 oH.length a9)).put ⟨w.heap.size + 1, 3, none⟩ (.inr (by simp)) (.slice B9 oG.length b9)).put ⟨w.heap.size + 1, 4, none⟩ (.inr (by simp)) (.slice T9 N.length x9)).put ⟨w.heap.size + 1, 5, none⟩ (.inr (by simp)) (.int .i64 rn)).put ⟨w.heap.size + 1, 6, none⟩ (.inr (by simp)) (.int .i64 0))
  simp only [List.set_cons_succ, List.set_cons_zero] at O9
  generalize ((((((w6.setCell ⟨w.heap.size + 1, 0, none⟩ (.string on)).setCell ⟨w.heap.size + 1, 1, none⟩ (.int .i64 ob)).setCell ⟨w.heap.size + 1, 2, none⟩ (.slice A9 oH.length a9)).setCell ⟨w.heap.size + 1, 3, none⟩ (.slice B9 oG.length b9)).setCell ⟨w.heap.size + 1, 4, none⟩ (.slice T9 N.length x9)).setCell ⟨w.heap.size + 1, 5, none⟩ (.int .i64 rn)).setCell ⟨w.heap.size + 1, 6, none⟩ (.int .i64 0) = w9 at O9 hb9 kp9 hsz rA rB rT  ⊢
  have oc0 := O9.cell (i := 0) rfl
  have oc1 := O9.cell (i := 1) rfl
  have oc2 := O9.cell (i := 2) rfl
  have oc3 := O9.cell (i := 3) rfl
  have oc4 := O9.cell (i := 4) rfl
  have oc5 := O9.cell (i := 5) rfl
  have oc6 := O9.cell (i := 6) rfl
  exact bodyPost_ret (v := .agg #[.string on, .int .i64 ob, .slice A9 oH.length a9, .slice B9 oG.length b9, .slice T9 N.length x9, .int .i64 rn, .int .i64 0]) (by simp [results, Try.results53, go_sem, oc0, oc1, oc2, oc3, oc4, oc5, oc6]) rfl (⟨run_out HR.out hsz rA rB rT hap cA cB hb9, kp9⟩)
end Go.Proofs.Ytjmmffhndecikaa

namespace Go.Proofs.Ytjmmffhndecikaa
open Go.RowKit
set_option linter.unusedVariables false
set_option maxRecDepth 1000000
theorem l01Max_any (a b : Int) (w : World) : Calls Try.prog 80 #[.int .i64 a, .int .i64 b] w fun e w' => e = .returned (.int .i64 (max a b)) ∧ w' = w := by
  by_cases h : b < a
  · go_enter Try.func80, Try.ntmps80
    go_wp2
    go_ret
    exact ⟨retI (by show a = max a b; omega), rfl⟩
  · go_enter Try.func80, Try.ntmps80
    go_wp2
    go_ret
    exact ⟨retI (by show b = max a b; omega), rfl⟩
theorem ret_end {w w9 : World} {lo : Nat} {nm : ByteArray} {b : Int} {m : Nat} {H : List ByteArray} {G : List Grp} {A3 B2 : Option Addr} {c3 d2 : Nat} {R : Ans} (h : R = ⟨⟨nm, b, H.drop m, G.map (upG b)⟩, [], m, 0⟩) (hC : Cap A3 (H.length - m) c3) (hS : Strs w9 w9.heap.size A3 (H.drop m)) (hG : w9.ownsRow lo 47 2 (.slice B2 G.length d2) G.length (gflat (G.map (upG b)))) (hb : Below w.heap.size w w9) :
    SpO w w9 (.returned (outV nm b (.slice A3 (H.length - m) c3) (.slice B2 G.length d2) (.slice none 0 0) m 0)) R := by
  subst h
  have e1 : (H.drop m).length = H.length - m := by simp
  have e2 : (G.map (upG b)).length = G.length := by simp
  have hG' : OwnG w9 lo (.slice B2 G.length d2) (G.map (upG b)) := by unfold OwnG; rw [e2]; exact hG
  refine ⟨A3, c3, B2, d2, none, 0, by rw [e1, e2]; rfl, hS, hG'.grs, strs_nil _ _ _, by rw [e1]; exact hC, ?_, hb⟩
  have := Cap.own hG'
  exact this
set_option maxHeartbeats 8000000 in
theorem specTopicRetain_any (t : Tpc) (keep : Int) (A : Option Addr) (c : Nat) (B : Option Addr) (d : Nat) (w : World) (hf : t.fits) (hk : (Lit.int .i64 keep).wf = true) (hA : Strs w w.heap.size A t.held) (hB : Grs w w.heap.size B t.groups) (hc : Cap A t.held.length c) (hd : Cap B t.groups.length d) :
    Calls Try.prog 40 #[topV t.name t.base (.slice A t.held.length c) (.slice B t.groups.length d), .int .i64 keep] w fun e w' => SpO w w' e (retT t keep) := by
  have TR := Lib.hid (fun W (h : Below w.heap.size w W) => specTopicRight_any t A c B d W hf (hA.on h) (hB.on h))
  have HR0 : Hid (retT t keep = _) := Lib.hid (retT.eq_def t keep)
  have HO := Lib.hid (topB_iff (t := t))
  obtain ⟨m, HM⟩ : ∃ m, Hid (goneN t keep = m) := ⟨_, Lib.hid rfl⟩
  have hml := gone_le t keep
  have HMX := Lib.hid (fun h => gone_max (n := t.held.length) (keep := keep) h)
  have HMD : Hid (goneN t keep = t.held.length - keep.toNat) := Lib.hid rfl
  rw [HM.out] at HR0 hml HMD
  rw [← HMD.out] at HMX
  generalize retT t keep = R at HR0 ⊢
  obtain ⟨nm, bs, H, G⟩ := t
  simp only at TR HR0 hA hB hc hd hml HMX ⊢
  have K := (Blk.fresh w 26 [.string nm, .int .i64 bs, .slice A H.length c, .slice B G.length d]).alloc (.cells #[.string ⟨#[]⟩, .int .i64 0, .slice none 0 0, .slice none 0 0, .slice none 0 0, .int .i64 0, .int .i64 0] 30)
  have O := Blk.fresh (w.alloc (.cells #[.string nm, .int .i64 bs, .slice A H.length c, .slice B G.length d] 26)) 30 [.string ⟨#[]⟩, .int .i64 0, .slice none 0 0, .slice none 0 0, .slice none 0 0, .int .i64 0, .int .i64 0]
  have hb : Below w.heap.size w ((w.alloc (.cells #[.string nm, .int .i64 bs, .slice A H.length c, .slice B G.length d] 26)).alloc (.cells #[.string ⟨#[]⟩, .int .i64 0, .slice none 0 0, .slice none 0 0, .slice none 0 0, .int .i64 0, .int .i64 0] 30)) := ((Below.refl _ _).alloc (Nat.le_refl _) _).alloc (by simp) _
  simp only [World.size_alloc] at K O
  replace K : Blk ((w.alloc (.cells #[.string nm, .int .i64 bs, .slice A H.length c, .slice B G.length d] 26)).alloc (.cells #[.string ⟨#[]⟩, .int .i64 0, .slice none 0 0, .slice none 0 0, .slice none 0 0, .int .i64 0, .int .i64 0] 30)) w.heap.size 26 [.string nm, .int .i64 bs, .slice A H.length c, .slice B G.length d] := K
  replace O : Blk ((w.alloc (.cells #[.string nm, .int .i64 bs, .slice A H.length c, .slice B G.length d] 26)).alloc (.cells #[.string ⟨#[]⟩, .int .i64 0, .slice none 0 0, .slice none 0 0, .slice none 0 0, .int .i64 0, .int .i64 0] 30)) (w.heap.size + 1) 30 [.string ⟨#[]⟩, .int .i64 0, .slice none 0 0, .slice none 0 0, .slice none 0 0, .int .i64 0, .int .i64 0] := O
  rcases Bool.eq_false_or_eq_true (topB ⟨nm, bs, H, G⟩) with hT | hT
  rotate_left
  · have HR : Hid (R = ill 1) := Lib.hid (by rw [HR0.out, if_pos (by rw [hT]; rfl)])
    rw [hT] at TR
    go_enter Try.func40, Try.ntmps40
    go_wp2_with (fail)
    generalize (w.alloc (.cells #[.string nm, .int .i64 bs, .slice A H.length c, .slice B G.length d] 26)).alloc (.cells #[.string ⟨#[]⟩, .int .i64 0, .slice none 0 0, .slice none 0 0, .slice none 0 0, .int .i64 0, .int .i64 0] 30) = v0 at K O hb ⊢
    refine (TR.out _ hb).mono ?_
    rintro e w0 ⟨rfl, hb0⟩
    replace K := K.below hb0 K.lt
    replace O := O.below hb0 O.lt
    replace hb := hb.trans (hb0.mono hb.size)
    go_wp2_with (fail)
    refine (l07Ill_any 1 _).mono ?_
    rintro e w1 ⟨rfl, hb1⟩
    replace K := K.below hb1 K.lt
    replace O := O.below hb1 O.lt
    replace hb := hb.trans (hb1.mono hb.size)
    have qc0 := O.cell (i := 0) rfl
    have qf0 := O.froz 0
    have qc1 := O.cell (i := 1) rfl
    have qf1 := O.froz 1
    have qc2 := O.cell (i := 2) rfl
    have qf2 := O.froz 2
    have qc3 := O.cell (i := 3) rfl
    have qf3 := O.froz 3
    have qc4 := O.cell (i := 4) rfl
    have qf4 := O.froz 4
    have qc5 := O.cell (i := 5) rfl
    have qf5 := O.froz 5
    have qc6 := O.cell (i := 6) rfl
    have qf6 := O.froz 6
    go_wp2
    clear qc0 qf0 qc1 qf1 qc2 qf2 qc3 qf3 qc4 qf4 qc5 qf5 qc6 qf6
    have O9 := (((((((O.put 0 (.string ⟨#[]⟩)).put 1 (.int .i64 0)).put 2 (.slice none 0 0)).put 3 (.slice none 0 0)).put 4 (.slice none 0 0)).put 5 (.int .i64 0)).put 6 (.int .i64 1))
    have hb9 := (((((((hb.setCell (p := ⟨w.heap.size + 1, 0, none⟩) (by simp <;> omega) (.string ⟨#[]⟩)).setCell (p := ⟨w.heap.size + 1, 1, none⟩) (by simp <;> omega) (.int .i64 0)).setCell (p := ⟨w.heap.size + 1, 2, none⟩) (by simp <;> omega) (.slice none 0 0)).setCell (p := ⟨w.heap.size + 1, 3, none⟩) (by simp <;> omega) (.slice none 0 0)).setCell (p := ⟨w.heap.size + 1, 4, none⟩) (by simp <;> omega) (.slice none 0 0)).setCell (p := ⟨w.heap.size + 1, 5, none⟩) (by simp <;> omega) (.int .i64 0)).setCell (p := ⟨w.heap.size + 1, 6, none⟩) (by simp <;> omega) (.int .i64 1))
    simp only [List.set_cons_succ, List.set_cons_zero] at O9
    generalize ((((((w1.setCell ⟨w.heap.size + 1, 0, none⟩ (.string ⟨#[]⟩)).setCell ⟨w.heap.size + 1, 1, none⟩ (.int .i64 0)).setCell ⟨w.heap.size + 1, 2, none⟩ (.slice none 0 0)).setCell ⟨w.heap.size + 1, 3, none⟩ (.slice none 0 0)).setCell ⟨w.heap.size + 1, 4, none⟩ (.slice none 0 0)).setCell ⟨w.heap.size + 1, 5, none⟩ (.int .i64 0)).setCell ⟨w.heap.size + 1, 6, none⟩ (.int .i64 1) = w9 at O9 hb9  ⊢
    have oc0 := O9.cell (i := 0) rfl
    have oc1 := O9.cell (i := 1) rfl
    have oc2 := O9.cell (i := 2) rfl
    have oc3 := O9.cell (i := 3) rfl
    have oc4 := O9.cell (i := 4) rfl
    have oc5 := O9.cell (i := 5) rfl
    have oc6 := O9.cell (i := 6) rfl
    exact bodyPost_ret (v := .agg #[.string ⟨#[]⟩, .int .i64 0, .slice none 0 0, .slice none 0 0, .slice none 0 0, .int .i64 0, .int .i64 1]) (by simp [results, Try.results40, go_sem, oc0, oc1, oc2, oc3, oc4, oc5, oc6]) rfl (by rw [HR.out]; exact SpO.ill hb9)
  rw [hT] at TR
  have hO := HO.out.1 hT
  have hbs := inB_true hO.2.1
  have hl : H.length ≤ 20 := hO.2.2.1
  have hg4 : G.length ≤ 4 := hO.2.2.2.2.1
  clear HO hO
  rcases Bool.eq_false_or_eq_true (inB keep 0 20) with hM | hM
  rotate_left
  · have HR : Hid (R = ill 1) := Lib.hid (by rw [HR0.out, if_pos (by rw [hM, Bool.and_false])])
    have IS := is3 hM
    go_enter Try.func40, Try.ntmps40
    go_wp2_with (fail)
    generalize (w.alloc (.cells #[.string nm, .int .i64 bs, .slice A H.length c, .slice B G.length d] 26)).alloc (.cells #[.string ⟨#[]⟩, .int .i64 0, .slice none 0 0, .slice none 0 0, .slice none 0 0, .int .i64 0, .int .i64 0] 30) = v0 at K O hb ⊢
    refine (TR.out _ hb).mono ?_
    rintro e w0 ⟨rfl, hb0⟩
    replace K := K.below hb0 K.lt
    replace O := O.below hb0 O.lt
    replace hb := hb.trans (hb0.mono hb.size)
    go_wp2_with (fail)
    refine (IS _).mono ?_
    rintro e w0' ⟨rfl, rfl⟩
    go_wp2_with (fail)
    refine (l07Ill_any 1 _).mono ?_
    rintro e w1 ⟨rfl, hb1⟩
    replace K := K.below hb1 K.lt
    replace O := O.below hb1 O.lt
    replace hb := hb.trans (hb1.mono hb.size)
    have qc0 := O.cell (i := 0) rfl
    have qf0 := O.froz 0
    have qc1 := O.cell (i := 1) rfl
    have qf1 := O.froz 1
    have qc2 := O.cell (i := 2) rfl
    have qf2 := O.froz 2
    have qc3 := O.cell (i := 3) rfl
    have qf3 := O.froz 3
    have qc4 := O.cell (i := 4) rfl
    have qf4 := O.froz 4
    have qc5 := O.cell (i := 5) rfl
    have qf5 := O.froz 5
    have qc6 := O.cell (i := 6) rfl
    have qf6 := O.froz 6
    go_wp2
    clear qc0 qf0 qc1 qf1 qc2 qf2 qc3 qf3 qc4 qf4 qc5 qf5 qc6 qf6
    have O9 := (((((((O.put 0 (.string ⟨#[]⟩)).put 1 (.int .i64 0)).put 2 (.slice none 0 0)).put 3 (.slice none 0 0)).put 4 (.slice none 0 0)).put 5 (.int .i64 0)).put 6 (.int .i64 1))
    have hb9 := (((((((hb.setCell (p := ⟨w.heap.size + 1, 0, none⟩) (by simp <;> omega) (.string ⟨#[]⟩)).setCell (p := ⟨w.heap.size + 1, 1, none⟩) (by simp <;> omega) (.int .i64 0)).setCell (p := ⟨w.heap.size + 1, 2, none⟩) (by simp <;> omega) (.slice none 0 0)).setCell (p := ⟨w.heap.size + 1, 3, none⟩) (by simp <;> omega) (.slice none 0 0)).setCell (p := ⟨w.heap.size + 1, 4, none⟩) (by simp <;> omega) (.slice none 0 0)).setCell (p := ⟨w.heap.size + 1, 5, none⟩) (by simp <;> omega) (.int .i64 0)).setCell (p := ⟨w.heap.size + 1, 6, none⟩) (by simp <;> omega) (.int .i64 1))
    simp only [List.set_cons_succ, List.set_cons_zero] at O9
    generalize ((((((w1.setCell ⟨w.heap.size + 1, 0, none⟩ (.string ⟨#[]⟩)).setCell ⟨w.heap.size + 1, 1, none⟩ (.int .i64 0)).setCell ⟨w.heap.size + 1, 2, none⟩ (.slice none 0 0)).setCell ⟨w.heap.size + 1, 3, none⟩ (.slice none 0 0)).setCell ⟨w.heap.size + 1, 4, none⟩ (.slice none 0 0)).setCell ⟨w.heap.size + 1, 5, none⟩ (.int .i64 0)).setCell ⟨w.heap.size + 1, 6, none⟩ (.int .i64 1) = w9 at O9 hb9  ⊢
    have oc0 := O9.cell (i := 0) rfl
    have oc1 := O9.cell (i := 1) rfl
    have oc2 := O9.cell (i := 2) rfl
    have oc3 := O9.cell (i := 3) rfl
    have oc4 := O9.cell (i := 4) rfl
    have oc5 := O9.cell (i := 5) rfl
    have oc6 := O9.cell (i := 6) rfl
    exact bodyPost_ret (v := .agg #[.string ⟨#[]⟩, .int .i64 0, .slice none 0 0, .slice none 0 0, .slice none 0 0, .int .i64 0, .int .i64 1]) (by simp [results, Try.results40, go_sem, oc0, oc1, oc2, oc3, oc4, oc5, oc6]) rfl (by rw [HR.out]; exact SpO.ill hb9)
  have IS := is3 hM
  have hkb := inB_true hM
  have hmx := HMX.out hkb.1
  have HR : Hid (R = ⟨⟨nm, bs + m, H.drop m, G.map (upG (bs + m))⟩, [], m, 0⟩) := Lib.hid (by rw [HR0.out, if_neg (by rw [hT, hM]; decide)])
  have LM := Lib.hid (fun W => (l01Max_any 0 ((H.length : Int) - keep) W))
  rw [hmx] at LM
  clear HR0 hT hM HMX hmx HM HMD
  go_enter Try.func40, Try.ntmps40
  go_wp2_with (fail)
  generalize (w.alloc (.cells #[.string nm, .int .i64 bs, .slice A H.length c, .slice B G.length d] 26)).alloc (.cells #[.string ⟨#[]⟩, .int .i64 0, .slice none 0 0, .slice none 0 0, .slice none 0 0, .int .i64 0, .int .i64 0] 30) = v0 at K O hb ⊢
  refine (TR.out _ hb).mono ?_
  rintro e w0 ⟨rfl, hb0⟩
  replace K := K.below hb0 K.lt
  replace O := O.below hb0 O.lt
  replace hb := hb.trans (hb0.mono hb.size)
  clear TR hb0
  go_wp2_with (fail)
  refine (IS _).mono ?_
  rintro e w0' ⟨rfl, rfl⟩
  clear IS
  have kc0 := K.cell (i := 0) rfl
  have kc1 := K.cell (i := 1) rfl
  have kc2 := K.cell (i := 2) rfl
  have kc3 := K.cell (i := 3) rfl
  go_wp2_with (fail)
  refine (LM.out _).mono ?_
  rintro e w1 ⟨rfl, rfl⟩
  clear LM
  go_wp2_with (fail)
  refine (l07Copy_any nm bs A H c B G d w1 (hA.on hb) (hB.on hb) hc hd hl hg4).mono ?_
  rintro e w2 ⟨A2, c2, B2, d2, rfl, oS, oG, hb2⟩
  clear kc0 kc1 kc2 kc3
  have ho1 := O.lt
  replace K := K.below hb2 K.lt
  replace O := O.below hb2 O.lt
  replace hb := hb.trans (hb2.mono hb.size)
  have hz1 := hb2.size
  clear hb2
  have cS := Cap.own oS
  have P := Blk.fresh w2 26 [.string nm, .int .i64 bs, .slice A2 H.length c2, .slice B2 G.length d2]
  have hb3 := below_box w2 (.cells #[.string nm, .int .i64 bs, .slice A2 H.length c2, .slice B2 G.length d2] 26)
  replace P : Blk (w2.alloc (.cells #[.string nm, .int .i64 bs, .slice A2 H.length c2, .slice B2 G.length d2] 26)) w2.heap.size 26 [.string nm, .int .i64 bs, .slice A2 H.length c2, .slice B2 G.length d2] := P
  have hz3 : w2.heap.size < (w2.alloc (.cells #[.string nm, .int .i64 bs, .slice A2 H.length c2, .slice B2 G.length d2] 26)).heap.size := by simp
  go_upto_region 5 with (fail)
  generalize w2.alloc (.cells #[.string nm, .int .i64 bs, .slice A2 H.length c2, .slice B2 G.length d2] 26) = w3 at P hb3 hz3 ⊢
  replace K := K.below hb3 K.lt
  replace O := O.below hb3 O.lt
  replace hb := hb.trans (hb3.mono hb.size)
  replace oS := row_below oS hb3 (Nat.le_refl _)
  replace oG := row_below oG hb3 (Nat.le_refl _)
  clear hb3
  have pc2 := P.cell (i := 2) rfl
  have pf2 := P.froz 2
  have hm1 : (m : Int) ≤ (H.length : Int) := by omega
  have HC3 := Lib.hid (cap_drop (k := m) cS hml)
  have HS3 := Lib.hid (fun W (h : W.ownsRow w1.heap.size 9 1 (.slice A2 H.length c2) H.length (H.map Value.string)) => strs_drop (OwnS.strs (base := w1.heap.size) (w := W) h).2 hml cS.le)
  have nS := own_not oS P (by decide)
  have nG := own_not oG P (by decide)
  go_upto_region 6 with (fail)
  clear pc2 pf2
  generalize (if c2 = m then A2 else Option.map (fun x => x.add m) A2) = A3 at HC3 HS3 ⊢
  generalize c2 - m = c3 at HC3 ⊢
  replace P := P.put 2 (.slice A3 (H.length - m) c3)
  replace O := O.far (p := ⟨w2.heap.size, 2, none⟩) (by simp; omega) (.slice A3 (H.length - m) c3)
  replace K := K.far (p := ⟨w2.heap.size, 2, none⟩) (by simp; omega) (.slice A3 (H.length - m) c3)
  replace oS := row_off oS (p := ⟨w2.heap.size, 2, none⟩) nS (.slice A3 (H.length - m) c3)
  replace oG := row_off oG (p := ⟨w2.heap.size, 2, none⟩) nG (.slice A3 (H.length - m) c3)
  replace hb := hb.setCell (p := ⟨w2.heap.size, 2, none⟩) (by simp; omega) (.slice A3 (H.length - m) c3)
  simp only [List.set_cons_succ, List.set_cons_zero] at P
  generalize w3.setCell ⟨w2.heap.size, 2, none⟩ (.slice A3 (H.length - m) c3) = w4 at P O K oS oG hb ⊢
  have k1 := K.cell (i := 1) rfl
  have p1 := P.cell (i := 1) rfl
  have f1 := P.froz 1
  go_upto_region 7 with (fail)
  clear k1 p1 f1
  replace P := P.put 1 (.int .i64 (bs + m))
  replace O := O.far (p := ⟨w2.heap.size, 1, none⟩) (by simp; omega) (.int .i64 (bs + m))
  replace oS := row_off oS (p := ⟨w2.heap.size, 1, none⟩) nS (.int .i64 (bs + m))
  replace oG := row_off oG (p := ⟨w2.heap.size, 1, none⟩) nG (.int .i64 (bs + m))
  replace hb := hb.setCell (p := ⟨w2.heap.size, 1, none⟩) (by simp; omega) (.int .i64 (bs + m))
  simp only [List.set_cons_succ, List.set_cons_zero] at P
  generalize w4.setCell ⟨w2.heap.size, 1, none⟩ (.int .i64 (bs + m)) = w5 at P O oS oG hb ⊢
  clear K
  have HF := Lib.hid (fun i (h : i < G.length) => (hf.2.2.2 G[i] (List.getElem_mem h)).2)
  obtain ⟨b, HBm⟩ : ∃ b : Int, Hid (bs + (m : Int) = b) := ⟨_, Lib.hid rfl⟩
  have hbb : 0 ≤ b ∧ b ≤ 2000000000 := by have := HBm.out; omega
  rw [HBm.out] at P HR ⊢
  go_wp2_with (fail)
  go_loopw [7] (fun i wr => ∃ k : Nat, k ≤ G.length ∧ i = .int .i64 k ∧ Blk wr w2.heap.size 26 [.string nm, .int .i64 b, .slice A3 (H.length - m) c3, .slice B2 G.length d2] ∧ wr.ownsRow w1.heap.size 9 1 (.slice A2 H.length c2) H.length (H.map Value.string) ∧ wr.ownsRow w1.heap.size 47 2 (.slice B2 G.length d2) G.length (gflat (partG b G k)) ∧ Blk wr (w.heap.size + 1) 30 [.string ⟨#[]⟩, .int .i64 0, .slice none 0 0, .slice none 0 0, .slice none 0 0, .int .i64 0, .int .i64 0] ∧ Below w.heap.size w wr) (fun i _ => G.length - (intOf i).toNat)
  case atStart => exact ⟨0, by omega, rfl, P, oS, by rw [partG_zero]; exact oG, O, hb⟩
  case round =>
    clear P oS oG O hb nS nG
    obtain ⟨k, hk, rfl, P, oS, oG, O, hb⟩ := hrel
    have p0 := P.cell (i := 0) rfl
    have p1 := P.cell (i := 1) rfl
    have p2 := P.cell (i := 2) rfl
    have p3 := P.cell (i := 3) rfl
    by_cases hlt : k < G.length
    rotate_left
    · obtain rfl : k = G.length := by omega
      rw [partG_all] at oG
      have qc0 := O.cell (i := 0) rfl
      have qf0 := O.froz 0
      have qc1 := O.cell (i := 1) rfl
      have qf1 := O.froz 1
      have qc2 := O.cell (i := 2) rfl
      have qf2 := O.froz 2
      have qc3 := O.cell (i := 3) rfl
      have qf3 := O.froz 3
      have qc4 := O.cell (i := 4) rfl
      have qf4 := O.froz 4
      have qc5 := O.cell (i := 5) rfl
      have qf5 := O.froz 5
      have qc6 := O.cell (i := 6) rfl
      have qf6 := O.froz 6
      go_wp2
      clear qc0 qf0 qc1 qf1 qc2 qf2 qc3 qf3 qc4 qf4 qc5 qf5 qc6 qf6
      clear p0 p1 p2 p3
      have nS := own_not oS O (by decide)
      have nG := own_not oG O (by decide)
      have S69 := (row_off (row_off (row_off (row_off (row_off (row_off (row_off oS (p := ⟨w.heap.size + 1, 0, none⟩) nS (.string nm)) (p := ⟨w.heap.size + 1, 1, none⟩) nS (.int .i64 b)) (p := ⟨w.heap.size + 1, 2, none⟩) nS (.slice A3 (H.length - m) c3)) (p := ⟨w.heap.size + 1, 3, none⟩) nS (.slice B2 G.length d2)) (p := ⟨w.heap.size + 1, 4, none⟩) nS (.slice none 0 0)) (p := ⟨w.heap.size + 1, 5, none⟩) nS (.int .i64 m)) (p := ⟨w.heap.size + 1, 6, none⟩) nS (.int .i64 0))
      have G69 := (row_off (row_off (row_off (row_off (row_off (row_off (row_off oG (p := ⟨w.heap.size + 1, 0, none⟩) nG (.string nm)) (p := ⟨w.heap.size + 1, 1, none⟩) nG (.int .i64 b)) (p := ⟨w.heap.size + 1, 2, none⟩) nG (.slice A3 (H.length - m) c3)) (p := ⟨w.heap.size + 1, 3, none⟩) nG (.slice B2 G.length d2)) (p := ⟨w.heap.size + 1, 4, none⟩) nG (.slice none 0 0)) (p := ⟨w.heap.size + 1, 5, none⟩) nG (.int .i64 m)) (p := ⟨w.heap.size + 1, 6, none⟩) nG (.int .i64 0))
      have O9 := (((((((O.put 0 (.string nm)).put 1 (.int .i64 b)).put 2 (.slice A3 (H.length - m) c3)).put 3 (.slice B2 G.length d2)).put 4 (.slice none 0 0)).put 5 (.int .i64 m)).put 6 (.int .i64 0))
      have hb9 := (((((((hb.setCell (p := ⟨w.heap.size + 1, 0, none⟩) (by simp <;> omega) (.string nm)).setCell (p := ⟨w.heap.size + 1, 1, none⟩) (by simp <;> omega) (.int .i64 b)).setCell (p := ⟨w.heap.size + 1, 2, none⟩) (by simp <;> omega) (.slice A3 (H.length - m) c3)).setCell (p := ⟨w.heap.size + 1, 3, none⟩) (by simp <;> omega) (.slice B2 G.length d2)).setCell (p := ⟨w.heap.size + 1, 4, none⟩) (by simp <;> omega) (.slice none 0 0)).setCell (p := ⟨w.heap.size + 1, 5, none⟩) (by simp <;> omega) (.int .i64 m)).setCell (p := ⟨w.heap.size + 1, 6, none⟩) (by simp <;> omega) (.int .i64 0))
      simp only [List.set_cons_succ, List.set_cons_zero] at O9
      generalize ((((((wr.setCell ⟨w.heap.size + 1, 0, none⟩ (.string nm)).setCell ⟨w.heap.size + 1, 1, none⟩ (.int .i64 b)).setCell ⟨w.heap.size + 1, 2, none⟩ (.slice A3 (H.length - m) c3)).setCell ⟨w.heap.size + 1, 3, none⟩ (.slice B2 G.length d2)).setCell ⟨w.heap.size + 1, 4, none⟩ (.slice none 0 0)).setCell ⟨w.heap.size + 1, 5, none⟩ (.int .i64 m)).setCell ⟨w.heap.size + 1, 6, none⟩ (.int .i64 0) = w9 at O9 hb9 S69 G69  ⊢
      have oc0 := O9.cell (i := 0) rfl
      have oc1 := O9.cell (i := 1) rfl
      have oc2 := O9.cell (i := 2) rfl
      have oc3 := O9.cell (i := 3) rfl
      have oc4 := O9.cell (i := 4) rfl
      have oc5 := O9.cell (i := 5) rfl
      have oc6 := O9.cell (i := 6) rfl
      exact bodyPost_ret (v := .agg #[.string nm, .int .i64 b, .slice A3 (H.length - m) c3, .slice B2 G.length d2, .slice none 0 0, .int .i64 m, .int .i64 0]) (by simp [results, Try.results40, go_sem, oc0, oc1, oc2, oc3, oc4, oc5, oc6]) rfl (ret_end HR.out (by have := HC3.out; simpa using this) (HS3.out _ S69) G69 hb9)
    have hlt' : (k : Int) < (G.length : Int) := by omega
    obtain ⟨g, rfl⟩ : ∃ g, B2 = some ⟨g, 0, none⟩ := by
      rcases oG.2 with ⟨he, h0⟩ | ⟨g, cap, cur, he, _⟩
      · omega
      · cases he; exact ⟨g, rfl⟩
    have hpl := partG_len b G k hk
    have hkp : k < (partG b G k).length := by rw [hpl]; exact hlt
    have he : (partG b G k)[k] = G[k] := by
      have := partG_at b G hlt
      rw [List.getElem?_eq_getElem hkp] at this
      exact Option.some.inj this
    have HE := Lib.hid he
    clear he hpl
    obtain ⟨_, d1, _, _⟩ := row_grp oG (k := k) hkp
    rw [HE.out] at d1
    have hac := HF.out k hlt
    have LM2 := Lib.hid (fun W => bl (l01Max_any b G[k].acked W))
    go_wp2_with (fail)
    obtain ⟨I, fw, hI, g5', h6, g6', g7'⟩ := class_grown wr
    have x1 := fun q => kept_cell (h6 q) p1
    have x3 := fun q => kept_cell (h6 q) p3
    have y1 := fun q => kept_cell (h6 q) d1
    have G7 := Lib.hid g7'
    have G6 := Lib.hid g6'
    clear h6 g7' g6' p0 p1 p2 p3 d1
    refine wp_region_class_tail (C := fun w' => ∃ q, w' = fw q) 12 (by kernel_rfl) (by kernel_rfl) g5' ?_
    simp only [List.take_succ_cons, List.take_zero, List.drop_succ_cons, List.drop_zero]
    repeat (first
      | go_big_quiet_skip
      | (go_big_quiet_want; go_big_quiet_op; first | go_big_quiet_on | (apply Exists.intro; refine ⟨fun q => ?_, ?_⟩; (go_at_call 80; (with_reducible refine (LM2.out _).mono ?_); rintro e w9 ⟨rfl, hb9'⟩; exact ⟨rfl, G6.out _ _ hb9'⟩); go_big_quiet_on)))
    refine wpQuiet_nil ?_
    intro w6 h6
    have hb6 := G7.out _ h6
    clear x1 x3 y1 g5' h6
    replace P := P.below hb6 P.lt
    replace O := O.below hb6 O.lt
    replace oS := row_below oS hb6 (Nat.le_refl _)
    replace oG := row_below oG hb6 (Nat.le_refl _)
    replace hb := hb.trans (hb6.mono hb.size)
    obtain ⟨_, d1, _, f1⟩ := row_grp oG (k := k) hkp
    rw [HE.out] at d1
    go_wp2
    have hgl := (oG.lt g rfl).1
    have nP := own_not oG P (by decide)
    have nO := own_not oG O (by decide)
    have nS : (Value.slice A2 H.length c2).ownBlock ≠ some g := by
      rcases own_apart oS oG (by decide) with h | h
      · rw [h]; simp
      · exact h
    have o9 := (oG.stored (k * 2 + 1) (.int .i64 (max b G[k].acked))).1
    rw [partG_step b G hlt] at o9
    exact ⟨⟨k + 1, by omega, by go_num, P.far (fun e => nP (by rw [e]; rfl)) _, row_off oS nS _, o9, O.far (fun e => nO (by rw [e]; rfl)) _, hb.setCell (by simp; omega) _⟩, by simp [intOf]; omega⟩
end Go.Proofs.Ytjmmffhndecikaa
