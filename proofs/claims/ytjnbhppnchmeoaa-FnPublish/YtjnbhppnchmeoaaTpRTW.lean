/- TopicRetain: plain mathematics. A region that draws its order: a head whose operations are quiet in a class of worlds, and a tail that comes in the text's order behind all of it (and may write, make memory or panic): one walk. The contract of impl.TopicRight. The contract of impl.TopicRight. -/
import Derived.Test.YtjnbhppnchmeoaaTpOpDW
import Derived.Test.YtjnbhppnchmeoaaStrArgW
import Derived.StillTail
import Derived.Test.YtjnbhppnchmeoaaTpWkW
import Derived.BigQuiet
import Derived.Deep.RegionHeld3
namespace Go.Proofs.Ytjnbhppnchmeoaa
open Go.RowKit
set_option linter.unusedVariables false
/-- A group that is moved to the first message. -/
def upG (b : Int) (g : Grp) : Grp := ⟨g.name, max b g.acked⟩
/-- How many messages go. -/
def goneN (t : Tpc) (keep : Int) : Nat := t.held.length - keep.toNat
/-- TopicRetain. -/
noncomputable def retT (t : Tpc) (keep : Int) : Ans :=
  if (topB t && inB keep 0 20) = false then ill 1
  else ⟨⟨t.name, t.base + goneN t keep, t.held.drop (goneN t keep), t.groups.map (upG (t.base + goneN t keep))⟩, [], goneN t keep, 0⟩
theorem gone_le (t : Tpc) (keep : Int) : goneN t keep ≤ t.held.length := Nat.sub_le _ _
theorem gone_max {n : Nat} {keep : Int} (h : 0 ≤ keep) : max 0 ((n : Int) - keep) = ((n - keep.toNat : Nat) : Int) := by omega
/-- Groups the first of which are moved. -/
def partG (b : Int) (G : List Grp) (k : Nat) : List Grp := (G.map (upG b)).take k ++ G.drop k
theorem partG_zero (b : Int) (G : List Grp) : partG b G 0 = G := by simp [partG]
theorem partG_all (b : Int) (G : List Grp) : partG b G G.length = G.map (upG b) := by
  unfold partG; rw [List.take_of_length_le (by simp), List.drop_length, List.append_nil]
theorem partG_len (b : Int) (G : List Grp) (k : Nat) (h : k ≤ G.length) : (partG b G k).length = G.length := by simp [partG]; omega
theorem partG_at (b : Int) (G : List Grp) {k : Nat} (h : k < G.length) : (partG b G k)[k]? = some G[k] := by
  unfold partG
  rw [List.getElem?_append_right (by simp; omega), List.getElem?_drop]
  have : (List.take k (G.map (upG b))).length = k := by simp; omega
  simp [this, h]
theorem gflat_acked (v : Int) : ∀ (L : List Grp) (i : Nat) (h : i < L.length), (gflat L).set (i * 2 + 1) (.int .i64 v) = gflat (L.set i ⟨L[i].name, v⟩)
  | [], i, h => by simp at h
  | g :: L, 0, _ => rfl
  | g :: L, i + 1, h => by
    rw [gflat_cons, show (i + 1) * 2 + 1 = i * 2 + 1 + 1 + 1 by omega, List.set_cons_succ, List.set_cons_succ, gflat_acked v L i (by simpa using h)]
    rfl
theorem partG_set (b : Int) (G : List Grp) {k : Nat} (h : k < G.length) : (partG b G k).set k (upG b G[k]) = partG b G (k + 1) := by
  unfold partG
  have := part_set (M := G.map (upG b)) (L := G) (j := k) (by simp) h
  simpa using this
theorem partG_step (b : Int) (G : List Grp) {k : Nat} (h : k < G.length) : (gflat (partG b G k)).set (k * 2 + 1) (.int .i64 (max b G[k].acked)) = gflat (partG b G (k + 1)) := by
  have hl := partG_len b G k (by omega)
  rw [gflat_acked _ _ k (by omega)]
  have e : (partG b G k)[k]'(by omega) = G[k] := by
    have := partG_at b G h
    rw [List.getElem?_eq_getElem (by omega)] at this
    exact Option.some.inj this
  rw [e, ← partG_set b G h]
  rfl
/-- What lies behind a cut. -/
theorem strs_drop {w : World} {B : Nat} {A : Option Addr} {L : List ByteArray} (h : Strs w B A L) {k c : Nat} (hk : k ≤ L.length) (hc : L.length ≤ c) : Strs w B (if c = k then A else A.map (·.add k)) (L.drop k) := by
  refine ⟨Nat.le_trans (by simp) h.1, fun i hi => ?_⟩
  have hi' : k + i < L.length := by simp at hi; omega
  obtain ⟨a, e, h1, h2⟩ := h.2 (k + i) hi'
  rw [if_neg (by omega)]
  refine ⟨a.add k, by rw [e]; rfl, by rw [add_blk]; exact h1, ?_⟩
  rw [ofNat_add]
  simpa using h2
theorem cap_drop {A : Option Addr} {L : List ByteArray} {k c : Nat} (h : Cap A L.length c) (hk : k ≤ L.length) : Cap (if c = k then A else A.map (·.add k)) (L.drop k).length (c - k) := by
  have h1 := h.le
  have h2 := h.max
  refine ⟨fun e => ?_, by simp; omega, by omega⟩
  by_cases hc : c = k
  · omega
  · rw [if_neg hc] at e
    have : A = none := by cases A with | none => rfl | some a => simp at e
    have := h.nil this
    omega
end Go.Proofs.Ytjnbhppnchmeoaa

namespace Go.Proofs.Ytjnbhppnchmeoaa
open Go.RowKit
set_option linter.unusedVariables false
section
variable {P : Program} {ops : Array Oper} {md : Region.Mode} {C : World → Prop}

/-- Whatever order the head is taken in. -/
def headAny (P : Program) (md : Region.Mode) (ops : Array Oper) (C : World → Prop) (n : Nat) (L : Array Bool → Act → Prop) : Nat → Array Bool → Act → Prop
  | 0, ls, a => L ls a
  | f + 1, ls, a => Region.ready md ops ls ≠ [] ∧ ∀ i ∈ Region.ready md ops ls, i < n ∧ qOp P ops C i (headAny P md ops C n L f (ls.setIfInBounds i true)) a
theorem any_of_headAny {n g : Nat} {L : Array Bool → Act → Prop} {Q : Exit → Act → World → Prop} (hL : ∀ ls a w, C w → L ls a → wpAny P md ops Q g ls a w) :
    ∀ (f : Nat) (ls : Array Bool) (a : Act) (w : World), C w → headAny P md ops C n L f ls a → wpAny P md ops Q (f + g) ls a w := by
  intro f
  induction f with
  | zero => intro ls a w hC h; rw [Nat.zero_add]; exact hL _ _ _ hC h
  | succ f ih =>
    intro ls a w hC h
    have e : f + 1 + g = (f + g) + 1 := by omega
    rw [e]
    exact ⟨fun h0 => absurd h0 h.1, fun i hi => wpOp_of_qOp hC (fun a' w' hw' h' => ih _ a' w' hw' h') (h.2 i hi).2⟩
theorem headAny_first {n i : Nat} {oi : Oper} {v : Value} {L : Array Bool → Act → Prop} (hi : ops[i]? = some oi) (hsel : ∀ (j : Nat) (o : Oper) cs b, ops[j]? = some o → o.op ≠ .select cs b)
    (hs : Region.sinkB md ops n = true) (hc : Region.chainB md ops n = true) (hn : n < ops.size) (hin : i < n) (hdone : ∀ ls a, L ls a → ∀ j ∈ Region.ready md ops ls, n ≤ j) :
    ∀ (f : Nat) (ls : Array Bool) (a : Act), HeadInv md ops n ls →
      (∀ j oj, ops[j]? = some oj → j ≠ i → ls.getD j true = false → (∀ e ∈ oj.after, Region.binds md e = true → e.on ≠ i) → oi.apart ops oj = true) →
      i ∈ Region.ready md ops ls → YieldsIn P ops C oi v a → headAny P md ops C n L f (ls.setIfInBounds i true) (a.put oi.dst v) → headAny P md ops C n L (f + 1) ls a := by
  intro f
  induction f with
  | zero =>
    intro ls a inv _ hr hy H
    have hun := (mem_ready.1 hr).1
    refine ⟨List.ne_nil_of_mem hr, fun j hj => ?_⟩
    have hjn : j < n := Nat.lt_of_not_le fun h => tail_waits hs hc hn inv _ i rfl hin hun j h hj
    refine ⟨hjn, ?_⟩
    by_cases hji : j = i
    · subst hji; exact hy.qOp hi H
    · exact absurd (hdone _ _ H j (ready_mono hj hji)) (by omega)
  | succ f ih =>
    intro ls a inv hfree hr hy H
    have hun := (mem_ready.1 hr).1
    refine ⟨List.ne_nil_of_mem hr, fun j hj => ?_⟩
    have hjn : j < n := Nat.lt_of_not_le fun h => tail_waits hs hc hn inv _ i rfl hin hun j h hj
    refine ⟨hjn, ?_⟩
    by_cases hji : j = i
    · subst hji; exact hy.qOp hi H
    · obtain ⟨hjun, oj, hoj, hall⟩ := mem_ready.1 hj
      have hnot : ∀ e ∈ oj.after, Region.binds md e = true → e.on ≠ i := fun e he hb heq => by
        have h1 := hall e he hb
        rw [heq, getD_both hun] at h1
        cases h1
      have h2 := qOp_put hoj (hfree j oj hoj hji hjun hnot) (fun cs b => hsel i oi cs b hi) (fun cs b => hsel j oj cs b hoj) hy (H.2 j (ready_mono hj hji)).2
      refine qOp_mono (fun a' h3 => ih (ls.setIfInBounds j true) a' (inv.set hj hjn) (fun k ok hk hki hun' hno => hfree k ok hk hki ?_ hno) (ready_mono hr (Ne.symm hji)) h3.1 ?_) h2
      · by_cases hjk : j = k
        · subst hjk; exact hjun
        · rw [getD_set_ne true hjk] at hun'; exact hun'
      · rw [Array.setIfInBounds_comm _ _ hji]
        exact h3.2
theorem headAny_lex {n g : Nat} {Lq : Act → Prop} (hsel : Region.noSelect ops = true) (hs : Region.sinkB md ops n = true) (hc : Region.chainB md ops n = true) (hn : n < ops.size) :
    ∀ (l : List Oper) (k : Nat) (ls : Array Bool) (a : Act), (∀ j, j < l.length → l[j]? = ops[k + j]?) → k + l.length = n → HeadInv md ops n ls →
    Region.lexHead md ops g l.length k ls = true → wpQuiet P ops C Lq l a → headAny P md ops C n (fun ls' a' => Region.seqB md ops g n ls' = true ∧ Lq a') l.length ls a := by
  intro l
  induction l with
  | nil =>
    intro k ls a _ hk _ hB h
    obtain rfl : k = n := by simpa using hk
    exact ⟨by simpa [Region.lexHead] using hB, h⟩
  | cons o l ih =>
    intro k ls a hl hk inv hB h
    have h0 : ops[k]? = some o := by simpa using (hl 0 (by simp)).symm
    simp only [List.length_cons, Region.lexHead, Bool.and_eq_true] at hB
    obtain ⟨⟨hr, hf⟩, hB'⟩ := hB
    simp only [List.length_cons] at hk
    have hr' : k ∈ Region.ready md ops ls := by simpa using hr
    have hst : qOp P ops C k (wpQuiet P ops C Lq l) a := by unfold qOp; simp only [h0]; exact h
    obtain ⟨v, hy, hK⟩ := yieldsIn_of_qOp h0 hst
    refine headAny_first h0 (Region.noSelect_spec hsel) hs hc hn (by omega) (fun ls' a' hL => seqB_ready hL.1) l.length ls a inv (Region.free_spec h0 hf) hr' hy (ih (k + 1) _ _ (fun j hj => ?_) (by omega) (inv.set hr' (by omega)) hB' hK)
    have := hl (j + 1) (by simp; omega)
    simpa [Nat.add_assoc, Nat.add_comm 1 j] using this
theorem wp_region_class_tail {id : Nat} {Q : Exit → Act → World → Prop} {a : Act} {w : World} {l : List Oper} (n : Nat) (hm : P.follows .mixedOrders = true) (hB : Region.lexTailB .any l.toArray n = true) (hC : C w.drew)
    (h : wpQuiet P l.toArray C (fun a' => ∀ w', C w' → wpList P l.toArray Q (l.drop n) a' w') (l.take n) a) : (Code.region id l.toArray true).wp P Q a w := by
  simp only [Region.lexTailB, Bool.and_eq_true, decide_eq_true_eq] at hB
  obtain ⟨⟨⟨⟨hsel, hn⟩, hs⟩, hc⟩, hlex⟩ := hB
  have hn' : n < l.length := by simpa using hn
  have htl : (l.take n).length = n := by simp; omega
  have hdl : (l.drop n).length = l.toArray.size - n := by simp
  have inv0 : HeadInv .any l.toArray n (Array.replicate l.toArray.size false) :=
    ⟨by simp, fun j oj _ hl => (by rw [getD_replicate_false] at hl; cases hl), fun t _ ht => getD_in (by simpa using ht) (getD_replicate_false _ _)⟩
  have H := headAny_lex (C := C) (md := .any) (g := l.toArray.size - n) hsel hs hc hn (l.take n) 0 _ a (fun j hj => by
    have hj' : j < n := by rw [htl] at hj; exact hj
    simp [hj']) (by simpa using htl) inv0 (by rw [htl]; exact hlex) h
  refine wp_region_any hm ?_
  have := any_of_headAny (Q := Q) (g := l.toArray.size - n) (fun ls a' w' hw' hL => by
    have := wpAny_of_seq (md := .any) (Q' := Q) (l.drop n) n ls a' w' (fun j => by simp [List.getElem?_drop]) (by rw [hdl]; exact hL.1) (hL.2 w' hw')
    rwa [hdl] at this) _ _ _ w.drew hC H
  rw [htl, show n + (l.toArray.size - n) = l.toArray.size by omega] at this
  exact this
end
end Go.Proofs.Ytjnbhppnchmeoaa

namespace Go.Proofs.Ytjnbhppnchmeoaa
open Go.RowKit
set_option linter.unusedVariables false
set_option maxRecDepth 1000000

/-- messagesRight. -/
noncomputable def msgB (H : List ByteArray) : Bool := @decide (H.length ≤ 20 ∧ ∀ i (h : i < H.length), inB H[i].size 1 40 = true) (Classical.propDecidable _)
theorem msgB_true {H : List ByteArray} (h : H.length ≤ 20 ∧ ∀ i (h : i < H.length), inB H[i].size 1 40 = true) : msgB H = true := by unfold msgB; exact @decide_eq_true _ (Classical.propDecidable _) h
theorem msgB_false {H : List ByteArray} (h : ¬ (H.length ≤ 20 ∧ ∀ i (h : i < H.length), inB H[i].size 1 40 = true)) : msgB H = false := by unfold msgB; exact @decide_eq_false _ (Classical.propDecidable _) h
theorem msgB_iff {H : List ByteArray} : msgB H = true ↔ (H.length ≤ 20 ∧ ∀ i (h : i < H.length), inB H[i].size 1 40 = true) := ⟨fun h => by unfold msgB at h; exact @of_decide_eq_true _ (Classical.propDecidable _) h, msgB_true⟩
set_option maxHeartbeats 2000000 in
theorem messagesRight_any (A : Option Addr) (H : List ByteArray) (c : Nat) (w : World) (hA : Strs w w.heap.size A H) (hf : ∀ s ∈ H, s.size ≤ maxLen) :
    Calls Try.prog 65 #[.slice A H.length c] w fun e w' => e = .returned (.bool (msgB H)) ∧ w' = w := by
  have hn := hA.1
  unfold maxLen at hn
  by_cases h3 : H.length ≤ 20
  rotate_left
  · have HR := Lib.hid (msgB_false (H := H) fun h => h3 h.1)
    go_enter Try.func65, Try.ntmps65
    go_wp2
    go_ret
    exact ⟨by rw [HR.out]; rfl, rfl⟩
  go_enter Try.func65, Try.ntmps65
  go_wp2
  go_loopw [4, 10] (fun _ i wr => ∃ k : Nat, k ≤ H.length ∧ i = .int .i64 k ∧ (∀ j (h : j < H.length), j < k → inB H[j].size 1 40 = true) ∧ wr = w) (fun _ i _ => H.length - (intOf i).toNat)
  case atStart => exact ⟨0, by omega, rfl, fun j _ h => by omega, rfl⟩
  case round =>
    obtain ⟨k, hk, rfl, hok, rfl⟩ := hrel
    by_cases hlt : k < H.length
    · obtain ⟨a, rfl, hab, c0⟩ := hA.2 k hlt
      have hlt' : (k : Int) < (H.length : Int) := by omega
      rcases Bool.eq_false_or_eq_true (inB H[k].size 1 40) with hT | hT
      · have TX := textRight_b hT (hf _ (List.getElem_mem hlt))
        go_wp2_with (go_at_call 55; refine (TX _).mono ?_; rintro e w' ⟨rfl, rfl⟩)
        refine ⟨⟨k + 1, by omega, by go_num, fun j hj hjk => ?_, trivial⟩, by simp [intOf]; omega⟩
        by_cases e : j = k
        · subst e; exact hT
        · exact hok j hj (by omega)
      · have TX := textRight_b hT (hf _ (List.getElem_mem hlt))
        have HR := Lib.hid (msgB_false (H := H) fun h => by have := h.2 k hlt; rw [hT] at this; cases this)
        go_wp2_with (go_at_call 55; refine (TX _).mono ?_; rintro e w' ⟨rfl, rfl⟩)
        go_ret
        exact ⟨by rw [HR.out]; rfl, rfl⟩
    · obtain rfl : k = H.length := by omega
      have HR := Lib.hid (msgB_true (H := H) ⟨h3, fun j h => hok j h h⟩)
      go_wp2
      go_ret
      exact ⟨by rw [HR.out]; rfl, rfl⟩

/-- The function that tests the numbers between two. -/
abbrev btwV (p q : Nat) : Value := .func (.func 113) #[] #[.pointer (some ⟨p, 0, none⟩), .pointer (some ⟨q, 0, none⟩)]
theorem between_any {n a b : Int} {r : Bool} (h : inB n a b = r) (p q : Nat) (w : World) (hp : w.cell? ⟨p, 0, none⟩ = some (.int .i64 a)) (hq : w.cell? ⟨q, 0, none⟩ = some (.int .i64 b)) :
    Calls Try.prog 113 #[.int .i64 n, .pointer (some ⟨p, 0, none⟩), .pointer (some ⟨q, 0, none⟩)] w fun e w' => e = .returned (.bool r) ∧ w' = w := by
  have IR := inRange_any h
  clear h
  go_enter Try.func113, Try.ntmps113
  go_wp2_with (go_at_call 64; refine (IR _).mono ?_; rintro e w' ⟨rfl, rfl⟩)
  go_ret
  exact ⟨rfl, rfl⟩
theorem numbersBetween_any (a b : Int) (w : World) :
    Calls Try.prog 67 #[.int .i64 a, .int .i64 b] w fun e w' => e = .returned (btwV w.heap.size (w.heap.size + 1)) ∧ w' = (w.alloc (.cells #[.int .i64 a] 2)).alloc (.cells #[.int .i64 b] 2) := by
  go_enter Try.func67, Try.ntmps67
  go_wp2
  go_ret
  exact ⟨rfl, rfl⟩

/-- groupsRight. -/
noncomputable def grpsB (t : Tpc) : Bool := @decide (t.groups.length ≤ 4 ∧ ∀ i (h : i < t.groups.length), grpIn t i h) (Classical.propDecidable _)
theorem grpsB_true {t : Tpc} (h : t.groups.length ≤ 4 ∧ ∀ i (h : i < t.groups.length), grpIn t i h) : grpsB t = true := by unfold grpsB; exact @decide_eq_true _ (Classical.propDecidable _) h
theorem grpsB_false {t : Tpc} (h : ¬ (t.groups.length ≤ 4 ∧ ∀ i (h : i < t.groups.length), grpIn t i h)) : grpsB t = false := by unfold grpsB; exact @decide_eq_false _ (Classical.propDecidable _) h
theorem grpsB_iff {t : Tpc} : grpsB t = true ↔ (t.groups.length ≤ 4 ∧ ∀ i (h : i < t.groups.length), grpIn t i h) := ⟨fun h => by unfold grpsB at h; exact @of_decide_eq_true _ (Classical.propDecidable _) h, grpsB_true⟩
set_option maxHeartbeats 8000000 in
theorem groupsRight_any (nm : ByteArray) (bs : Int) (H : List ByteArray) (G : List Grp) (B : Option Addr) (d p q : Nat) (w : World) (f3 : ∀ g ∈ G, g.fits) (hB : Grs w w.heap.size B G) (hp : w.cell? ⟨p, 0, none⟩ = some (.int .i64 bs)) (hq : w.cell? ⟨q, 0, none⟩ = some (.int .i64 (bs + H.length))) :
    Calls Try.prog 66 #[.slice B G.length d, btwV p q] w fun e w' => e = .returned (.bool (grpsB ⟨nm, bs, H, G⟩)) ∧ Below w.heap.size w w' := by
  have hm := hB.1
  unfold maxLen at hm
  have F0 : Hid (∀ h : ¬ (G.length ≤ 4 ∧ ∀ i (h : i < G.length), grpIn ⟨nm, bs, H, G⟩ i h), grpsB ⟨nm, bs, H, G⟩ = false) := Lib.hid (grpsB_false (t := ⟨nm, bs, H, G⟩))
  have F1 : Hid (∀ h : (G.length ≤ 4 ∧ ∀ i (h : i < G.length), grpIn ⟨nm, bs, H, G⟩ i h), grpsB ⟨nm, bs, H, G⟩ = true) := Lib.hid (grpsB_true (t := ⟨nm, bs, H, G⟩))
  generalize grpsB ⟨nm, bs, H, G⟩ = R at F0 F1 ⊢
  by_cases h4 : G.length ≤ 4
  rotate_left
  · have HR := Lib.hid (F0.out fun h => h4 h.1)
    go_enter Try.func66, Try.ntmps66
    go_wp2
    go_ret
    exact ⟨by rw [HR.out]; rfl, Below.refl _ _⟩
  go_enter Try.func66, Try.ntmps66
  go_wp2
  go_loopw [5, 6, 12] (fun _ _ i wr => ∃ k : Nat, k ≤ G.length ∧ i = .int .i64 k ∧ (∀ j (h : j < G.length), j < k → grpIn ⟨nm, bs, H, G⟩ j h) ∧ Below w.heap.size w wr) (fun _ _ i _ => G.length - (intOf i).toNat)
  case atStart => exact ⟨0, by omega, rfl, fun j _ h => by omega, Below.refl _ _⟩
  case round =>
    obtain ⟨k, hk, rfl, hok, hw3⟩ := hrel
    by_cases hlt : k < G.length
    rotate_left
    · obtain rfl : k = G.length := by omega
      have HR := Lib.hid (F1.out ⟨h4, fun i h => hok i h h⟩)
      go_wp2
      go_ret
      exact ⟨by rw [HR.out]; rfl, hw3⟩
    obtain ⟨a, rfl, hab, c0, c1⟩ := (hB.below hw3 (Nat.le_refl _)).at k hlt
    have hlt' : (k : Int) < (G.length : Int) := by omega
    have hG := Blk.fresh wr 94 [.string G[k].name, .int .i64 G[k].acked]
    have hw4 := hw3.alloc hw3.size (.cells #[.string G[k].name, .int .i64 G[k].acked] 94)
    have hpr : ∀ q, (h : q + 1 = k) → (wr.alloc (.cells #[.string G[k].name, .int .i64 G[k].acked] 94)).cell? (a.add (q * 2)) = some (.string (G[q]'(by omega)).name) := by
      intro q h
      obtain ⟨a', e, _, h2, _⟩ := (hB.below hw4 (Nat.le_refl _)).at q (by omega)
      cases e
      exact h2
    simp only [List.toArray] at hG
    go_wp2
    generalize wr.alloc (.cells #[.string G[k].name, .int .i64 G[k].acked] 94) = w3 at hG hw4 hpr ⊢
    clear c0 c1
    have n1 : G[k].name.size ≤ maxLen := (f3 _ (List.getElem_mem hlt)).1
    obtain ⟨I, f, hI', g0, gk, gc, ge⟩ := class_grown w3
    have x0 := fun s => kept_cell (gk s) (hG.cell (i := 0) rfl)
    have x1 := fun s => kept_cell (gk s) (hG.cell (i := 1) rfl)
    have vp := fun s => kept_cell (gk s) (kept_cell hw4 hp)
    have vq := fun s => kept_cell (gk s) (kept_cell hw4 hq)
    have HW : Hid (∀ W, Below w3.heap.size w3 W → Below w.heap.size w W) := Lib.hid fun W h => hw4.trans (h.mono hw4.size)
    have HOK := Lib.hid hok
    have HB := Lib.hid (fun h : ¬ grpIn ⟨nm, bs, H, G⟩ k hlt => F0.out fun q => h (q.2 k hlt))
    clear hok hG hw4
    rcases Bool.eq_false_or_eq_true (nameB G[k].name) with hN2 | hN2
    rotate_left
    · have NG := Lib.hid (fun W => bl (implName_b hN2 n1 W))
      have HR := Lib.hid (HB.out fun h => by have := h.1; rw [hN2] at this; cases this)
      refine wp_region_kept f (by kernel_rfl) (by kernel_rfl) g0 ?_
      repeat (first
        | go_big_quiet_skip
        | (go_big_quiet_want; go_big_quiet_op; first
          | go_big_quiet_on
          | (apply Exists.intro; refine ⟨fun s => ?_, ?_⟩; (go_at_call 63; (with_reducible refine (NG.out _).mono ?_); rintro e w4 ⟨rfl, hb4⟩; exact ⟨rfl, gc _ _ hb4⟩); go_big_quiet_on)
          | (apply Exists.intro; refine ⟨fun s => ?_, ?_⟩; (go_at_call 113; (with_reducible refine (IG.out _).mono ?_); rintro e w4 ⟨rfl, hb4⟩; exact ⟨rfl, gc _ _ hb4⟩); go_big_quiet_on)))
      refine wpQuiet_nil ?_
      intro w5 h5
      have hb5 := ge _ h5
      go_wp2
      go_ret
      exact ⟨by rw [HR.out]; rfl, HW.out _ hb5⟩
    have NG := Lib.hid (fun W => bl (implName_b hN2 n1 W))
    rcases Bool.eq_false_or_eq_true (inB G[k].acked bs (bs + H.length)) with hI2 | hI2
    rotate_left
    · have IG := Lib.hid (fun s => bl (between_any hI2 p q (f s) (vp s) (vq s)))
      have HR := Lib.hid (HB.out fun h => by have := h.2.1; rw [hI2] at this; cases this)
      refine wp_region_kept f (by kernel_rfl) (by kernel_rfl) g0 ?_
      repeat (first
        | go_big_quiet_skip
        | (go_big_quiet_want; go_big_quiet_op; first
          | go_big_quiet_on
          | (apply Exists.intro; refine ⟨fun s => ?_, ?_⟩; (go_at_call 63; (with_reducible refine (NG.out _).mono ?_); rintro e w4 ⟨rfl, hb4⟩; exact ⟨rfl, gc _ _ hb4⟩); go_big_quiet_on)
          | (apply Exists.intro; refine ⟨fun s => ?_, ?_⟩; (go_at_call 113; (with_reducible refine (IG.out _).mono ?_); rintro e w4 ⟨rfl, hb4⟩; exact ⟨rfl, gc _ _ hb4⟩); go_big_quiet_on)))
      refine wpQuiet_nil ?_
      intro w5 h5
      have hb5 := ge _ h5
      go_wp2
      go_ret
      exact ⟨by rw [HR.out]; rfl, HW.out _ hb5⟩
    have IG := Lib.hid (fun s => bl (between_any hI2 p q (f s) (vp s) (vq s)))
    by_cases hk0 : 0 < k
    · obtain ⟨q', hq'⟩ : ∃ q, q + 1 = k := ⟨k - 1, by omega⟩
      have p0 := fun s => kept_cell (gk s) (hpr q' hq')
      have hd : decide ((0 : Int) < (k : Int)) = true := by simp; omega
      have e1 : IntKind.i64.wrap ((k : Int) - 1) = (q' : Int) := by rw [IntWalk.i64_in _ (by omega)]; omega
      have e2 : (q' : Int) < (G.length : Int) := by omega
      have hql : q' < G.length := by omega
      clear hpr
      rcases Bool.eq_false_or_eq_true (Op.bytesLess G[q'].name.toList G[k].name.toList) with hl | hl
      rotate_left
      · have HR := Lib.hid (HB.out (not_grp_less hq' hlt hql hl))
        refine wp_region_kept f (by kernel_rfl) (by kernel_rfl) g0 ?_
        repeat (first
          | go_big_quiet_skip
          | (go_big_quiet_want; go_big_quiet_op; first
            | go_big_quiet_on
            | (apply Exists.intro; refine ⟨fun s => ?_, ?_⟩; (go_at_call 63; (with_reducible refine (NG.out _).mono ?_); rintro e w4 ⟨rfl, hb4⟩; exact ⟨rfl, gc _ _ hb4⟩); go_big_quiet_on)
            | (apply Exists.intro; refine ⟨fun s => ?_, ?_⟩; (go_at_call 113; (with_reducible refine (IG.out _).mono ?_); rintro e w4 ⟨rfl, hb4⟩; exact ⟨rfl, gc _ _ hb4⟩); go_big_quiet_on)))
        refine wpQuiet_nil ?_
        intro w5 h5
        have hb5 := ge _ h5
        go_wp2
        go_ret
        exact ⟨by rw [HR.out]; rfl, HW.out _ hb5⟩
      have HL := Lib.hid (grp_less (t := ⟨nm, bs, H, G⟩) hq' hlt hql hl)
      refine wp_region_kept f (by kernel_rfl) (by kernel_rfl) g0 ?_
      repeat (first
        | go_big_quiet_skip
        | (go_big_quiet_want; go_big_quiet_op; first
          | go_big_quiet_on
          | (apply Exists.intro; refine ⟨fun s => ?_, ?_⟩; (go_at_call 63; (with_reducible refine (NG.out _).mono ?_); rintro e w4 ⟨rfl, hb4⟩; exact ⟨rfl, gc _ _ hb4⟩); go_big_quiet_on)
          | (apply Exists.intro; refine ⟨fun s => ?_, ?_⟩; (go_at_call 113; (with_reducible refine (IG.out _).mono ?_); rintro e w4 ⟨rfl, hb4⟩; exact ⟨rfl, gc _ _ hb4⟩); go_big_quiet_on)))
      refine wpQuiet_nil ?_
      intro w5 h5
      have hb5 := ge _ h5
      go_wp2
      refine ⟨⟨k + 1, by omega, by go_num, fun j hj hjk => ?_, HW.out _ hb5⟩, by simp [intOf]; omega⟩
      by_cases e : j = k
      · subst e
        exact ⟨hN2, hI2, HL.out⟩
      · exact HOK.out j hj (by omega)
    · have hd : decide ((0 : Int) < (k : Int)) = false := by simp; omega
      clear hpr
      refine wp_region_kept f (by kernel_rfl) (by kernel_rfl) g0 ?_
      repeat (first
        | go_big_quiet_skip
        | (go_big_quiet_want; go_big_quiet_op; first
          | go_big_quiet_on
          | (apply Exists.intro; refine ⟨fun s => ?_, ?_⟩; (go_at_call 63; (with_reducible refine (NG.out _).mono ?_); rintro e w4 ⟨rfl, hb4⟩; exact ⟨rfl, gc _ _ hb4⟩); go_big_quiet_on)
          | (apply Exists.intro; refine ⟨fun s => ?_, ?_⟩; (go_at_call 113; (with_reducible refine (IG.out _).mono ?_); rintro e w4 ⟨rfl, hb4⟩; exact ⟨rfl, gc _ _ hb4⟩); go_big_quiet_on)))
      refine wpQuiet_nil ?_
      intro w5 h5
      have hb5 := ge _ h5
      go_wp2
      refine ⟨⟨k + 1, by omega, by go_num, fun j hj hjk => ?_, HW.out _ hb5⟩, by simp [intOf]; omega⟩
      by_cases e : j = k
      · subst e
        exact ⟨hN2, hI2, fun h => absurd h hk0⟩
      · exact HOK.out j hj (by omega)
end Go.Proofs.Ytjnbhppnchmeoaa

namespace Go.Proofs.Ytjnbhppnchmeoaa
open Go.RowKit
set_option linter.unusedVariables false
set_option maxRecDepth 1000000

theorem numbersBetween_b (a b : Int) (w : World) : Calls Try.prog 67 #[.int .i64 a, .int .i64 b] w fun e w' => e = .returned (btwV w.heap.size (w.heap.size + 1)) ∧ w'.cell? ⟨w.heap.size, 0, none⟩ = some (.int .i64 a) ∧ w'.cell? ⟨w.heap.size + 1, 0, none⟩ = some (.int .i64 b) ∧ Below w.heap.size w w' := by
  refine (numbersBetween_any a b w).mono ?_
  rintro e w7 ⟨rfl, rfl⟩
  refine ⟨rfl, ((Blk.fresh w 2 [.int .i64 a]).alloc _).cell (i := 0) rfl, ?_, ((Below.refl _ _).alloc (Nat.le_refl _) _).alloc (by simp) _⟩
  have := (Blk.fresh (w.alloc (.cells #[.int .i64 a] 2)) 2 [.int .i64 b]).cell (i := 0) rfl
  simp only [World.size_alloc] at this
  exact this
set_option maxHeartbeats 8000000 in
theorem implTopicRight_any (t : Tpc) (A : Option Addr) (c : Nat) (B : Option Addr) (d : Nat) (w : World) (hf : t.fits) (hA : Strs w w.heap.size A t.held) (hB : Grs w w.heap.size B t.groups) :
    Calls Try.prog 17 #[topV t.name t.base (.slice A t.held.length c) (.slice B t.groups.length d)] w fun e w' => e = .returned (.bool (topB t)) ∧ Below w.heap.size w w' := by
  obtain ⟨f0, f1, f2, f3⟩ := hf
  have F0 : Hid (∀ h : ¬ topOK t, topB t = false) := Lib.hid topB_false
  have F1 : Hid (∀ h : topOK t, topB t = true) := Lib.hid topB_true
  obtain ⟨nm, bs, H, G⟩ := t
  simp only at f0 f1 f2 f3 hA hB F0 F1 ⊢
  generalize topB ⟨nm, bs, H, G⟩ = R at F0 F1 ⊢
  have hK := Blk.fresh w 26 [.string nm, .int .i64 bs, .slice A H.length c, .slice B G.length d]
  have hb0 := below_box w (.cells #[.string nm, .int .i64 bs, .slice A H.length c, .slice B G.length d] 26)
  simp only [List.toArray] at hK
  go_enter Try.func17, Try.ntmps17
  go_wp2_with (fail)
  generalize w.alloc (.cells #[.string nm, .int .i64 bs, .slice A H.length c, .slice B G.length d] 26) = w3 at hK hb0 ⊢
  have hA3 := hA.on hb0
  have hB3 := hB.on hb0
  obtain ⟨I, f, hI', g0, gk, gc, ge⟩ := class_grown w3
  have y0 := fun s => kept_cell (gk s) (hK.cell (i := 0) rfl)
  have y1 := fun s => kept_cell (gk s) (hK.cell (i := 1) rfl)
  have y2 := fun s => kept_cell (gk s) (hK.cell (i := 2) rfl)
  have y3 := fun s => kept_cell (gk s) (hK.cell (i := 3) rfl)
  rcases Bool.eq_false_or_eq_true (nameB nm) with hN | hN
  rotate_left
  · have NG := Lib.hid (fun W => bl (implName_b hN f0 W))
    have HR := Lib.hid (F0.out fun h => by have := h.1; rw [hN] at this; cases this)
    refine wp_region_kept f (by kernel_rfl) (by kernel_rfl) g0 ?_
    repeat (first
      | go_big_quiet_skip
      | (go_big_quiet_want; go_big_quiet_op; first
        | go_big_quiet_on
        | (apply Exists.intro; refine ⟨fun s => ?_, ?_⟩; (go_at_call 63; (with_reducible refine (NG.out _).mono ?_); rintro e w4 ⟨rfl, hb4⟩; exact ⟨rfl, gc _ _ hb4⟩); go_big_quiet_on)
        | (apply Exists.intro; refine ⟨fun s => ?_, ?_⟩; (go_at_call 64; (with_reducible refine (IG.out _).mono ?_); rintro e w4 ⟨rfl, hb4⟩; exact ⟨rfl, gc _ _ hb4⟩); go_big_quiet_on)
        | (apply Exists.intro; refine ⟨fun s => ?_, ?_⟩; (go_at_call 65; (with_reducible refine (MG.out _).mono ?_); rintro e w4 ⟨rfl, hb4⟩; exact ⟨rfl, gc _ _ hb4⟩); go_big_quiet_on)
        | (apply Exists.intro; refine ⟨fun s => ?_, ?_⟩; (go_at_call 62; (with_reducible refine (EN.out _).mono ?_); rintro e w4 ⟨rfl, hb4⟩; exact ⟨rfl, gc _ _ hb4⟩); go_big_quiet_on)))
    refine wpQuiet_nil ?_
    intro w5 h5
    have hb5 := ge _ h5
    go_wp2
    go_ret
    exact ⟨by rw [HR.out]; rfl, hb0.trans (hb5.mono hb0.size)⟩
  have NG := Lib.hid (fun W => bl (implName_b hN f0 W))
  rcases Bool.eq_false_or_eq_true (inB bs 0 1000000000) with hI | hI
  rotate_left
  · have IG := Lib.hid (fun W => bl (inRange_any hI W))
    have HR := Lib.hid (F0.out fun h => by have := h.2.1; rw [hI] at this; cases this)
    refine wp_region_kept f (by kernel_rfl) (by kernel_rfl) g0 ?_
    repeat (first
      | go_big_quiet_skip
      | (go_big_quiet_want; go_big_quiet_op; first
        | go_big_quiet_on
        | (apply Exists.intro; refine ⟨fun s => ?_, ?_⟩; (go_at_call 63; (with_reducible refine (NG.out _).mono ?_); rintro e w4 ⟨rfl, hb4⟩; exact ⟨rfl, gc _ _ hb4⟩); go_big_quiet_on)
        | (apply Exists.intro; refine ⟨fun s => ?_, ?_⟩; (go_at_call 64; (with_reducible refine (IG.out _).mono ?_); rintro e w4 ⟨rfl, hb4⟩; exact ⟨rfl, gc _ _ hb4⟩); go_big_quiet_on)
        | (apply Exists.intro; refine ⟨fun s => ?_, ?_⟩; (go_at_call 65; (with_reducible refine (MG.out _).mono ?_); rintro e w4 ⟨rfl, hb4⟩; exact ⟨rfl, gc _ _ hb4⟩); go_big_quiet_on)
        | (apply Exists.intro; refine ⟨fun s => ?_, ?_⟩; (go_at_call 62; (with_reducible refine (EN.out _).mono ?_); rintro e w4 ⟨rfl, hb4⟩; exact ⟨rfl, gc _ _ hb4⟩); go_big_quiet_on)))
    refine wpQuiet_nil ?_
    intro w5 h5
    have hb5 := ge _ h5
    go_wp2
    go_ret
    exact ⟨by rw [HR.out]; rfl, hb0.trans (hb5.mono hb0.size)⟩
  have IG := Lib.hid (fun W => bl (inRange_any hI W))
  have hbs := inB_true hI
  have MM := fun s => messagesRight_any A H c (f s) (hA3.on (gk s)) f2
  rcases Bool.eq_false_or_eq_true (msgB H) with hM | hM
  rotate_left
  · rw [hM] at MM
    have MG := Lib.hid (fun s => bl (MM s))
    have HR := Lib.hid (F0.out fun h => by have := msgB_true ⟨h.2.2.1, h.2.2.2.1⟩; rw [hM] at this; cases this)
    refine wp_region_kept f (by kernel_rfl) (by kernel_rfl) g0 ?_
    repeat (first
      | go_big_quiet_skip
      | (go_big_quiet_want; go_big_quiet_op; first
        | go_big_quiet_on
        | (apply Exists.intro; refine ⟨fun s => ?_, ?_⟩; (go_at_call 63; (with_reducible refine (NG.out _).mono ?_); rintro e w4 ⟨rfl, hb4⟩; exact ⟨rfl, gc _ _ hb4⟩); go_big_quiet_on)
        | (apply Exists.intro; refine ⟨fun s => ?_, ?_⟩; (go_at_call 64; (with_reducible refine (IG.out _).mono ?_); rintro e w4 ⟨rfl, hb4⟩; exact ⟨rfl, gc _ _ hb4⟩); go_big_quiet_on)
        | (apply Exists.intro; refine ⟨fun s => ?_, ?_⟩; (go_at_call 65; (with_reducible refine (MG.out _).mono ?_); rintro e w4 ⟨rfl, hb4⟩; exact ⟨rfl, gc _ _ hb4⟩); go_big_quiet_on)
        | (apply Exists.intro; refine ⟨fun s => ?_, ?_⟩; (go_at_call 62; (with_reducible refine (EN.out _).mono ?_); rintro e w4 ⟨rfl, hb4⟩; exact ⟨rfl, gc _ _ hb4⟩); go_big_quiet_on)))
    refine wpQuiet_nil ?_
    intro w5 h5
    have hb5 := ge _ h5
    go_wp2
    go_ret
    exact ⟨by rw [HR.out]; rfl, hb0.trans (hb5.mono hb0.size)⟩
  rw [hM] at MM
  have MG := Lib.hid (fun s => bl (MM s))
  have hM2 := msgB_iff.1 hM
  have EN := Lib.hid (endOf_any nm bs A H.length c (.slice B G.length d) (by omega) hbs.1 hbs.2 rfl)
  by_cases h5 : bs + H.length ≤ 1000000000
  rotate_left
  · have HR := Lib.hid (F0.out fun h => h5 h.2.2.2.2.2.1)
    refine wp_region_kept f (by kernel_rfl) (by kernel_rfl) g0 ?_
    repeat (first
      | go_big_quiet_skip
      | (go_big_quiet_want; go_big_quiet_op; first
        | go_big_quiet_on
        | (apply Exists.intro; refine ⟨fun s => ?_, ?_⟩; (go_at_call 63; (with_reducible refine (NG.out _).mono ?_); rintro e w4 ⟨rfl, hb4⟩; exact ⟨rfl, gc _ _ hb4⟩); go_big_quiet_on)
        | (apply Exists.intro; refine ⟨fun s => ?_, ?_⟩; (go_at_call 64; (with_reducible refine (IG.out _).mono ?_); rintro e w4 ⟨rfl, hb4⟩; exact ⟨rfl, gc _ _ hb4⟩); go_big_quiet_on)
        | (apply Exists.intro; refine ⟨fun s => ?_, ?_⟩; (go_at_call 65; (with_reducible refine (MG.out _).mono ?_); rintro e w4 ⟨rfl, hb4⟩; exact ⟨rfl, gc _ _ hb4⟩); go_big_quiet_on)
        | (apply Exists.intro; refine ⟨fun s => ?_, ?_⟩; (go_at_call 62; (with_reducible refine (EN.out _).mono ?_); rintro e w4 ⟨rfl, hb4⟩; exact ⟨rfl, gc _ _ hb4⟩); go_big_quiet_on)))
    refine wpQuiet_nil ?_
    intro w5 h5
    have hb5 := ge _ h5
    go_wp2
    go_ret
    exact ⟨by rw [HR.out]; rfl, hb0.trans (hb5.mono hb0.size)⟩
  clear g0 gk gc ge y0 y1 y2 y3 MG MM
  have c0 : w3.drew.cell? ⟨w.heap.size, 0, none⟩ = some (.string nm) := hK.cell (i := 0) rfl
  have c1 : w3.drew.cell? ⟨w.heap.size, 1, none⟩ = some (.int .i64 bs) := hK.cell (i := 1) rfl
  have c2 : w3.drew.cell? ⟨w.heap.size, 2, none⟩ = some (.slice A H.length c) := hK.cell (i := 2) rfl
  have c3 : w3.drew.cell? ⟨w.heap.size, 3, none⟩ = some (.slice B G.length d) := hK.cell (i := 3) rfl
  have hd5 : decide (bs + (H.length : Int) ≤ 1000000000) = true := by simp; exact h5
  have NQ := Lib.hid (implName_b hN f0)
  have IQ := Lib.hid (inRange_any hI)
  have MQ := Lib.hid (fun W (h : Below w3.drew.heap.size w3.drew W) => by have := messagesRight_any A H c W (hA3.on (below_drew (Below.refl _ w3) |>.trans h)) f2; rw [hM] at this; exact this)
  have GQ := Lib.hid (fun W p q (h : Below w3.drew.heap.size w3.drew W) => groupsRight_any nm bs H G B d p q W f3 (hB3.on (below_drew (Below.refl _ w3) |>.trans h)))
  go_region_held3 (fun W => W.cell? ⟨w.heap.size, 0, none⟩ = some (.string nm) ∧ W.cell? ⟨w.heap.size, 1, none⟩ = some (.int .i64 bs) ∧ W.cell? ⟨w.heap.size, 2, none⟩ = some (.slice A H.length c) ∧ W.cell? ⟨w.heap.size, 3, none⟩ = some (.slice B G.length d))
    (first
      | with_reducible exact ⟨c0, c1, c2, c3⟩
      | with_reducible exact ⟨kept_cell hb5 c0, kept_cell hb5 c1, kept_cell hb5 c2, kept_cell hb5 c3⟩
      | with_reducible exact ⟨kept_cell hb6 c0, kept_cell hb6 c1, kept_cell hb6 c2, kept_cell hb6 c3⟩
      | with_reducible exact ⟨kept_cell hb7 c0, kept_cell hb7 c1, kept_cell hb7 c2, kept_cell hb7 c3⟩
      | with_reducible exact ⟨kept_cell hb8 c0, kept_cell hb8 c1, kept_cell hb8 c2, kept_cell hb8 c3⟩)
    (first
      | (go_at_call 63; (with_reducible refine (NQ.out _).mono ?_); rintro e w' ⟨rfl, rfl⟩)
      | (go_at_call 64; (with_reducible refine (IQ.out _).mono ?_); rintro e w' ⟨rfl, rfl⟩)
      | (go_at_call 65; (with_reducible refine (MQ.out _ (Below.refl _ _)).mono ?_); rintro e w' ⟨rfl, rfl⟩)
      | (go_at_call 62; (with_reducible refine (EN.out w3.drew).mono ?_); rintro e w5 ⟨rfl, hb5⟩)
      | (go_at_call 62; (with_reducible refine (EN.out w5).mono ?_); rintro e w6 ⟨rfl, hb6'⟩; have hb6 := hb5.trans (hb6'.mono hb5.size))
      | (go_at_call 67; (with_reducible refine (numbersBetween_b bs (bs + H.length) w6).mono ?_); rintro e w7 ⟨rfl, p7, q7, hb7'⟩; have hb7 := hb6.trans (hb7'.mono hb6.size))
      | (go_at_call 66; (with_reducible refine (GQ.out w7 _ _ hb7 p7 q7).mono ?_); rintro e w8 ⟨rfl, hb8'⟩; have hb8 := hb7.trans (hb8'.mono hb7.size)))
  have HR : Hid (R = grpsB ⟨nm, bs, H, G⟩) := Lib.hid (by
    rcases Bool.eq_false_or_eq_true (grpsB ⟨nm, bs, H, G⟩) with hg | hg
    · have := grpsB_iff.1 hg
      rw [hg]; exact F1.out ⟨hN, hI, hM2.1, hM2.2, this.1, h5, this.2⟩
    · rw [hg]; exact F0.out fun h => by have := grpsB_true ⟨h.2.2.2.2.1, h.2.2.2.2.2.2⟩; rw [hg] at this; cases this)
  have hb9 : Below w3.heap.size w3 w8 := (below_drew (Below.refl _ w3)).trans hb8
  go_wp2
  go_ret
  exact ⟨by rw [HR.out]; rfl, hb0.trans (hb9.mono hb0.size)⟩
end Go.Proofs.Ytjnbhppnchmeoaa
