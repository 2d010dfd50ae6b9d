/- Strings in order. When a topic is right; the end of a topic. A region that draws its order: a head whose operations are quiet in a class of worlds, and a tail that comes in the text's order behind all of it (and may write, make memory or panic): one walk. The contract of impl.TopicRight. -/
import Derived.Test.YtkimieeabmjfgaaRwkW
import Derived.Test.YtkimieeabmjfgaaCmW
import Derived.Test.YtkimieeabmjfgaaStrArgW
import Derived.StillTail
import Derived.BigQuiet
namespace Go.Proofs.Ytkimieeabmjfgaa
open Go.RowKit
set_option linter.unusedVariables false
def lessB (a b : ByteArray) : Bool := Op.bytesLess a.toList b.toList
end Go.Proofs.Ytkimieeabmjfgaa

namespace Go.Proofs.Ytkimieeabmjfgaa
open Go.RowKit
set_option linter.unusedVariables false
set_option maxRecDepth 1000000

/-- A group that is right in its place. -/
def grpIn (t : Tpc) (i : Nat) (h : i < t.groups.length) : Prop := nameB t.groups[i].name = true ∧ inB t.groups[i].acked t.base (t.base + t.held.length) = true ∧ (0 < i → lessB (t.groups[i - 1]'(by omega)).name t.groups[i].name = true)
/-- A right topic. -/
def topOK (t : Tpc) : Prop := nameB t.name = true ∧ inB t.base 0 1000000000 = true ∧ t.held.length ≤ 20 ∧ (∀ i (h : i < t.held.length), inB t.held[i].size 1 40 = true) ∧ t.groups.length ≤ 4 ∧ t.base + t.held.length ≤ 1000000000 ∧ ∀ i (h : i < t.groups.length), grpIn t i h
/-- TopicRight. -/
noncomputable def topB (t : Tpc) : Bool := @decide (topOK t) (Classical.propDecidable _)
theorem topB_true {t : Tpc} (h : topOK t) : topB t = true := by unfold topB; exact @decide_eq_true _ (Classical.propDecidable _) h
theorem topB_false {t : Tpc} (h : ¬ topOK t) : topB t = false := by unfold topB; exact @decide_eq_false _ (Classical.propDecidable _) h
theorem topB_iff {t : Tpc} : topB t = true ↔ topOK t := ⟨fun h => by unfold topB at h; exact @of_decide_eq_true _ (Classical.propDecidable _) h, topB_true⟩
theorem inB_true {n a b : Int} (h : inB n a b = true) : a ≤ n ∧ n ≤ b := by simpa [inB] using h
theorem inB_of {n a b : Int} (h1 : a ≤ n) (h2 : n ≤ b) : inB n a b = true := by simp [inB, h1, h2]

theorem bl {f : FuncId} {args : Array Value} {w : World} {v : Value} (h : Calls Try.prog f args w fun e w' => e = .returned v ∧ w' = w) : Calls Try.prog f args w fun e w' => e = .returned v ∧ Below w.heap.size w w' :=
  h.mono fun _ _ h => ⟨h.1, by rw [h.2]; exact Below.refl _ _⟩
theorem grp_less {t : Tpc} {q k : Nat} (hq : q + 1 = k) (hlt : k < t.groups.length) (hql : q < t.groups.length) (hl : Op.bytesLess t.groups[q].name.toList t.groups[k].name.toList = true) : 0 < k → lessB (t.groups[k - 1]'(by omega)).name t.groups[k].name = true := by
  intro _
  obtain rfl : q = k - 1 := by omega
  exact hl
theorem not_grp_less {t : Tpc} {q k : Nat} (hq : q + 1 = k) (hlt : k < t.groups.length) (hql : q < t.groups.length) (hl : Op.bytesLess t.groups[q].name.toList t.groups[k].name.toList = false) : ¬ grpIn t k hlt := by
  intro h
  have h2 := h.2.2 (by omega)
  obtain rfl : q = k - 1 := by omega
  unfold lessB at h2
  rw [hl] at h2
  cases h2
theorem endOf_any (nm : ByteArray) (bs : Int) (A : Option Addr) (n c : Nat) (gv : Value) (hn : n ≤ 1048576) (h0 : 0 ≤ bs) (h1 : bs ≤ 1000000000) (h2 : gv.oneCell' = true) (w : World) :
    Calls Try.prog 98 #[topV nm bs (.slice A n c) gv] w fun e w' => e = .returned (.int .i64 (bs + n)) ∧ Below w.heap.size w w' := by
  go_enter Try.func98, Try.ntmps98
  go_wp2
  go_ret
  exact ⟨rfl, below_box _ _⟩
theorem l07End_any (nm : ByteArray) (bs : Int) (A : Option Addr) (n c : Nat) (gv : Value) (hn : n ≤ 1048576) (h0 : 0 ≤ bs) (h1 : bs ≤ 1000000000) (h2 : gv.oneCell' = true) (w : World) :
    Calls Try.prog 95 #[topV nm bs (.slice A n c) gv] w fun e w' => e = .returned (.int .i64 (bs + n)) ∧ Below w.heap.size w w' := by
  go_enter Try.func95, Try.ntmps95
  go_wp2
  go_ret
  exact ⟨rfl, below_box _ _⟩
end Go.Proofs.Ytkimieeabmjfgaa

namespace Go.Proofs.Ytkimieeabmjfgaa
open Go.RowKit
set_option linter.unusedVariables false
section
variable {P : Program} {ops : Array Oper} {md : Region.Mode} {C : World → Prop}

/-- Whatever order the head is taken in. -/
def headAny (P : Program) (md : Region.Mode) (ops : Array Oper) (C : World → Prop) (n : Nat) (L : Array Bool → Act → Prop) : Nat → Array Bool → Act → Prop
  | 0, ls, a => L ls a
  | f + 1, ls, a => Region.ready md ops ls ≠ [] ∧ ∀ i ∈ Region.ready md ops ls, i < n ∧ qOp P ops C i (headAny P md ops C n L f (ls.setIfInBounds i true)) a
theorem any_of_headAny {n g : Nat} {L : Array Bool → Act → Prop} {Q : Exit → Act → World → Prop} (hL : ∀ ls a w, C w → L ls a → wpAny P md ops Q g ls a w) :
    ∀ (f : Nat) (ls : Array Bool) (a : Act) (w : World), C w → headAny P md ops C n L f ls a → wpAny P md ops Q (f + g) ls a w := by
  intro f
  induction f with
  | zero => intro ls a w hC h; rw [Nat.zero_add]; exact hL _ _ _ hC h
  | succ f ih =>
    intro ls a w hC h
    have e : f + 1 + g = (f + g) + 1 := by omega
    rw [e]
    exact ⟨fun h0 => absurd h0 h.1, fun i hi => wpOp_of_qOp hC (fun a' w' hw' h' => ih _ a' w' hw' h') (h.2 i hi).2⟩
theorem headAny_first {n i : Nat} {oi : Oper} {v : Value} {L : Array Bool → Act → Prop} (hi : ops[i]? = some oi) (hsel : ∀ (j : Nat) (o : Oper) cs b, ops[j]? = some o → o.op ≠ .select cs b)
    (hs : Region.sinkB md ops n = true) (hc : Region.chainB md ops n = true) (hn : n < ops.size) (hin : i < n) (hdone : ∀ ls a, L ls a → ∀ j ∈ Region.ready md ops ls, n ≤ j) :
    ∀ (f : Nat) (ls : Array Bool) (a : Act), HeadInv md ops n ls →
      (∀ j oj, ops[j]? = some oj → j ≠ i → ls.getD j true = false → (∀ e ∈ oj.after, Region.binds md e = true → e.on ≠ i) → oi.apart ops oj = true) →
      i ∈ Region.ready md ops ls → YieldsIn P ops C oi v a → headAny P md ops C n L f (ls.setIfInBounds i true) (a.put oi.dst v) → headAny P md ops C n L (f + 1) ls a := by
  intro f
  induction f with
  | zero =>
    intro ls a inv _ hr hy H
    have hun := (mem_ready.1 hr).1
    refine ⟨List.ne_nil_of_mem hr, fun j hj => ?_⟩
    have hjn : j < n := Nat.lt_of_not_le fun h => tail_waits hs hc hn inv _ i rfl hin hun j h hj
    refine ⟨hjn, ?_⟩
    by_cases hji : j = i
    · subst hji; exact hy.qOp hi H
    · exact absurd (hdone _ _ H j (ready_mono hj hji)) (by omega)
  | succ f ih =>
    intro ls a inv hfree hr hy H
    have hun := (mem_ready.1 hr).1
    refine ⟨List.ne_nil_of_mem hr, fun j hj => ?_⟩
    have hjn : j < n := Nat.lt_of_not_le fun h => tail_waits hs hc hn inv _ i rfl hin hun j h hj
    refine ⟨hjn, ?_⟩
    by_cases hji : j = i
    · subst hji; exact hy.qOp hi H
    · obtain ⟨hjun, oj, hoj, hall⟩ := mem_ready.1 hj
      have hnot : ∀ e ∈ oj.after, Region.binds md e = true → e.on ≠ i := fun e he hb heq => by
        have h1 := hall e he hb
        rw [heq, getD_both hun] at h1
        cases h1
      have h2 := qOp_put hoj (hfree j oj hoj hji hjun hnot) (fun cs b => hsel i oi cs b hi) (fun cs b => hsel j oj cs b hoj) hy (H.2 j (ready_mono hj hji)).2
      refine qOp_mono (fun a' h3 => ih (ls.setIfInBounds j true) a' (inv.set hj hjn) (fun k ok hk hki hun' hno => hfree k ok hk hki ?_ hno) (ready_mono hr (Ne.symm hji)) h3.1 ?_) h2
      · by_cases hjk : j = k
        · subst hjk; exact hjun
        · rw [getD_set_ne true hjk] at hun'; exact hun'
      · rw [Array.setIfInBounds_comm _ _ hji]
        exact h3.2
theorem headAny_lex {n g : Nat} {Lq : Act → Prop} (hsel : Region.noSelect ops = true) (hs : Region.sinkB md ops n = true) (hc : Region.chainB md ops n = true) (hn : n < ops.size) :
    ∀ (l : List Oper) (k : Nat) (ls : Array Bool) (a : Act), (∀ j, j < l.length → l[j]? = ops[k + j]?) → k + l.length = n → HeadInv md ops n ls →
    Region.lexHead md ops g l.length k ls = true → wpQuiet P ops C Lq l a → headAny P md ops C n (fun ls' a' => Region.seqB md ops g n ls' = true ∧ Lq a') l.length ls a := by
  intro l
  induction l with
  | nil =>
    intro k ls a _ hk _ hB h
    obtain rfl : k = n := by simpa using hk
    exact ⟨by simpa [Region.lexHead] using hB, h⟩
  | cons o l ih =>
    intro k ls a hl hk inv hB h
    have h0 : ops[k]? = some o := by simpa using (hl 0 (by simp)).symm
    simp only [List.length_cons, Region.lexHead, Bool.and_eq_true] at hB
    obtain ⟨⟨hr, hf⟩, hB'⟩ := hB
    simp only [List.length_cons] at hk
    have hr' : k ∈ Region.ready md ops ls := by simpa using hr
    have hst : qOp P ops C k (wpQuiet P ops C Lq l) a := by unfold qOp; simp only [h0]; exact h
    obtain ⟨v, hy, hK⟩ := yieldsIn_of_qOp h0 hst
    refine headAny_first h0 (Region.noSelect_spec hsel) hs hc hn (by omega) (fun ls' a' hL => seqB_ready hL.1) l.length ls a inv (Region.free_spec h0 hf) hr' hy (ih (k + 1) _ _ (fun j hj => ?_) (by omega) (inv.set hr' (by omega)) hB' hK)
    have := hl (j + 1) (by simp; omega)
    simpa [Nat.add_assoc, Nat.add_comm 1 j] using this
theorem wp_region_class_tail {id : Nat} {Q : Exit → Act → World → Prop} {a : Act} {w : World} {l : List Oper} (n : Nat) (hm : P.follows .mixedOrders = true) (hB : Region.lexTailB .any l.toArray n = true) (hC : C w.drew)
    (h : wpQuiet P l.toArray C (fun a' => ∀ w', C w' → wpList P l.toArray Q (l.drop n) a' w') (l.take n) a) : (Code.region id l.toArray true).wp P Q a w := by
  simp only [Region.lexTailB, Bool.and_eq_true, decide_eq_true_eq] at hB
  obtain ⟨⟨⟨⟨hsel, hn⟩, hs⟩, hc⟩, hlex⟩ := hB
  have hn' : n < l.length := by simpa using hn
  have htl : (l.take n).length = n := by simp; omega
  have hdl : (l.drop n).length = l.toArray.size - n := by simp
  have inv0 : HeadInv .any l.toArray n (Array.replicate l.toArray.size false) :=
    ⟨by simp, fun j oj _ hl => (by rw [getD_replicate_false] at hl; cases hl), fun t _ ht => getD_in (by simpa using ht) (getD_replicate_false _ _)⟩
  have H := headAny_lex (C := C) (md := .any) (g := l.toArray.size - n) hsel hs hc hn (l.take n) 0 _ a (fun j hj => by
    have hj' : j < n := by rw [htl] at hj; exact hj
    simp [hj']) (by simpa using htl) inv0 (by rw [htl]; exact hlex) h
  refine wp_region_any hm ?_
  have := any_of_headAny (Q := Q) (g := l.toArray.size - n) (fun ls a' w' hw' hL => by
    have := wpAny_of_seq (md := .any) (Q' := Q) (l.drop n) n ls a' w' (fun j => by simp [List.getElem?_drop]) (by rw [hdl]; exact hL.1) (hL.2 w' hw')
    rwa [hdl] at this) _ _ _ w.drew hC H
  rw [htl, show n + (l.toArray.size - n) = l.toArray.size by omega] at this
  exact this
end
end Go.Proofs.Ytkimieeabmjfgaa

namespace Go.Proofs.Ytkimieeabmjfgaa
open Go.RowKit
set_option linter.unusedVariables false
set_option maxRecDepth 1000000

/-- messagesRight. -/
noncomputable def msgB (H : List ByteArray) : Bool := @decide (H.length ≤ 20 ∧ ∀ i (h : i < H.length), inB H[i].size 1 40 = true) (Classical.propDecidable _)
theorem msgB_true {H : List ByteArray} (h : H.length ≤ 20 ∧ ∀ i (h : i < H.length), inB H[i].size 1 40 = true) : msgB H = true := by unfold msgB; exact @decide_eq_true _ (Classical.propDecidable _) h
theorem msgB_false {H : List ByteArray} (h : ¬ (H.length ≤ 20 ∧ ∀ i (h : i < H.length), inB H[i].size 1 40 = true)) : msgB H = false := by unfold msgB; exact @decide_eq_false _ (Classical.propDecidable _) h
theorem msgB_iff {H : List ByteArray} : msgB H = true ↔ (H.length ≤ 20 ∧ ∀ i (h : i < H.length), inB H[i].size 1 40 = true) := ⟨fun h => by unfold msgB at h; exact @of_decide_eq_true _ (Classical.propDecidable _) h, msgB_true⟩
set_option maxHeartbeats 2000000 in
theorem messagesRight_any (A : Option Addr) (H : List ByteArray) (c : Nat) (w : World) (hA : Strs w w.heap.size A H) (hf : ∀ s ∈ H, s.size ≤ maxLen) :
    Calls Try.prog 124 #[.slice A H.length c] w fun e w' => e = .returned (.bool (msgB H)) ∧ w' = w := by
  have hn := hA.1
  unfold maxLen at hn
  by_cases h3 : H.length ≤ 20
  rotate_left
  · have HR := Lib.hid (msgB_false (H := H) fun h => h3 h.1)
    go_enter Try.func124, Try.ntmps124
    go_wp2
    go_ret
    exact ⟨by rw [HR.out]; rfl, rfl⟩
  go_enter Try.func124, Try.ntmps124
  go_wp2
  go_loopw [4, 10] (fun _ i wr => ∃ k : Nat, k ≤ H.length ∧ i = .int .i64 k ∧ (∀ j (h : j < H.length), j < k → inB H[j].size 1 40 = true) ∧ wr = w) (fun _ i _ => H.length - (intOf i).toNat)
  case atStart => exact ⟨0, by omega, rfl, fun j _ h => by omega, rfl⟩
  case round =>
    obtain ⟨k, hk, rfl, hok, rfl⟩ := hrel
    by_cases hlt : k < H.length
    · obtain ⟨a, rfl, hab, c0⟩ := hA.2 k hlt
      have hlt' : (k : Int) < (H.length : Int) := by omega
      rcases Bool.eq_false_or_eq_true (inB H[k].size 1 40) with hT | hT
      · have TX := textRight_b hT (hf _ (List.getElem_mem hlt))
        go_wp2_with (go_at_call 130; refine (TX _).mono ?_; rintro e w' ⟨rfl, rfl⟩)
        refine ⟨⟨k + 1, by omega, by go_num, fun j hj hjk => ?_, trivial⟩, by simp [intOf]; omega⟩
        by_cases e : j = k
        · subst e; exact hT
        · exact hok j hj (by omega)
      · have TX := textRight_b hT (hf _ (List.getElem_mem hlt))
        have HR := Lib.hid (msgB_false (H := H) fun h => by have := h.2 k hlt; rw [hT] at this; cases this)
        go_wp2_with (go_at_call 130; refine (TX _).mono ?_; rintro e w' ⟨rfl, rfl⟩)
        go_ret
        exact ⟨by rw [HR.out]; rfl, rfl⟩
    · obtain rfl : k = H.length := by omega
      have HR := Lib.hid (msgB_true (H := H) ⟨h3, fun j h => hok j h h⟩)
      go_wp2
      go_ret
      exact ⟨by rw [HR.out]; rfl, rfl⟩

/-- The function that tests the numbers between two. -/
abbrev btwV (p q : Nat) : Value := .func (.func 123) #[] #[.pointer (some ⟨p, 0, none⟩), .pointer (some ⟨q, 0, none⟩)]
theorem between_any {n a b : Int} {r : Bool} (h : inB n a b = r) (p q : Nat) (w : World) (hp : w.cell? ⟨p, 0, none⟩ = some (.int .i64 a)) (hq : w.cell? ⟨q, 0, none⟩ = some (.int .i64 b)) :
    Calls Try.prog 123 #[.int .i64 n, .pointer (some ⟨p, 0, none⟩), .pointer (some ⟨q, 0, none⟩)] w fun e w' => e = .returned (.bool r) ∧ w' = w := by
  have IR := inRange_any h
  clear h
  go_enter Try.func123, Try.ntmps123
  go_wp2_with (go_at_call 46; refine (IR _).mono ?_; rintro e w' ⟨rfl, rfl⟩)
  go_ret
  exact ⟨rfl, rfl⟩
theorem numbersBetween_any (a b : Int) (w : World) :
    Calls Try.prog 97 #[.int .i64 a, .int .i64 b] w fun e w' => e = .returned (btwV w.heap.size (w.heap.size + 1)) ∧ w' = (w.alloc (.cells #[.int .i64 a] 2)).alloc (.cells #[.int .i64 b] 2) := by
  go_enter Try.func97, Try.ntmps97
  go_wp2
  go_ret
  exact ⟨rfl, rfl⟩

/-- groupsRight. -/
noncomputable def grpsB (t : Tpc) : Bool := @decide (t.groups.length ≤ 4 ∧ ∀ i (h : i < t.groups.length), grpIn t i h) (Classical.propDecidable _)
theorem grpsB_true {t : Tpc} (h : t.groups.length ≤ 4 ∧ ∀ i (h : i < t.groups.length), grpIn t i h) : grpsB t = true := by unfold grpsB; exact @decide_eq_true _ (Classical.propDecidable _) h
theorem grpsB_false {t : Tpc} (h : ¬ (t.groups.length ≤ 4 ∧ ∀ i (h : i < t.groups.length), grpIn t i h)) : grpsB t = false := by unfold grpsB; exact @decide_eq_false _ (Classical.propDecidable _) h
theorem grpsB_iff {t : Tpc} : grpsB t = true ↔ (t.groups.length ≤ 4 ∧ ∀ i (h : i < t.groups.length), grpIn t i h) := ⟨fun h => by unfold grpsB at h; exact @of_decide_eq_true _ (Classical.propDecidable _) h, grpsB_true⟩
set_option maxHeartbeats 8000000 in
theorem groupsRight_any (nm : ByteArray) (bs : Int) (H : List ByteArray) (G : List Grp) (B : Option Addr) (d p q : Nat) (w : World) (f3 : ∀ g ∈ G, g.fits) (hB : Grs w w.heap.size B G) (hp : w.cell? ⟨p, 0, none⟩ = some (.int .i64 bs)) (hq : w.cell? ⟨q, 0, none⟩ = some (.int .i64 (bs + H.length))) :
    Calls Try.prog 125 #[.slice B G.length d, btwV p q] w fun e w' => e = .returned (.bool (grpsB ⟨nm, bs, H, G⟩)) ∧ Below w.heap.size w w' := by
  have hm := hB.1
  unfold maxLen at hm
  have F0 : Hid (∀ h : ¬ (G.length ≤ 4 ∧ ∀ i (h : i < G.length), grpIn ⟨nm, bs, H, G⟩ i h), grpsB ⟨nm, bs, H, G⟩ = false) := Lib.hid (grpsB_false (t := ⟨nm, bs, H, G⟩))
  have F1 : Hid (∀ h : (G.length ≤ 4 ∧ ∀ i (h : i < G.length), grpIn ⟨nm, bs, H, G⟩ i h), grpsB ⟨nm, bs, H, G⟩ = true) := Lib.hid (grpsB_true (t := ⟨nm, bs, H, G⟩))
  generalize grpsB ⟨nm, bs, H, G⟩ = R at F0 F1 ⊢
  by_cases h4 : G.length ≤ 4
  rotate_left
  · have HR := Lib.hid (F0.out fun h => h4 h.1)
    go_enter Try.func125, Try.ntmps125
    go_wp2
    go_ret
    exact ⟨by rw [HR.out]; rfl, Below.refl _ _⟩
  go_enter Try.func125, Try.ntmps125
  go_wp2
  go_loopw [5, 6, 12] (fun _ _ i wr => ∃ k : Nat, k ≤ G.length ∧ i = .int .i64 k ∧ (∀ j (h : j < G.length), j < k → grpIn ⟨nm, bs, H, G⟩ j h) ∧ Below w.heap.size w wr) (fun _ _ i _ => G.length - (intOf i).toNat)
  case atStart => exact ⟨0, by omega, rfl, fun j _ h => by omega, Below.refl _ _⟩
  case round =>
    obtain ⟨k, hk, rfl, hok, hw3⟩ := hrel
    by_cases hlt : k < G.length
    rotate_left
    · obtain rfl : k = G.length := by omega
      have HR := Lib.hid (F1.out ⟨h4, fun i h => hok i h h⟩)
      go_wp2
      go_ret
      exact ⟨by rw [HR.out]; rfl, hw3⟩
    obtain ⟨a, rfl, hab, c0, c1⟩ := (hB.below hw3 (Nat.le_refl _)).at k hlt
    have hlt' : (k : Int) < (G.length : Int) := by omega
    have hG := Blk.fresh wr 68 [.string G[k].name, .int .i64 G[k].acked]
    have hw4 := hw3.alloc hw3.size (.cells #[.string G[k].name, .int .i64 G[k].acked] 68)
    have hpr : ∀ q, (h : q + 1 = k) → (wr.alloc (.cells #[.string G[k].name, .int .i64 G[k].acked] 68)).cell? (a.add (q * 2)) = some (.string (G[q]'(by omega)).name) := by
      intro q h
      obtain ⟨a', e, _, h2, _⟩ := (hB.below hw4 (Nat.le_refl _)).at q (by omega)
      cases e
      exact h2
    simp only [List.toArray] at hG
    go_wp2
    generalize wr.alloc (.cells #[.string G[k].name, .int .i64 G[k].acked] 68) = w3 at hG hw4 hpr ⊢
    clear c0 c1
    have n1 : G[k].name.size ≤ maxLen := (f3 _ (List.getElem_mem hlt)).1
    obtain ⟨I, f, hI', g0, gk, gc, ge⟩ := class_grown w3
    have x0 := fun s => kept_cell (gk s) (hG.cell (i := 0) rfl)
    have x1 := fun s => kept_cell (gk s) (hG.cell (i := 1) rfl)
    have vp := fun s => kept_cell (gk s) (kept_cell hw4 hp)
    have vq := fun s => kept_cell (gk s) (kept_cell hw4 hq)
    have HW : Hid (∀ W, Below w3.heap.size w3 W → Below w.heap.size w W) := Lib.hid fun W h => hw4.trans (h.mono hw4.size)
    have HOK := Lib.hid hok
    have HB := Lib.hid (fun h : ¬ grpIn ⟨nm, bs, H, G⟩ k hlt => F0.out fun q => h (q.2 k hlt))
    clear hok hG hw4
    rcases Bool.eq_false_or_eq_true (nameB G[k].name) with hN2 | hN2
    rotate_left
    · have NG := Lib.hid (fun W => bl (implName_b hN2 n1 W))
      have HR := Lib.hid (HB.out fun h => by have := h.1; rw [hN2] at this; cases this)
      refine wp_region_kept f (by kernel_rfl) (by kernel_rfl) g0 ?_
      repeat (first
        | go_big_quiet_skip
        | (go_big_quiet_want; go_big_quiet_op; first
          | go_big_quiet_on
          | (apply Exists.intro; refine ⟨fun s => ?_, ?_⟩; (go_at_call 87; (with_reducible refine (NG.out _).mono ?_); rintro e w4 ⟨rfl, hb4⟩; exact ⟨rfl, gc _ _ hb4⟩); go_big_quiet_on)
          | (apply Exists.intro; refine ⟨fun s => ?_, ?_⟩; (go_at_call 123; (with_reducible refine (IG.out _).mono ?_); rintro e w4 ⟨rfl, hb4⟩; exact ⟨rfl, gc _ _ hb4⟩); go_big_quiet_on)))
      refine wpQuiet_nil ?_
      intro w5 h5
      have hb5 := ge _ h5
      go_wp2
      go_ret
      exact ⟨by rw [HR.out]; rfl, HW.out _ hb5⟩
    have NG := Lib.hid (fun W => bl (implName_b hN2 n1 W))
    rcases Bool.eq_false_or_eq_true (inB G[k].acked bs (bs + H.length)) with hI2 | hI2
    rotate_left
    · have IG := Lib.hid (fun s => bl (between_any hI2 p q (f s) (vp s) (vq s)))
      have HR := Lib.hid (HB.out fun h => by have := h.2.1; rw [hI2] at this; cases this)
      refine wp_region_kept f (by kernel_rfl) (by kernel_rfl) g0 ?_
      repeat (first
        | go_big_quiet_skip
        | (go_big_quiet_want; go_big_quiet_op; first
          | go_big_quiet_on
          | (apply Exists.intro; refine ⟨fun s => ?_, ?_⟩; (go_at_call 87; (with_reducible refine (NG.out _).mono ?_); rintro e w4 ⟨rfl, hb4⟩; exact ⟨rfl, gc _ _ hb4⟩); go_big_quiet_on)
          | (apply Exists.intro; refine ⟨fun s => ?_, ?_⟩; (go_at_call 123; (with_reducible refine (IG.out _).mono ?_); rintro e w4 ⟨rfl, hb4⟩; exact ⟨rfl, gc _ _ hb4⟩); go_big_quiet_on)))
      refine wpQuiet_nil ?_
      intro w5 h5
      have hb5 := ge _ h5
      go_wp2
      go_ret
      exact ⟨by rw [HR.out]; rfl, HW.out _ hb5⟩
    have IG := Lib.hid (fun s => bl (between_any hI2 p q (f s) (vp s) (vq s)))
    by_cases hk0 : 0 < k
    · obtain ⟨q', hq'⟩ : ∃ q, q + 1 = k := ⟨k - 1, by omega⟩
      have p0 := fun s => kept_cell (gk s) (hpr q' hq')
      have hd : decide ((0 : Int) < (k : Int)) = true := by simp; omega
      have e1 : IntKind.i64.wrap ((k : Int) - 1) = (q' : Int) := by rw [IntWalk.i64_in _ (by omega)]; omega
      have e2 : (q' : Int) < (G.length : Int) := by omega
      have hql : q' < G.length := by omega
      clear hpr
      rcases Bool.eq_false_or_eq_true (Op.bytesLess G[q'].name.toList G[k].name.toList) with hl | hl
      rotate_left
      · have HR := Lib.hid (HB.out (not_grp_less hq' hlt hql hl))
        refine wp_region_kept f (by kernel_rfl) (by kernel_rfl) g0 ?_
        repeat (first
          | go_big_quiet_skip
          | (go_big_quiet_want; go_big_quiet_op; first
            | go_big_quiet_on
            | (apply Exists.intro; refine ⟨fun s => ?_, ?_⟩; (go_at_call 87; (with_reducible refine (NG.out _).mono ?_); rintro e w4 ⟨rfl, hb4⟩; exact ⟨rfl, gc _ _ hb4⟩); go_big_quiet_on)
            | (apply Exists.intro; refine ⟨fun s => ?_, ?_⟩; (go_at_call 123; (with_reducible refine (IG.out _).mono ?_); rintro e w4 ⟨rfl, hb4⟩; exact ⟨rfl, gc _ _ hb4⟩); go_big_quiet_on)))
        refine wpQuiet_nil ?_
        intro w5 h5
        have hb5 := ge _ h5
        go_wp2
        go_ret
        exact ⟨by rw [HR.out]; rfl, HW.out _ hb5⟩
      have HL := Lib.hid (grp_less (t := ⟨nm, bs, H, G⟩) hq' hlt hql hl)
      refine wp_region_kept f (by kernel_rfl) (by kernel_rfl) g0 ?_
      repeat (first
        | go_big_quiet_skip
        | (go_big_quiet_want; go_big_quiet_op; first
          | go_big_quiet_on
          | (apply Exists.intro; refine ⟨fun s => ?_, ?_⟩; (go_at_call 87; (with_reducible refine (NG.out _).mono ?_); rintro e w4 ⟨rfl, hb4⟩; exact ⟨rfl, gc _ _ hb4⟩); go_big_quiet_on)
          | (apply Exists.intro; refine ⟨fun s => ?_, ?_⟩; (go_at_call 123; (with_reducible refine (IG.out _).mono ?_); rintro e w4 ⟨rfl, hb4⟩; exact ⟨rfl, gc _ _ hb4⟩); go_big_quiet_on)))
      refine wpQuiet_nil ?_
      intro w5 h5
      have hb5 := ge _ h5
      go_wp2
      refine ⟨⟨k + 1, by omega, by go_num, fun j hj hjk => ?_, HW.out _ hb5⟩, by simp [intOf]; omega⟩
      by_cases e : j = k
      · subst e
        exact ⟨hN2, hI2, HL.out⟩
      · exact HOK.out j hj (by omega)
    · have hd : decide ((0 : Int) < (k : Int)) = false := by simp; omega
      clear hpr
      refine wp_region_kept f (by kernel_rfl) (by kernel_rfl) g0 ?_
      repeat (first
        | go_big_quiet_skip
        | (go_big_quiet_want; go_big_quiet_op; first
          | go_big_quiet_on
          | (apply Exists.intro; refine ⟨fun s => ?_, ?_⟩; (go_at_call 87; (with_reducible refine (NG.out _).mono ?_); rintro e w4 ⟨rfl, hb4⟩; exact ⟨rfl, gc _ _ hb4⟩); go_big_quiet_on)
          | (apply Exists.intro; refine ⟨fun s => ?_, ?_⟩; (go_at_call 123; (with_reducible refine (IG.out _).mono ?_); rintro e w4 ⟨rfl, hb4⟩; exact ⟨rfl, gc _ _ hb4⟩); go_big_quiet_on)))
      refine wpQuiet_nil ?_
      intro w5 h5
      have hb5 := ge _ h5
      go_wp2
      refine ⟨⟨k + 1, by omega, by go_num, fun j hj hjk => ?_, HW.out _ hb5⟩, by simp [intOf]; omega⟩
      by_cases e : j = k
      · subst e
        exact ⟨hN2, hI2, fun h => absurd h hk0⟩
      · exact HOK.out j hj (by omega)
end Go.Proofs.Ytkimieeabmjfgaa
