/- The size that the exact laws reckon of a broker. When a broker is right: spec.BrokerRight and impl.BrokerRight both answer broB. The copy that the exact laws make of a topic, and their comparison of two. The copy that the exact laws make of a broker, and their comparison of two. -/
import Derived.Test.YtkimieeabmjfgaaIs3W
import Derived.Test.YtkimieeabmjfgaaTpSzW
import Derived.Test.YtkimieeabmjfgaaTpRSW
import Derived.Test.YtkimieeabmjfgaaStrArgW
namespace Go.Proofs.Ytkimieeabmjfgaa
open Go.RowKit
set_option linter.unusedVariables false
set_option maxRecDepth 1000000

set_option maxHeartbeats 2000000 in
theorem szTopic_left (t : Tpc) (A : Option Addr) (c : Nat) (B : Option Addr) (d : Nat) (left : Int) (w : World) (hf : t.fits) (hA : Strs w w.heap.size A t.held) (hB : Grs w w.heap.size B t.groups) (l0 : 0 ≤ left) (l1 : left ≤ 1048576) :
    Calls Try.prog 10 #[topV t.name t.base (.slice A t.held.length c) (.slice B t.groups.length d), .int .i64 left] w fun e w' => ∃ r : Int, e = .returned (.int .i64 r) ∧ -1 ≤ r ∧ r ≤ 1048576 ∧ (0 ≤ r → t.small) ∧ Below w.heap.size w w' := by
  obtain ⟨nm, bs, H, G⟩ := t
  obtain ⟨f0, f1, f2, f3⟩ := hf
  simp only at f0 f1 f2 f3 hA hB ⊢
  unfold maxLen at f0
  have hb0 : Below w.heap.size w (w.alloc (.cells #[.string nm, .int .i64 bs, .slice A H.length c, .slice B G.length d] 25)) := (Below.refl _ _).alloc (Nat.le_refl _) _
  have k0 := Blk.fresh w 25 [.string nm, .int .i64 bs, .slice A H.length c, .slice B G.length d]
  simp only [List.toArray] at k0
  by_cases hn : left - nm.size < 0
  · go_enter Try.func10, Try.ntmps10
    go_wp2
    go_ret
    exact ⟨-1, rfl, by omega, by omega, fun h => by omega, hb0⟩
  have hn' : ¬ left - (nm.size : Int) < 0 := hn
  have SS := Lib.hid (fun W (h : Below w.heap.size w W) => szStringS_left A H c (left - nm.size) W (hA.on h) f2 (by omega) (by omega))
  go_enter Try.func10, Try.ntmps10
  go_wp2_with (fail)
  generalize w.alloc (.cells #[.string nm, .int .i64 bs, .slice A H.length c, .slice B G.length d] 25) = v0 at hb0 k0 ⊢
  refine (SS.out _ hb0).mono ?_
  rintro e w1 ⟨r, rfl, r0, r1, hS, hb1⟩
  have hw1 := hb0.trans (hb1.mono hb0.size)
  have k1 := k0.below hb1 k0.lt
  clear k0 hb0 hb1
  by_cases hr : r < 0
  · go_wp2
    go_ret
    exact ⟨-1, rfl, by omega, by omega, fun h => by omega, hw1⟩
  have c3 := k1.cell (i := 3) rfl
  have SG := Lib.hid (szGroupS_left B G d r w1 (hB.on hw1) f3 (by omega) (by omega))
  have hr' : ¬ r < 0 := hr
  go_wp2_with (fail)
  refine SG.out.mono ?_
  rintro e w2 ⟨q, rfl, q0, q1, hT, hb2⟩
  have hw2 := hw1.trans (hb2.mono hw1.size)
  by_cases hq : q < 0
  · go_wp2
    go_ret
    exact ⟨-1, rfl, by omega, by omega, fun h => by omega, hw2⟩
  have hq' : ¬ q < 0 := hq
  go_wp2
  go_ret
  exact ⟨q, rfl, q0, q1, fun h => ⟨by show nm.size ≤ 1048576; omega, hS (by omega), hT h⟩, hw2⟩
/-- A broker of no great size. -/
def Bro.small (b : Bro) : Prop := (b.topics.length ≤ 1048576 ∧ ∀ i (h : i < b.topics.length), b.topics[i].small) ∧ (b.replies.length ≤ 1048576 ∧ ∀ i (h : i < b.replies.length), b.replies[i].text.size ≤ 1048576)
def szR (f : Rep) (left : Int) : Int := if left - f.text.size < 0 then -1 else left - f.text.size
theorem szReply_any (f : Rep) (left : Int) (w : World) (hf : f.fits) (h0 : 0 ≤ left) (h1 : left ≤ 1048576) :
    Calls Try.prog 99 #[f.val, .int .i64 left] w fun e w' => e = .returned (.int .i64 (szR f left)) ∧ Below w.heap.size w w' := by
  obtain ⟨c, k, s0⟩ := f
  obtain ⟨q1, q2, q0⟩ := hf
  simp only at q0 q2 q1
  unfold maxLen at q0
  unfold Rep.val szR
  simp only
  by_cases hA : left - s0.size < 0
  · rw [if_pos hA]
    go_enter Try.func99, Try.ntmps99
    go_wp2
    go_ret
    exact ⟨rfl, (Below.refl _ _).alloc (Nat.le_refl _) _⟩
  · rw [if_neg hA]
    go_enter Try.func99, Try.ntmps99
    go_wp2
    go_ret
    exact ⟨rfl, (Below.refl _ _).alloc (Nat.le_refl _) _⟩
theorem szR_lo (f : Rep) (left : Int) (h : 0 ≤ left) : -1 ≤ szR f left ∧ szR f left ≤ left := by unfold szR; split <;> omega
theorem szR_ok {f : Rep} {left : Int} (h1 : left ≤ 1048576) (h : 0 ≤ szR f left) : f.text.size ≤ 1048576 := by
  unfold szR at h
  split at h <;> omega
set_option maxHeartbeats 1000000 in
theorem szReplyS_left (A : Option Addr) (L : List Rep) (c : Nat) (left : Int) (w : World) (hL : Rps w w.heap.size A L) (hf : ∀ g ∈ L, g.fits) (l0 : 0 ≤ left) (l1 : left ≤ 1048576) :
    Calls Try.prog 57 #[.slice A L.length c, .int .i64 left] w fun e w' => ∃ r : Int, e = .returned (.int .i64 r) ∧ -1 ≤ r ∧ r ≤ 1048576 ∧ (0 ≤ r → L.length ≤ 1048576 ∧ ∀ i (h : i < L.length), L[i].text.size ≤ 1048576) ∧ Below w.heap.size w w' := by
  have hn := hL.1
  unfold maxLen at hn
  by_cases hbig : left - L.length < 0
  · go_enter Try.func57, Try.ntmps57
    go_wp2
    go_ret
    exact ⟨-1, rfl, by omega, by omega, fun h => by omega, Below.refl _ _⟩
  · have hn2 : L.length ≤ 1048576 := by omega
    have hbig' : ¬ left - (L.length : Int) < 0 := hbig
    go_enter Try.func57, Try.ntmps57
    go_wp2
    go_loopw [1, 5] (fun l i wr => ∃ (k : Nat) (left : Int), k ≤ L.length ∧ i = .int .i64 k ∧ l = .int .i64 left ∧ 0 ≤ left ∧ left ≤ 1048576 ∧ (∀ j (h : j < L.length), j < k → L[j].text.size ≤ 1048576) ∧ Below w.heap.size w wr) (fun _ i _ => L.length - (intOf i).toNat)
    case atStart => exact ⟨0, _, by omega, rfl, rfl, by omega, by omega, fun j _ h => by omega, Below.refl _ _⟩
    case round =>
      obtain ⟨k, lf, hk, rfl, rfl, l0, l1, hS, hb⟩ := hrel
      by_cases hlt : k < L.length
      · obtain ⟨a, rfl, hab, c0, c1, c2⟩ := (hL.below hb (Nat.le_refl _)).at k hlt
        have hsz := szR_lo L[k] lf l0
        have hff := hf _ (List.getElem_mem hlt)
        go_wp2_with (go_at_call 99; refine (szReply_any L[k] lf wr hff l0 l1).mono ?_; rintro e w1 ⟨rfl, hb1⟩)
        · go_ret
          exact ⟨-1, rfl, by omega, by omega, fun h => by omega, hb.trans (hb1.mono hb.size)⟩
        · have h0 : 0 ≤ szR L[k] lf := by omega
          refine ⟨⟨k + 1, _, by omega, by go_num, rfl, h0, by omega, fun j hj hjk => ?_, hb.trans (hb1.mono hb.size)⟩, by simp [intOf]; omega⟩
          by_cases e : j = k
          · subst e; exact szR_ok l1 h0
          · exact hS j hj (by omega)
      · obtain rfl : k = L.length := by omega
        go_wp2
        go_ret
        exact ⟨lf, rfl, by omega, l1, fun _ => ⟨hn2, fun i h => hS i h h⟩, hb⟩
set_option maxHeartbeats 2000000 in
theorem szTopicS_left (A : Option Addr) (L : List Tpc) (c : Nat) (left : Int) (w : World) (hL : Tops w w.heap.size A L) (hf : ∀ g ∈ L, g.fits) (l0 : 0 ≤ left) (l1 : left ≤ 1048576) :
    Calls Try.prog 56 #[.slice A L.length c, .int .i64 left] w fun e w' => ∃ r : Int, e = .returned (.int .i64 r) ∧ -1 ≤ r ∧ r ≤ 1048576 ∧ (0 ≤ r → L.length ≤ 1048576 ∧ ∀ i (h : i < L.length), L[i].small) ∧ Below w.heap.size w w' := by
  have hn := hL.1
  unfold maxLen at hn
  by_cases hbig : left - L.length < 0
  · go_enter Try.func56, Try.ntmps56
    go_wp2
    go_ret
    exact ⟨-1, rfl, by omega, by omega, fun h => by omega, Below.refl _ _⟩
  · have hn2 : L.length ≤ 1048576 := by omega
    have hbig' : ¬ left - (L.length : Int) < 0 := hbig
    go_enter Try.func56, Try.ntmps56
    go_wp2
    go_loopw [1, 5] (fun l i wr => ∃ (k : Nat) (left : Int), k ≤ L.length ∧ i = .int .i64 k ∧ l = .int .i64 left ∧ 0 ≤ left ∧ left ≤ 1048576 ∧ (∀ j (h : j < L.length), j < k → L[j].small) ∧ Below w.heap.size w wr) (fun _ i _ => L.length - (intOf i).toNat)
    case atStart => exact ⟨0, _, by omega, rfl, rfl, by omega, by omega, fun j _ h => by omega, Below.refl _ _⟩
    case round =>
      obtain ⟨k, lf, hk, rfl, rfl, l0, l1, hS, hb⟩ := hrel
      by_cases hlt : k < L.length
      · obtain ⟨a, rfl, hab, C, c', D, d', c0, c1, c2, c3, hC, hD⟩ := ((hL.below hb (Nat.le_refl _)).mono hb.size).at k hlt
        have ST := Lib.hid (szTopic_left L[k] C c' D d' lf wr (hf _ (List.getElem_mem hlt)) hC hD l0 l1)
        go_wp2_with (fail)
        refine ST.out.mono ?_
        rintro e w1 ⟨r, rfl, r0, r1, hs, hb1⟩
        by_cases hr : r < 0
        · go_wp2
          go_ret
          exact ⟨-1, rfl, by omega, by omega, fun h => by omega, hb.trans (hb1.mono hb.size)⟩
        · go_wp2
          refine ⟨⟨k + 1, _, by omega, by go_num, rfl, by omega, r1, fun j hj hjk => ?_, hb.trans (hb1.mono hb.size)⟩, by simp [intOf]; omega⟩
          by_cases e : j = k
          · subst e; exact hs (by omega)
          · exact hS j hj (by omega)
      · obtain rfl : k = L.length := by omega
        go_wp2
        go_ret
        exact ⟨lf, rfl, by omega, l1, fun _ => ⟨hn2, fun i h => hS i h h⟩, hb⟩
set_option maxHeartbeats 2000000 in
theorem szBroker_any (b : Bro) (A : Option Addr) (c : Nat) (B : Option Addr) (d : Nat) (w : World) (hf : b.fits) (hA : Tops w w.heap.size A b.topics) (hB : Rps w w.heap.size B b.replies) :
    Calls Try.prog 23 #[broV (.slice A b.topics.length c) (.slice B b.replies.length d), .int .i64 1048576] w fun e w' => ∃ r : Int, e = .returned (.int .i64 r) ∧ -1 ≤ r ∧ r ≤ 1048576 ∧ (0 ≤ r → b.small) ∧ Below w.heap.size w w' := by
  obtain ⟨T, R⟩ := b
  obtain ⟨f0, f1⟩ := hf
  simp only at f0 f1 hA hB ⊢
  have hb0 : Below w.heap.size w (w.alloc (.cells #[.slice A T.length c, .slice B R.length d] 42)) := (Below.refl _ _).alloc (Nat.le_refl _) _
  have k0 := Blk.fresh w 42 [.slice A T.length c, .slice B R.length d]
  simp only [List.toArray] at k0
  have SS := Lib.hid (fun W (h : Below w.heap.size w W) => szTopicS_left A T c 1048576 W (hA.on h) f0 (by omega) (by omega))
  go_enter Try.func23, Try.ntmps23
  go_wp2_with (fail)
  generalize w.alloc (.cells #[.slice A T.length c, .slice B R.length d] 42) = v0 at hb0 k0 ⊢
  refine (SS.out _ hb0).mono ?_
  rintro e w1 ⟨r, rfl, r0, r1, hS, hb1⟩
  have hw1 := hb0.trans (hb1.mono hb0.size)
  have k1 := k0.below hb1 k0.lt
  clear k0 hb0 hb1
  by_cases hr : r < 0
  · go_wp2
    go_ret
    exact ⟨-1, rfl, by omega, by omega, fun h => by omega, hw1⟩
  have c3 := k1.cell (i := 1) rfl
  have SG := Lib.hid (szReplyS_left B R d r w1 (hB.on hw1) f1 (by omega) (by omega))
  have hr' : ¬ r < 0 := hr
  go_wp2_with (fail)
  refine SG.out.mono ?_
  rintro e w2 ⟨q, rfl, q0, q1, hT, hb2⟩
  have hw2 := hw1.trans (hb2.mono hw1.size)
  by_cases hq : q < 0
  · go_wp2
    go_ret
    exact ⟨-1, rfl, by omega, by omega, fun h => by omega, hw2⟩
  have hq' : ¬ q < 0 := hq
  go_wp2
  go_ret
  exact ⟨q, rfl, q0, q1, fun h => ⟨hS (by omega), hT h⟩, hw2⟩
end Go.Proofs.Ytkimieeabmjfgaa

namespace Go.Proofs.Ytkimieeabmjfgaa
open Go.RowKit
set_option linter.unusedVariables false
set_option maxRecDepth 1000000

/-- A reply that is right by itself. -/
def repB (r : Rep) : Bool := inB r.client 1 9 && (inB r.number 1 1000000000 && decide (r.text.size ≤ 900))
def topIn (T : List Tpc) (i : Nat) (h : i < T.length) : Prop := topB T[i] = true ∧ (0 < i → lessB (T[i - 1]'(by omega)).name T[i].name = true)
def repIn (R : List Rep) (i : Nat) (h : i < R.length) : Prop := repB R[i] = true ∧ (0 < i → (R[i - 1]'(by omega)).client < R[i].client)
def topsOK (T : List Tpc) : Prop := T.length ≤ 4 ∧ ∀ i (h : i < T.length), topIn T i h
def repsOK (R : List Rep) : Prop := R.length ≤ 9 ∧ ∀ i (h : i < R.length), repIn R i h
noncomputable def topsB (T : List Tpc) : Bool := @decide (topsOK T) (Classical.propDecidable _)
theorem topsB_true {T : List Tpc} (h : topsOK T) : topsB T = true := by unfold topsB; exact @decide_eq_true _ (Classical.propDecidable _) h
theorem topsB_false {T : List Tpc} (h : ¬ topsOK T) : topsB T = false := by unfold topsB; exact @decide_eq_false _ (Classical.propDecidable _) h
theorem topsB_iff {T : List Tpc} : topsB T = true ↔ topsOK T := ⟨fun h => by unfold topsB at h; exact @of_decide_eq_true _ (Classical.propDecidable _) h, topsB_true⟩
noncomputable def repsB (R : List Rep) : Bool := @decide (repsOK R) (Classical.propDecidable _)
theorem repsB_true {R : List Rep} (h : repsOK R) : repsB R = true := by unfold repsB; exact @decide_eq_true _ (Classical.propDecidable _) h
theorem repsB_false {R : List Rep} (h : ¬ repsOK R) : repsB R = false := by unfold repsB; exact @decide_eq_false _ (Classical.propDecidable _) h
theorem repsB_iff {R : List Rep} : repsB R = true ↔ repsOK R := ⟨fun h => by unfold repsB at h; exact @of_decide_eq_true _ (Classical.propDecidable _) h, repsB_true⟩
/-- BrokerRight. -/
noncomputable def broB (b : Bro) : Bool := topsB b.topics && repsB b.replies
theorem broB_iff {b : Bro} : broB b = true ↔ topsOK b.topics ∧ repsOK b.replies := by unfold broB; rw [Bool.and_eq_true, topsB_iff, repsB_iff]
theorem broB_true {b : Bro} (h1 : topsOK b.topics) (h2 : repsOK b.replies) : broB b = true := broB_iff.2 ⟨h1, h2⟩
theorem broB_no {b : Bro} (h : ¬ (topsOK b.topics ∧ repsOK b.replies)) : broB b = false := by
  cases hb : broB b
  · rfl
  · exact absurd (broB_iff.1 hb) h
theorem repB_iff {r : Rep} : repB r = true ↔ inB r.client 1 9 = true ∧ inB r.number 1 1000000000 = true ∧ r.text.size ≤ 900 := by
  unfold repB; simp [Bool.and_eq_true]
theorem top_less {T : List Tpc} {q k : Nat} (hq : q + 1 = k) (hlt : k < T.length) (hql : q < T.length) (hl : Op.bytesLess T[q].name.toList T[k].name.toList = true) : 0 < k → lessB (T[k - 1]'(by omega)).name T[k].name = true := by
  intro _
  obtain rfl : q = k - 1 := by omega
  exact hl
theorem not_top_less {T : List Tpc} {q k : Nat} (hq : q + 1 = k) (hlt : k < T.length) (hql : q < T.length) (hl : Op.bytesLess T[q].name.toList T[k].name.toList = false) : ¬ topIn T k hlt := by
  intro h
  have h2 := h.2 (by omega)
  obtain rfl : q = k - 1 := by omega
  unfold lessB at h2
  rw [hl] at h2
  cases h2
theorem rep_less {R : List Rep} {q k : Nat} (hq : q + 1 = k) (hlt : k < R.length) (hql : q < R.length) (hl : R[q].client < R[k].client) : 0 < k → (R[k - 1]'(by omega)).client < R[k].client := by
  intro _
  obtain rfl : q = k - 1 := by omega
  exact hl
theorem not_rep_less {R : List Rep} {q k : Nat} (hq : q + 1 = k) (hlt : k < R.length) (hql : q < R.length) (hl : ¬ R[q].client < R[k].client) : ¬ repIn R k hlt := by
  intro h
  have h2 := h.2 (by omega)
  obtain rfl : q = k - 1 := by omega
  exact hl h2

set_option maxHeartbeats 8000000 in
theorem specBrokerRight_any (b : Bro) (A : Option Addr) (c : Nat) (B : Option Addr) (d : Nat) (w : World) (hf : b.fits) (hA : Tops w w.heap.size A b.topics) (hB : Rps w w.heap.size B b.replies) :
    Calls Try.prog 24 #[broV (.slice A b.topics.length c) (.slice B b.replies.length d)] w fun e w' => e = .returned (.bool (broB b)) ∧ Below w.heap.size w w' := by
  obtain ⟨f0, f1⟩ := hf
  have hn := hA.1
  have hm := hB.1
  unfold maxLen at hn hm
  have F0 : Hid (∀ h : ¬ (topsOK b.topics ∧ repsOK b.replies), broB b = false) := Lib.hid broB_no
  have F1 : Hid (∀ (h1 : topsOK b.topics) (h2 : repsOK b.replies), broB b = true) := Lib.hid broB_true
  obtain ⟨T, R⟩ := b
  simp only at f0 f1 hA hB hn hm F0 F1 ⊢
  generalize broB ⟨T, R⟩ = Z at F0 F1 ⊢
  have hK := Blk.fresh w 48 [.slice A T.length c, .slice B R.length d]
  have hb0 := below_box w (.cells #[.slice A T.length c, .slice B R.length d] 48)
  simp only [List.toArray] at hK
  by_cases h4 : T.length ≤ 4
  rotate_left
  · have HR := Lib.hid (F0.out fun h => h4 h.1.1)
    go_enter Try.func24, Try.ntmps24
    go_wp2
    go_ret
    exact ⟨by rw [HR.out]; rfl, hb0⟩
  by_cases h9 : R.length ≤ 9
  rotate_left
  · have HR := Lib.hid (F0.out fun h => h9 h.2.1)
    go_enter Try.func24, Try.ntmps24
    go_wp2
    go_ret
    exact ⟨by rw [HR.out]; rfl, hb0⟩
  go_enter Try.func24, Try.ntmps24
  go_wp2
  generalize w.alloc (.cells #[.slice A T.length c, .slice B R.length d] 48) = w1 at hK hb0 ⊢
  go_loopw [3] (fun i wr => ∃ k : Nat, k ≤ T.length ∧ i = .int .i64 k ∧ (∀ j (h : j < T.length), j < k → topIn T j h) ∧ Blk wr w.heap.size 48 [.slice A T.length c, .slice B R.length d] ∧ Below w.heap.size w wr) (fun i _ => T.length - (intOf i).toNat)
  case atStart => exact ⟨0, by omega, rfl, fun j _ h => by omega, hK, hb0⟩
  case round =>
    obtain ⟨k, hk, rfl, hok, hK2, hw2⟩ := hrel
    clear hK hb0
    have b0 := hK2.cell (i := 0) rfl
    by_cases hlt : k < T.length
    · obtain ⟨a, rfl, hab, C, c1, D, d1, a0, a1, a2, a3, hC, hD⟩ := (hA.on hw2).at k hlt
      have hlt' : (k : Int) < (T.length : Int) := by omega
      have hp : ∀ q, (h : q + 1 = k) → wr.cell? (a.add (q * 4)) = some (.string (T[q]'(by omega)).name) := by
        intro q h
        obtain ⟨a', e, _, _, _, _, _, h2, _⟩ := (hA.on hw2).at q (by omega)
        cases e
        exact h2
      go_wp2
      obtain ⟨I, f, hI', g0, gk, gc, ge⟩ := class_grown wr
      have y0 := fun s => kept_cell (gk s) b0
      have x0 := fun s => kept_cell (gk s) a0
      have x1 := fun s => kept_cell (gk s) a1
      have x2 := fun s => kept_cell (gk s) a2
      have x3 := fun s => kept_cell (gk s) a3
      have TR := Lib.hid (fun s => specTopicRight_any T[k] C c1 D d1 (f s) (f0 _ (List.getElem_mem hlt)) (hC.on (gk s)) (hD.on (gk s)))
      have HW : Hid (∀ W, Below wr.heap.size wr W → Blk W w.heap.size 48 [.slice (some a) T.length c, .slice B R.length d] ∧ Below w.heap.size w W) := Lib.hid fun W h => ⟨hK2.below h hK2.lt, hw2.trans (h.mono hw2.size)⟩
      have HOK := Lib.hid hok
      have HB := Lib.hid (fun h : ¬ topIn T k hlt => F0.out fun q => h (q.1.2 k hlt))
      clear hok hK2 hw2 a0 a1 a2 a3 b0
      rcases Bool.eq_false_or_eq_true (topB T[k]) with hN | hN
      rotate_left
      · rw [hN] at TR
        have HR := Lib.hid (HB.out fun h => by have := h.1; rw [hN] at this; cases this)
        refine wp_region_kept f (by kernel_rfl) (by kernel_rfl) g0 ?_
        repeat (first
          | go_big_quiet_skip
          | (go_big_quiet_want; go_big_quiet_op; first
              | go_big_quiet_on
              | (apply Exists.intro; refine ⟨fun s => ?_, ?_⟩; (go_at_call 58; (with_reducible refine (TR.out _).mono ?_); rintro e w4 ⟨rfl, hb4⟩; exact ⟨rfl, gc _ _ hb4⟩); go_big_quiet_on)))
        refine wpQuiet_nil ?_
        intro w5 h5
        have hb5 := ge _ h5
        go_wp2
        go_ret
        exact ⟨by rw [HR.out]; rfl, (HW.out _ hb5).2⟩
      rw [hN] at TR
      by_cases hk0 : 0 < k
      · obtain ⟨q, hq⟩ : ∃ q, q + 1 = k := ⟨k - 1, by omega⟩
        have p0 := fun s => kept_cell (gk s) (hp q hq)
        have hd : decide ((0 : Int) < (k : Int)) = true := by simp; omega
        have e1 : IntKind.i64.wrap ((k : Int) - 1) = (q : Int) := by rw [IntWalk.i64_in _ (by omega)]; omega
        have e2 : (q : Int) < (T.length : Int) := by omega
        have hql : q < T.length := by omega
        clear hp
        rcases Bool.eq_false_or_eq_true (Op.bytesLess T[q].name.toList T[k].name.toList) with hl | hl
        rotate_left
        · have HR := Lib.hid (HB.out (not_top_less hq hlt hql hl))
          refine wp_region_kept f (by kernel_rfl) (by kernel_rfl) g0 ?_
          repeat (first
            | go_big_quiet_skip
            | (go_big_quiet_want; go_big_quiet_op; first
                | go_big_quiet_on
                | (apply Exists.intro; refine ⟨fun s => ?_, ?_⟩; (go_at_call 58; (with_reducible refine (TR.out _).mono ?_); rintro e w4 ⟨rfl, hb4⟩; exact ⟨rfl, gc _ _ hb4⟩); go_big_quiet_on)))
          refine wpQuiet_nil ?_
          intro w5 h5
          have hb5 := ge _ h5
          go_wp2
          go_ret
          exact ⟨by rw [HR.out]; rfl, (HW.out _ hb5).2⟩
        have HL := Lib.hid (top_less hq hlt hql hl)
        refine wp_region_kept f (by kernel_rfl) (by kernel_rfl) g0 ?_
        repeat (first
          | go_big_quiet_skip
          | (go_big_quiet_want; go_big_quiet_op; first
              | go_big_quiet_on
              | (apply Exists.intro; refine ⟨fun s => ?_, ?_⟩; (go_at_call 58; (with_reducible refine (TR.out _).mono ?_); rintro e w4 ⟨rfl, hb4⟩; exact ⟨rfl, gc _ _ hb4⟩); go_big_quiet_on)))
        refine wpQuiet_nil ?_
        intro w5 h5
        have hb5 := ge _ h5
        go_wp2
        refine ⟨⟨k + 1, by omega, by go_num, fun j hj hjk => ?_, (HW.out _ hb5).1, (HW.out _ hb5).2⟩, by simp [intOf]; omega⟩
        by_cases e : j = k
        · subst e
          exact ⟨hN, HL.out⟩
        · exact HOK.out j hj (by omega)
      · have hd : decide ((0 : Int) < (k : Int)) = false := by simp; omega
        clear hp
        refine wp_region_kept f (by kernel_rfl) (by kernel_rfl) g0 ?_
        repeat (first
          | go_big_quiet_skip
          | (go_big_quiet_want; go_big_quiet_op; first
              | go_big_quiet_on
              | (apply Exists.intro; refine ⟨fun s => ?_, ?_⟩; (go_at_call 58; (with_reducible refine (TR.out _).mono ?_); rintro e w4 ⟨rfl, hb4⟩; exact ⟨rfl, gc _ _ hb4⟩); go_big_quiet_on)))
        refine wpQuiet_nil ?_
        intro w5 h5
        have hb5 := ge _ h5
        go_wp2
        refine ⟨⟨k + 1, by omega, by go_num, fun j hj hjk => ?_, (HW.out _ hb5).1, (HW.out _ hb5).2⟩, by simp [intOf]; omega⟩
        by_cases e : j = k
        · subst e
          exact ⟨hN, (fun h => absurd h hk0)⟩
        · exact HOK.out j hj (by omega)
    · obtain rfl : k = T.length := by omega
      have HT := Lib.hid (show topsOK T from ⟨h4, fun j h => hok j h h⟩)
      clear hok
      have b1 := hK2.cell (i := 1) rfl
      go_wp2
      go_loopw [4, 5] (fun i _ wr => ∃ k : Nat, k ≤ R.length ∧ i = .int .i64 k ∧ (∀ j (h : j < R.length), j < k → repIn R j h) ∧ Blk wr w.heap.size 48 [.slice A T.length c, .slice B R.length d] ∧ Below w.heap.size w wr) (fun i _ _ => R.length - (intOf i).toNat)
      case atStart => exact ⟨0, by omega, rfl, fun j _ h => by omega, hK2, hw2⟩
      case round =>
        obtain ⟨k, hk, rfl, hok, hK3, hw3⟩ := hrel
        clear b1 hK2 hw2
        have b1 := hK3.cell (i := 1) rfl
        by_cases hlt : k < R.length
        rotate_left
        · obtain rfl : k = R.length := by omega
          have HR := Lib.hid (F1.out HT.out ⟨h9, fun i h => hok i h h⟩)
          go_wp2
          go_ret
          exact ⟨by rw [HR.out]; rfl, hw3⟩
        obtain ⟨a, rfl, hab, a0, a1, a2⟩ := (hB.below hw3 (Nat.le_refl _)).at k hlt
        have hlt' : (k : Int) < (R.length : Int) := by omega
        have hG := Blk.fresh wr 53 [.int .i64 R[k].client, .int .i64 R[k].number, .string R[k].text]
        have hK4 := hK3.alloc (.cells #[.int .i64 R[k].client, .int .i64 R[k].number, .string R[k].text] 53)
        have hw4 := hw3.alloc hw3.size (.cells #[.int .i64 R[k].client, .int .i64 R[k].number, .string R[k].text] 53)
        have hp : ∀ q, (h : q + 1 = k) → (wr.alloc (.cells #[.int .i64 R[k].client, .int .i64 R[k].number, .string R[k].text] 53)).cell? (a.add (q * 3)) = some (.int .i64 (R[q]'(by omega)).client) := by
          intro q h
          obtain ⟨a', e, _, h2, _⟩ := (hB.below hw4 (Nat.le_refl _)).at q (by omega)
          cases e
          exact h2
        simp only [List.toArray] at hG
        go_wp2
        generalize wr.alloc (.cells #[.int .i64 R[k].client, .int .i64 R[k].number, .string R[k].text] 53) = w3 at hG hK4 hw4 hp ⊢
        clear a0 a1 a2 b1 hK3
        have n1 : R[k].text.size ≤ maxLen := (f1 _ (List.getElem_mem hlt)).2.2
        unfold maxLen at n1
        obtain ⟨I, f, hI', g0, gk, gc, ge⟩ := class_grown w3
        have x0 := fun s => kept_cell (gk s) (hG.cell (i := 0) rfl)
        have x1 := fun s => kept_cell (gk s) (hG.cell (i := 1) rfl)
        have x2 := fun s => kept_cell (gk s) (hG.cell (i := 2) rfl)
        have y1 := fun s => kept_cell (gk s) (hK4.cell (i := 1) rfl)
        have HW : Hid (∀ W, Below w3.heap.size w3 W → Blk W w.heap.size 48 [.slice A T.length c, .slice (some a) R.length d] ∧ Below w.heap.size w W) := Lib.hid fun W h => ⟨hK4.below h hK4.lt, hw4.trans (h.mono hw4.size)⟩
        have HOK := Lib.hid hok
        have HB := Lib.hid (fun h : ¬ repIn R k hlt => F0.out fun q => h (q.2.2 k hlt))
        have HN := Lib.hid (repB_iff (r := R[k]))
        clear hok hK4 hG hw4
        rcases Bool.eq_false_or_eq_true (inB R[k].client 1 9) with hC1 | hC1
        rotate_left
        · have IC := Lib.hid (fun W => bl (is3 hC1 W))
          have HR := Lib.hid (HB.out fun h => by have := (HN.out.1 h.1).1; rw [hC1] at this; cases this)
          refine wp_region_kept f (by kernel_rfl) (by kernel_rfl) g0 ?_
          repeat (first
            | go_big_quiet_skip
            | (go_big_quiet_want; go_big_quiet_op; first
                | go_big_quiet_on
                | (apply Exists.intro; refine ⟨fun s => ?_, ?_⟩; (go_at_call 40; (with_reducible refine (IC.out _).mono ?_); rintro e w4 ⟨rfl, hb4⟩; exact ⟨rfl, gc _ _ hb4⟩); go_big_quiet_on)))
          refine wpQuiet_nil ?_
          intro w5 h5
          have hb5 := ge _ h5
          go_wp2
          go_ret
          exact ⟨by rw [HR.out]; rfl, (HW.out _ hb5).2⟩
        have IC := Lib.hid (fun W => bl (is3 hC1 W))
        rcases Bool.eq_false_or_eq_true (inB R[k].number 1 1000000000) with hC2 | hC2
        rotate_left
        · have IN := Lib.hid (fun W => bl (is3 hC2 W))
          have HR := Lib.hid (HB.out fun h => by have := (HN.out.1 h.1).2.1; rw [hC2] at this; cases this)
          refine wp_region_kept f (by kernel_rfl) (by kernel_rfl) g0 ?_
          repeat (first
            | go_big_quiet_skip
            | (go_big_quiet_want; go_big_quiet_op; first
                | go_big_quiet_on
                | (apply Exists.intro; refine ⟨fun s => ?_, ?_⟩; (go_at_call 40; (first | (with_reducible refine (IC.out _).mono ?_) | (with_reducible refine (IN.out _).mono ?_)); rintro e w4 ⟨rfl, hb4⟩; exact ⟨rfl, gc _ _ hb4⟩); go_big_quiet_on)))
          refine wpQuiet_nil ?_
          intro w5 h5
          have hb5 := ge _ h5
          go_wp2
          go_ret
          exact ⟨by rw [HR.out]; rfl, (HW.out _ hb5).2⟩
        have IN := Lib.hid (fun W => bl (is3 hC2 W))
        by_cases hC3 : R[k].text.size ≤ 900
        rotate_left
        · have HR := Lib.hid (HB.out fun h => hC3 (HN.out.1 h.1).2.2)
          have h9 : decide ((900 : Int) < (R[k].text.size : Int)) = true := by simp; omega
          refine wp_region_kept f (by kernel_rfl) (by kernel_rfl) g0 ?_
          repeat (first
            | go_big_quiet_skip
            | (go_big_quiet_want; go_big_quiet_op; first
                | go_big_quiet_on
                | (apply Exists.intro; refine ⟨fun s => ?_, ?_⟩; (go_at_call 40; (first | (with_reducible refine (IC.out _).mono ?_) | (with_reducible refine (IN.out _).mono ?_)); rintro e w4 ⟨rfl, hb4⟩; exact ⟨rfl, gc _ _ hb4⟩); go_big_quiet_on)))
          refine wpQuiet_nil ?_
          intro w5 h5
          have hb5 := ge _ h5
          go_wp2
          go_ret
          exact ⟨by rw [HR.out]; rfl, (HW.out _ hb5).2⟩
        have h900 : decide ((900 : Int) < (R[k].text.size : Int)) = false := by simp; omega
        by_cases hk0 : 0 < k
        · obtain ⟨q, hq⟩ : ∃ q, q + 1 = k := ⟨k - 1, by omega⟩
          have p0 := fun s => kept_cell (gk s) (hp q hq)
          have hd : decide ((0 : Int) < (k : Int)) = true := by simp; omega
          have e1 : IntKind.i64.wrap ((k : Int) - 1) = (q : Int) := by rw [IntWalk.i64_in _ (by omega)]; omega
          have e2 : (q : Int) < (R.length : Int) := by omega
          have hql : q < R.length := by omega
          clear hp
          by_cases hl : R[q].client < R[k].client
          rotate_left
          · have HR := Lib.hid (HB.out (not_rep_less hq hlt hql hl))
            have hd2 : decide (R[k].client ≤ R[q].client) = true := by simp; omega
            refine wp_region_kept f (by kernel_rfl) (by kernel_rfl) g0 ?_
            repeat (first
              | go_big_quiet_skip
              | (go_big_quiet_want; go_big_quiet_op; first
                  | go_big_quiet_on
                  | (apply Exists.intro; refine ⟨fun s => ?_, ?_⟩; (go_at_call 40; (first | (with_reducible refine (IC.out _).mono ?_) | (with_reducible refine (IN.out _).mono ?_)); rintro e w4 ⟨rfl, hb4⟩; exact ⟨rfl, gc _ _ hb4⟩); go_big_quiet_on)))
            refine wpQuiet_nil ?_
            intro w5 h5
            have hb5 := ge _ h5
            go_wp2
            go_ret
            exact ⟨by rw [HR.out]; rfl, (HW.out _ hb5).2⟩
          have HL := Lib.hid (rep_less hq hlt hql hl)
          have hd2 : decide (R[k].client ≤ R[q].client) = false := by simp; omega
          refine wp_region_kept f (by kernel_rfl) (by kernel_rfl) g0 ?_
          repeat (first
            | go_big_quiet_skip
            | (go_big_quiet_want; go_big_quiet_op; first
                | go_big_quiet_on
                | (apply Exists.intro; refine ⟨fun s => ?_, ?_⟩; (go_at_call 40; (first | (with_reducible refine (IC.out _).mono ?_) | (with_reducible refine (IN.out _).mono ?_)); rintro e w4 ⟨rfl, hb4⟩; exact ⟨rfl, gc _ _ hb4⟩); go_big_quiet_on)))
          refine wpQuiet_nil ?_
          intro w5 h5
          have hb5 := ge _ h5
          go_wp2
          refine ⟨⟨k + 1, by omega, by go_num, fun j hj hjk => ?_, (HW.out _ hb5).1, (HW.out _ hb5).2⟩, by simp [intOf]; omega⟩
          by_cases e : j = k
          · subst e
            exact ⟨HN.out.2 ⟨hC1, hC2, hC3⟩, HL.out⟩
          · exact HOK.out j hj (by omega)
        · have hd : decide ((0 : Int) < (k : Int)) = false := by simp; omega
          clear hp
          refine wp_region_kept f (by kernel_rfl) (by kernel_rfl) g0 ?_
          repeat (first
            | go_big_quiet_skip
            | (go_big_quiet_want; go_big_quiet_op; first
                | go_big_quiet_on
                | (apply Exists.intro; refine ⟨fun s => ?_, ?_⟩; (go_at_call 40; (first | (with_reducible refine (IC.out _).mono ?_) | (with_reducible refine (IN.out _).mono ?_)); rintro e w4 ⟨rfl, hb4⟩; exact ⟨rfl, gc _ _ hb4⟩); go_big_quiet_on)))
          refine wpQuiet_nil ?_
          intro w5 h5
          have hb5 := ge _ h5
          go_wp2
          refine ⟨⟨k + 1, by omega, by go_num, fun j hj hjk => ?_, (HW.out _ hb5).1, (HW.out _ hb5).2⟩, by simp [intOf]; omega⟩
          by_cases e : j = k
          · subst e
            exact ⟨HN.out.2 ⟨hC1, hC2, hC3⟩, (fun h => absurd h hk0)⟩
          · exact HOK.out j hj (by omega)

set_option maxHeartbeats 8000000 in
theorem topicsRight_any (T : List Tpc) (A : Option Addr) (c : Nat) (w : World) (f0 : ∀ t ∈ T, t.fits) (hA : Tops w w.heap.size A T) :
    Calls Try.prog 61 #[.slice A T.length c] w fun e w' => e = .returned (.bool (topsB T)) ∧ Below w.heap.size w w' := by
  have hn := hA.1
  unfold maxLen at hn
  have F0 : Hid (∀ h : ¬ topsOK T, topsB T = false) := Lib.hid topsB_false
  have F1 : Hid (∀ h : topsOK T, topsB T = true) := Lib.hid topsB_true
  generalize topsB T = Z at F0 F1 ⊢
  by_cases h4 : T.length ≤ 4
  rotate_left
  · have HR := Lib.hid (F0.out fun h => h4 h.1)
    go_enter Try.func61, Try.ntmps61
    go_wp2
    go_ret
    exact ⟨by rw [HR.out]; rfl, Below.refl _ _⟩
  go_enter Try.func61, Try.ntmps61
  go_wp2
  go_loopw [3, 4, 10] (fun _ _ i wr => ∃ k : Nat, k ≤ T.length ∧ i = .int .i64 k ∧ (∀ j (h : j < T.length), j < k → topIn T j h) ∧ Below w.heap.size w wr) (fun _ _ i _ => T.length - (intOf i).toNat)
  case atStart => exact ⟨0, by omega, rfl, fun j _ h => by omega, Below.refl _ _⟩
  case round =>
    obtain ⟨k, hk, rfl, hok, hw3⟩ := hrel
    by_cases hlt : k < T.length
    rotate_left
    · obtain rfl : k = T.length := by omega
      have HR := Lib.hid (F1.out ⟨h4, fun i h => hok i h h⟩)
      go_wp2
      go_ret
      exact ⟨by rw [HR.out]; rfl, hw3⟩
    obtain ⟨a, rfl, hab, C, c1, D, d1, a0, a1, a2, a3, hC, hD⟩ := (hA.on hw3).at k hlt
    have hlt' : (k : Int) < (T.length : Int) := by omega
    have hG := Blk.fresh wr 29 [.string T[k].name, .int .i64 T[k].base, .slice C T[k].held.length c1, .slice D T[k].groups.length d1]
    have hbx := below_box wr (.cells #[.string T[k].name, .int .i64 T[k].base, .slice C T[k].held.length c1, .slice D T[k].groups.length d1] 29)
    have hw4 := hw3.alloc hw3.size (.cells #[.string T[k].name, .int .i64 T[k].base, .slice C T[k].held.length c1, .slice D T[k].groups.length d1] 29)
    have hp : ∀ q, (h : q + 1 = k) → (wr.alloc (.cells #[.string T[k].name, .int .i64 T[k].base, .slice C T[k].held.length c1, .slice D T[k].groups.length d1] 29)).cell? (a.add (q * 4)) = some (.string (T[q]'(by omega)).name) := by
      intro q h
      obtain ⟨a', e, _, _, _, _, _, h2, _⟩ := (hA.on hw4).at q (by omega)
      cases e
      exact h2
    have hC2 := hC.on hbx
    have hD2 := hD.on hbx
    simp only [List.toArray] at hG
    go_wp2
    generalize wr.alloc (.cells #[.string T[k].name, .int .i64 T[k].base, .slice C T[k].held.length c1, .slice D T[k].groups.length d1] 29) = w3 at hG hw4 hp hC2 hD2 ⊢
    clear a0 a1 a2 a3 hbx
    obtain ⟨I, f, hI', g0, gk, gc, ge⟩ := class_grown w3
    have x0 := fun s => kept_cell (gk s) (hG.cell (i := 0) rfl)
    have x1 := fun s => kept_cell (gk s) (hG.cell (i := 1) rfl)
    have x2 := fun s => kept_cell (gk s) (hG.cell (i := 2) rfl)
    have x3 := fun s => kept_cell (gk s) (hG.cell (i := 3) rfl)
    have TR := Lib.hid (fun s => implTopicRight_any T[k] C c1 D d1 (f s) (f0 _ (List.getElem_mem hlt)) (hC2.on (gk s)) (hD2.on (gk s)))
    have HW : Hid (∀ W, Below w3.heap.size w3 W → Below w.heap.size w W) := Lib.hid fun W h => hw4.trans (h.mono hw4.size)
    have HOK := Lib.hid hok
    have HB := Lib.hid (fun h : ¬ topIn T k hlt => F0.out fun q => h (q.2 k hlt))
    clear hok hG hw4
    rcases Bool.eq_false_or_eq_true (topB T[k]) with hN | hN
    rotate_left
    · rw [hN] at TR
      have HR := Lib.hid (HB.out fun h => by have := h.1; rw [hN] at this; cases this)
      refine wp_region_kept f (by kernel_rfl) (by kernel_rfl) g0 ?_
      repeat (first
        | go_big_quiet_skip
        | (go_big_quiet_want; go_big_quiet_op; first
            | go_big_quiet_on
            | (apply Exists.intro; refine ⟨fun s => ?_, ?_⟩; (go_at_call 102; (with_reducible refine (TR.out _).mono ?_); rintro e w4 ⟨rfl, hb4⟩; exact ⟨rfl, gc _ _ hb4⟩); go_big_quiet_on)))
      refine wpQuiet_nil ?_
      intro w5 h5
      have hb5 := ge _ h5
      go_wp2
      go_ret
      exact ⟨by rw [HR.out]; rfl, HW.out _ hb5⟩
    rw [hN] at TR
    by_cases hk0 : 0 < k
    · obtain ⟨q, hq⟩ : ∃ q, q + 1 = k := ⟨k - 1, by omega⟩
      have p0 := fun s => kept_cell (gk s) (hp q hq)
      have hd : decide ((0 : Int) < (k : Int)) = true := by simp; omega
      have e1 : IntKind.i64.wrap ((k : Int) - 1) = (q : Int) := by rw [IntWalk.i64_in _ (by omega)]; omega
      have e2 : (q : Int) < (T.length : Int) := by omega
      have hql : q < T.length := by omega
      clear hp
      rcases Bool.eq_false_or_eq_true (Op.bytesLess T[q].name.toList T[k].name.toList) with hl | hl
      rotate_left
      · have HR := Lib.hid (HB.out (not_top_less hq hlt hql hl))
        refine wp_region_kept f (by kernel_rfl) (by kernel_rfl) g0 ?_
        repeat (first
          | go_big_quiet_skip
          | (go_big_quiet_want; go_big_quiet_op; first
              | go_big_quiet_on
              | (apply Exists.intro; refine ⟨fun s => ?_, ?_⟩; (go_at_call 102; (with_reducible refine (TR.out _).mono ?_); rintro e w4 ⟨rfl, hb4⟩; exact ⟨rfl, gc _ _ hb4⟩); go_big_quiet_on)))
        refine wpQuiet_nil ?_
        intro w5 h5
        have hb5 := ge _ h5
        go_wp2
        go_ret
        exact ⟨by rw [HR.out]; rfl, HW.out _ hb5⟩
      have HL := Lib.hid (top_less hq hlt hql hl)
      refine wp_region_kept f (by kernel_rfl) (by kernel_rfl) g0 ?_
      repeat (first
        | go_big_quiet_skip
        | (go_big_quiet_want; go_big_quiet_op; first
            | go_big_quiet_on
            | (apply Exists.intro; refine ⟨fun s => ?_, ?_⟩; (go_at_call 102; (with_reducible refine (TR.out _).mono ?_); rintro e w4 ⟨rfl, hb4⟩; exact ⟨rfl, gc _ _ hb4⟩); go_big_quiet_on)))
      refine wpQuiet_nil ?_
      intro w5 h5
      have hb5 := ge _ h5
      go_wp2
      refine ⟨⟨k + 1, by omega, by go_num, fun j hj hjk => ?_, HW.out _ hb5⟩, by simp [intOf]; omega⟩
      by_cases e : j = k
      · subst e
        exact ⟨hN, HL.out⟩
      · exact HOK.out j hj (by omega)
    · have hd : decide ((0 : Int) < (k : Int)) = false := by simp; omega
      clear hp
      refine wp_region_kept f (by kernel_rfl) (by kernel_rfl) g0 ?_
      repeat (first
        | go_big_quiet_skip
        | (go_big_quiet_want; go_big_quiet_op; first
            | go_big_quiet_on
            | (apply Exists.intro; refine ⟨fun s => ?_, ?_⟩; (go_at_call 102; (with_reducible refine (TR.out _).mono ?_); rintro e w4 ⟨rfl, hb4⟩; exact ⟨rfl, gc _ _ hb4⟩); go_big_quiet_on)))
      refine wpQuiet_nil ?_
      intro w5 h5
      have hb5 := ge _ h5
      go_wp2
      refine ⟨⟨k + 1, by omega, by go_num, fun j hj hjk => ?_, HW.out _ hb5⟩, by simp [intOf]; omega⟩
      by_cases e : j = k
      · subst e
        exact ⟨hN, (fun h => absurd h hk0)⟩
      · exact HOK.out j hj (by omega)

theorem replyRight_any (r : Rep) (w : World) (hf : r.fits) :
    Calls Try.prog 103 #[r.val] w fun e w' => e = .returned (.bool (repB r)) ∧ Below w.heap.size w w' := by
  obtain ⟨a, n, s⟩ := r
  obtain ⟨_, _, q0⟩ := hf
  simp only at q0
  unfold maxLen at q0
  unfold Rep.val repB
  simp only
  rcases Bool.eq_false_or_eq_true (inB a 1 9) with h1 | h1
  rotate_left
  · have I1 := Lib.hid (inRange_any h1)
    rw [h1]
    go_enter Try.func103, Try.ntmps103
    go_wp2_with (go_at_call 46; (with_reducible refine (I1.out _).mono ?_); rintro e w' ⟨rfl, rfl⟩)
    go_ret
    exact ⟨rfl, below_box _ _⟩
  have I1 := Lib.hid (inRange_any h1)
  rcases Bool.eq_false_or_eq_true (inB n 1 1000000000) with h2 | h2
  rotate_left
  · have I2 := Lib.hid (inRange_any h2)
    rw [h1, h2]
    go_enter Try.func103, Try.ntmps103
    go_wp2_with (first | (go_at_call 46; (with_reducible refine (I1.out _).mono ?_); rintro e w' ⟨rfl, rfl⟩) | (go_at_call 46; (with_reducible refine (I2.out _).mono ?_); rintro e w' ⟨rfl, rfl⟩))
    go_ret
    exact ⟨rfl, below_box _ _⟩
  have I2 := Lib.hid (inRange_any h2)
  rw [h1, h2]
  have e9 : decide ((s.size : Int) ≤ 900) = decide (s.size ≤ 900) := by simp; omega
  go_enter Try.func103, Try.ntmps103
  go_wp2_with (first | (go_at_call 46; (with_reducible refine (I1.out _).mono ?_); rintro e w' ⟨rfl, rfl⟩) | (go_at_call 46; (with_reducible refine (I2.out _).mono ?_); rintro e w' ⟨rfl, rfl⟩))
  go_ret
  refine ⟨?_, below_box _ _⟩
  first | rfl | (simp)

set_option maxHeartbeats 8000000 in
theorem repliesRight_any (R : List Rep) (A : Option Addr) (c : Nat) (w : World) (f1 : ∀ t ∈ R, t.fits) (hA : Rps w w.heap.size A R) :
    Calls Try.prog 62 #[.slice A R.length c] w fun e w' => e = .returned (.bool (repsB R)) ∧ Below w.heap.size w w' := by
  have hn := hA.1
  unfold maxLen at hn
  have F0 : Hid (∀ h : ¬ repsOK R, repsB R = false) := Lib.hid repsB_false
  have F1 : Hid (∀ h : repsOK R, repsB R = true) := Lib.hid repsB_true
  generalize repsB R = Z at F0 F1 ⊢
  by_cases h4 : R.length ≤ 9
  rotate_left
  · have HR := Lib.hid (F0.out fun h => h4 h.1)
    go_enter Try.func62, Try.ntmps62
    go_wp2
    go_ret
    exact ⟨by rw [HR.out]; rfl, Below.refl _ _⟩
  go_enter Try.func62, Try.ntmps62
  go_wp2
  go_loopw [3, 4, 10] (fun _ _ i wr => ∃ k : Nat, k ≤ R.length ∧ i = .int .i64 k ∧ (∀ j (h : j < R.length), j < k → repIn R j h) ∧ Below w.heap.size w wr) (fun _ _ i _ => R.length - (intOf i).toNat)
  case atStart => exact ⟨0, by omega, rfl, fun j _ h => by omega, Below.refl _ _⟩
  case round =>
    obtain ⟨k, hk, rfl, hok, hw3⟩ := hrel
    by_cases hlt : k < R.length
    rotate_left
    · obtain rfl : k = R.length := by omega
      have HR := Lib.hid (F1.out ⟨h4, fun i h => hok i h h⟩)
      go_wp2
      go_ret
      exact ⟨by rw [HR.out]; rfl, hw3⟩
    obtain ⟨a, rfl, hab, a0, a1, a2⟩ := (hA.below hw3 (Nat.le_refl _)).at k hlt
    have hlt' : (k : Int) < (R.length : Int) := by omega
    have hG := Blk.fresh wr 53 [.int .i64 R[k].client, .int .i64 R[k].number, .string R[k].text]
    have hw4 := hw3.alloc hw3.size (.cells #[.int .i64 R[k].client, .int .i64 R[k].number, .string R[k].text] 53)
    have hp : ∀ q, (h : q + 1 = k) → (wr.alloc (.cells #[.int .i64 R[k].client, .int .i64 R[k].number, .string R[k].text] 53)).cell? (a.add (q * 3)) = some (.int .i64 (R[q]'(by omega)).client) := by
      intro q h
      obtain ⟨a', e, _, h2, _⟩ := (hA.below hw4 (Nat.le_refl _)).at q (by omega)
      cases e
      exact h2
    simp only [List.toArray] at hG
    go_wp2
    generalize wr.alloc (.cells #[.int .i64 R[k].client, .int .i64 R[k].number, .string R[k].text] 53) = w3 at hG hw4 hp ⊢
    clear a0 a1 a2
    obtain ⟨I, f, hI', g0, gk, gc, ge⟩ := class_grown w3
    have x0 := fun s => kept_cell (gk s) (hG.cell (i := 0) rfl)
    have x1 := fun s => kept_cell (gk s) (hG.cell (i := 1) rfl)
    have x2 := fun s => kept_cell (gk s) (hG.cell (i := 2) rfl)
    have RR0 := fun s => replyRight_any R[k] (f s) (f1 _ (List.getElem_mem hlt))
    unfold Rep.val at RR0
    have RR := Lib.hid RR0
    clear RR0
    have HW : Hid (∀ W, Below w3.heap.size w3 W → Below w.heap.size w W) := Lib.hid fun W h => hw4.trans (h.mono hw4.size)
    have HOK := Lib.hid hok
    have HB := Lib.hid (fun h : ¬ repIn R k hlt => F0.out fun q => h (q.2 k hlt))
    clear hok hG hw4
    rcases Bool.eq_false_or_eq_true (repB R[k]) with hN | hN
    rotate_left
    · rw [hN] at RR
      have HR := Lib.hid (HB.out fun h => by have := h.1; rw [hN] at this; cases this)
      refine wp_region_kept f (by kernel_rfl) (by kernel_rfl) g0 ?_
      repeat (first
        | go_big_quiet_skip
        | (go_big_quiet_want; go_big_quiet_op; first
            | go_big_quiet_on
            | (apply Exists.intro; refine ⟨fun s => ?_, ?_⟩; (go_at_call 103; (with_reducible refine (RR.out _).mono ?_); rintro e w4 ⟨rfl, hb4⟩; exact ⟨rfl, gc _ _ hb4⟩); go_big_quiet_on)))
      refine wpQuiet_nil ?_
      intro w5 h5
      have hb5 := ge _ h5
      go_wp2
      go_ret
      exact ⟨by rw [HR.out]; rfl, HW.out _ hb5⟩
    rw [hN] at RR
    by_cases hk0 : 0 < k
    · obtain ⟨q, hq⟩ : ∃ q, q + 1 = k := ⟨k - 1, by omega⟩
      have p0 := fun s => kept_cell (gk s) (hp q hq)
      have hd : decide ((0 : Int) < (k : Int)) = true := by simp; omega
      have e1 : IntKind.i64.wrap ((k : Int) - 1) = (q : Int) := by rw [IntWalk.i64_in _ (by omega)]; omega
      have e2 : (q : Int) < (R.length : Int) := by omega
      have hql : q < R.length := by omega
      clear hp
      by_cases hl : R[q].client < R[k].client
      rotate_left
      · have HR := Lib.hid (HB.out (not_rep_less hq hlt hql hl))
        have hd2 : decide (R[k].client ≤ R[q].client) = true := by simp; omega
        refine wp_region_kept f (by kernel_rfl) (by kernel_rfl) g0 ?_
        repeat (first
          | go_big_quiet_skip
          | (go_big_quiet_want; go_big_quiet_op; first
              | go_big_quiet_on
              | (apply Exists.intro; refine ⟨fun s => ?_, ?_⟩; (go_at_call 103; (with_reducible refine (RR.out _).mono ?_); rintro e w4 ⟨rfl, hb4⟩; exact ⟨rfl, gc _ _ hb4⟩); go_big_quiet_on)))
        refine wpQuiet_nil ?_
        intro w5 h5
        have hb5 := ge _ h5
        go_wp2
        go_ret
        exact ⟨by rw [HR.out]; rfl, HW.out _ hb5⟩
      have HL := Lib.hid (rep_less hq hlt hql hl)
      have hd2 : decide (R[k].client ≤ R[q].client) = false := by simp; omega
      refine wp_region_kept f (by kernel_rfl) (by kernel_rfl) g0 ?_
      repeat (first
        | go_big_quiet_skip
        | (go_big_quiet_want; go_big_quiet_op; first
            | go_big_quiet_on
            | (apply Exists.intro; refine ⟨fun s => ?_, ?_⟩; (go_at_call 103; (with_reducible refine (RR.out _).mono ?_); rintro e w4 ⟨rfl, hb4⟩; exact ⟨rfl, gc _ _ hb4⟩); go_big_quiet_on)))
      refine wpQuiet_nil ?_
      intro w5 h5
      have hb5 := ge _ h5
      go_wp2
      refine ⟨⟨k + 1, by omega, by go_num, fun j hj hjk => ?_, HW.out _ hb5⟩, by simp [intOf]; omega⟩
      by_cases e : j = k
      · subst e
        exact ⟨hN, HL.out⟩
      · exact HOK.out j hj (by omega)
    · have hd : decide ((0 : Int) < (k : Int)) = false := by simp; omega
      clear hp
      refine wp_region_kept f (by kernel_rfl) (by kernel_rfl) g0 ?_
      repeat (first
        | go_big_quiet_skip
        | (go_big_quiet_want; go_big_quiet_op; first
            | go_big_quiet_on
            | (apply Exists.intro; refine ⟨fun s => ?_, ?_⟩; (go_at_call 103; (with_reducible refine (RR.out _).mono ?_); rintro e w4 ⟨rfl, hb4⟩; exact ⟨rfl, gc _ _ hb4⟩); go_big_quiet_on)))
      refine wpQuiet_nil ?_
      intro w5 h5
      have hb5 := ge _ h5
      go_wp2
      refine ⟨⟨k + 1, by omega, by go_num, fun j hj hjk => ?_, HW.out _ hb5⟩, by simp [intOf]; omega⟩
      by_cases e : j = k
      · subst e
        exact ⟨hN, (fun h => absurd h hk0)⟩
      · exact HOK.out j hj (by omega)

set_option maxHeartbeats 2000000 in
theorem implBrokerRight_any (b : Bro) (A : Option Addr) (c : Nat) (B : Option Addr) (d : Nat) (w : World) (hf : b.fits) (hA : Tops w w.heap.size A b.topics) (hB : Rps w w.heap.size B b.replies) :
    Calls Try.prog 26 #[broV (.slice A b.topics.length c) (.slice B b.replies.length d)] w fun e w' => e = .returned (.bool (broB b)) ∧ Below w.heap.size w w' := by
  obtain ⟨f0, f1⟩ := hf
  have HR : Hid (broB b = (topsB b.topics && repsB b.replies)) := Lib.hid rfl
  obtain ⟨T, R⟩ := b
  simp only at f0 f1 hA hB HR ⊢
  generalize broB ⟨T, R⟩ = Z at HR ⊢
  have hK := Blk.fresh w 48 [.slice A T.length c, .slice B R.length d]
  have hb0 := below_box w (.cells #[.slice A T.length c, .slice B R.length d] 48)
  simp only [List.toArray] at hK
  have TR := Lib.hid (fun W (h : Below w.heap.size w W) => topicsRight_any T A c W f0 (hA.on h))
  have RR := Lib.hid (fun W (h : Below w.heap.size w W) => repliesRight_any R B d W f1 (hB.on h))
  go_enter Try.func26, Try.ntmps26
  rcases Bool.eq_false_or_eq_true (topsB T) with hT | hT
  · have HR2 : Hid (Z = repsB R) := Lib.hid (by rw [HR.out, hT]; rfl)
    rw [hT] at TR
    go_wp2_with (fail)
    generalize w.alloc (.cells #[.slice A T.length c, .slice B R.length d] 48) = w1 at hK hb0 ⊢
    refine (TR.out _ hb0).mono ?_
    rintro e w2 ⟨rfl, hb2⟩
    have k1 := (hK.below hb2 hK.lt).cell (i := 1) rfl
    have hw2 := hb0.trans (hb2.mono hb0.size)
    go_wp2_with (fail)
    refine (RR.out _ hw2).mono ?_
    rintro e w3 ⟨rfl, hb3⟩
    go_wp2
    go_ret
    exact ⟨by rw [HR2.out]; rfl, hw2.trans (hb3.mono hw2.size)⟩
  · have HR2 : Hid (Z = false) := Lib.hid (by rw [HR.out, hT]; rfl)
    rw [hT] at TR
    go_wp2_with (fail)
    generalize w.alloc (.cells #[.slice A T.length c, .slice B R.length d] 48) = w1 at hK hb0 ⊢
    refine (TR.out _ hb0).mono ?_
    rintro e w2 ⟨rfl, hb2⟩
    have hw2 := hb0.trans (hb2.mono hb0.size)
    go_wp2
    go_ret
    exact ⟨by rw [HR2.out]; rfl, hw2⟩
theorem bothBrokerRight (b : Bro) (hf : b.fits) (hs : b.small) : ∃ r : Bool,
    (∀ A c B d W, Tops W W.heap.size A b.topics → Rps W W.heap.size B b.replies → Calls Try.prog 24 #[broV (.slice A b.topics.length c) (.slice B b.replies.length d)] W fun e w' => e = .returned (.bool r) ∧ Below W.heap.size W w') ∧
    (∀ A c B d W, Tops W W.heap.size A b.topics → Rps W W.heap.size B b.replies → Calls Try.prog 26 #[broV (.slice A b.topics.length c) (.slice B b.replies.length d)] W fun e w' => e = .returned (.bool r) ∧ Below W.heap.size W w') :=
  ⟨broB b, fun A c B d W h1 h2 => specBrokerRight_any b A c B d W hf h1 h2, fun A c B d W h1 h2 => implBrokerRight_any b A c B d W hf h1 h2⟩
end Go.Proofs.Ytkimieeabmjfgaa

namespace Go.Proofs.Ytkimieeabmjfgaa
open Go.RowKit
set_option linter.unusedVariables false
set_option maxRecDepth 1000000

theorem toGroup_any (f : Grp) (w : World) : Calls Try.prog 84 #[f.val] w fun e w' => e = .returned f.val ∧ Below w.heap.size w w' := by
  obtain ⟨s0, k⟩ := f
  unfold Grp.val
  simp only
  go_enter Try.func84, Try.ntmps84
  go_wp2
  refine bodyPost_ret (v := .agg #[.string s0, .int .i64 k]) (by simp [results, Try.results84, go_sem]) rfl ⟨rfl, ?_⟩
  exact (((Below.refl _ _).alloc (Nat.le_refl _) _).alloc (by simp) _).alloc (by simp; omega) _

set_option maxHeartbeats 1000000 in
theorem toGroupS_any (A : Option Addr) (L : List Grp) (c : Nat) (w : World) (hL : Grs w w.heap.size A L) (hn : L.length ≤ 1048576) :
    Calls Try.prog 44 #[.slice A L.length c] w fun e w' => ∃ g c', e = .returned (.slice (some ⟨g, 0, none⟩) L.length c') ∧ OwnG w' w.heap.size (.slice (some ⟨g, 0, none⟩) L.length c') L ∧ Below w.heap.size w w' := by
  obtain ⟨i0, hi, hz0, hz1, hz2⟩ := info_parts infoGrp
  have hn1 : (L.length : Int) ≤ 1048576 := by omega
  go_enter Try.func44, Try.ntmps44
  go_wp2_with (at_make; refine wpList_make_full _ rfl _ _ 27 rfl w.heap.size 68 i0 (.agg #[.string ⟨#[]⟩, .int .i64 0]) 2 Try.underlying27 hi hz0 hz1 _ _ _ _ L.length rfl rfl rfl rfl (by rw [hz2]; omega) (by unfold maxLen; omega) (Nat.le_refl _) ?_; intro w1 hrow hg1)
  have hrow' : w1.ownsRow w.heap.size 68 2 (.slice (some ⟨w.heap.size, 0, none⟩) L.length L.length) L.length (gflat (List.replicate L.length zeroGrp)) := by
    rw [← gflat_made]; exact hrow
  clear hrow
  have hb0 : Below w.heap.size w w1 := ⟨hg1.os, hg1.tape, hg1.output, hg1.size, fun k hk => hg1.block k hk (by simp)⟩
  go_loopw [4] (fun i wr => ∃ k : Nat, k ≤ L.length ∧ i = .int .i64 k ∧ wr.ownsRow w.heap.size 68 2 (.slice (some ⟨w.heap.size, 0, none⟩) L.length L.length) L.length (gflat (L.take k ++ List.replicate (L.length - k) zeroGrp)) ∧ Below w.heap.size w wr) (fun i _ => L.length - (intOf i).toNat)
  case atStart => exact ⟨0, by omega, rfl, by simpa using hrow', hb0⟩
  case round =>
    obtain ⟨k, hk, rfl, hr, hb⟩ := hrel
    by_cases hlt : k < L.length
    · obtain ⟨a, rfl, hab, c0, c1⟩ := (hL.below hb (Nat.le_refl _)).at k hlt
      go_wp2_with (go_at_call 84; refine (toGroup_any L[k] wr).mono ?_; rintro e w2 ⟨rfl, hb2⟩; unfold Grp.val; have hr2 := row_below hr hb2 (Nat.le_refl _); obtain ⟨d0, d1, f0, f1⟩ := row_grp hr2 (k := k) (by simp; omega))
      have hp := row_gput hr2 k L[k]
      rw [take_put L zeroGrp hlt] at hp
      refine ⟨⟨k + 1, by omega, by go_num, hp, ?_⟩, by simp [intOf]; omega⟩
      exact ((hb.trans (hb2.mono hb.size)).setCell (Nat.le_refl _) _).setCell (Nat.le_refl _) _
    · obtain rfl : k = L.length := by omega
      go_wp2
      go_ret
      rw [List.take_of_length_le (Nat.le_refl _), Nat.sub_self, List.replicate_zero, List.append_nil] at hr
      exact ⟨_, _, rfl, hr, hb⟩

theorem eqGroup_same (f : Grp) (w : World) : Calls Try.prog 93 #[f.val, f.val] w fun e w' => e = .returned (.bool true) ∧ Below w.heap.size w w' := by
  obtain ⟨s0, k⟩ := f
  unfold Grp.val
  simp only
  go_enter Try.func93, Try.ntmps93
  go_wp2
  go_ret
  exact ⟨rfl, ((Below.refl _ _).alloc (Nat.le_refl _) _).alloc (by simp) _⟩
set_option maxHeartbeats 1000000 in
theorem eqGroupS_same (A B : Option Addr) (L : List Grp) (c d : Nat) (w : World) (hA : Grs w w.heap.size A L) (hB : Grs w w.heap.size B L) :
    Calls Try.prog 49 #[.slice A L.length c, .slice B L.length d] w fun e w' => e = .returned (.bool true) ∧ Below w.heap.size w w' := by
  have hn := hA.1
  unfold maxLen at hn
  go_enter Try.func49, Try.ntmps49
  go_wp2
  go_loopw [5] (fun i wr => ∃ k : Nat, k ≤ L.length ∧ i = .int .i64 k ∧ Below w.heap.size w wr) (fun i _ => L.length - (intOf i).toNat)
  case atStart => exact ⟨0, by omega, rfl, Below.refl _ _⟩
  case round =>
    obtain ⟨k, hk, rfl, hb⟩ := hrel
    by_cases hlt : k < L.length
    · obtain ⟨a, rfl, hab, a0, a1⟩ := (hA.below hb (Nat.le_refl _)).at k hlt
      obtain ⟨b, rfl, hbb, b0, b1⟩ := (hB.below hb (Nat.le_refl _)).at k hlt
      obtain ⟨I, f, hI, g0, gk, gc, ge⟩ := class_grown wr
      have x0 := fun s => kept_cell (gk s) a0
      have x1 := fun s => kept_cell (gk s) a1
      have y0 := fun s => kept_cell (gk s) b0
      have y1 := fun s => kept_cell (gk s) b1
      have EQ := eqGroup_same L[k]
      unfold Grp.val at EQ
      have hlt' : (k : Int) < (L.length : Int) := by omega
      clear a0 a1 b0 b1
      go_wp2
      refine wp_region_kept f (by kernel_rfl) (by kernel_rfl) g0 ?_
      repeat (first
        | go_big_quiet_skip
        | (go_big_quiet_want; go_big_quiet_op; first | go_big_quiet_on | (apply Exists.intro; refine ⟨fun s => ?_, ?_⟩; (go_at_call 93; refine (EQ _).mono ?_; rintro e w4 ⟨rfl, hb4⟩; exact ⟨rfl, gc _ _ hb4⟩); go_big_quiet_on)))
      refine wpQuiet_nil ?_
      intro w5 h5
      have hb5 := ge _ h5
      go_wp2
      exact ⟨⟨k + 1, by omega, by go_num, hb.trans (hb5.mono hb.size)⟩, by simp [intOf]; omega⟩
    · obtain rfl : k = L.length := by omega
      go_wp2
      go_ret
      exact ⟨rfl, hb⟩
set_option maxHeartbeats 2000000 in
theorem eqTopic_same (nm : ByteArray) (bs : Int) (A B C D : Option Addr) (H : List ByteArray) (G : List Grp) (a b c d : Nat) (w : World) (hA : Strs w w.heap.size A H) (hC : Strs w w.heap.size C H) (hB : Grs w w.heap.size B G) (hD : Grs w w.heap.size D G) :
    Calls Try.prog 15 #[topV nm bs (.slice A H.length a) (.slice B G.length b), topV nm bs (.slice C H.length c) (.slice D G.length d)] w fun e w' => e = .returned (.bool true) ∧ Below w.heap.size w w' := by
  have h0 := (Blk.fresh w 29 [.string nm, .int .i64 bs, .slice A H.length a, .slice B G.length b]).alloc (.cells #[.string nm, .int .i64 bs, .slice C H.length c, .slice D G.length d] 29)
  have h1 := Blk.fresh (w.alloc (.cells #[.string nm, .int .i64 bs, .slice A H.length a, .slice B G.length b] 29)) 29 [.string nm, .int .i64 bs, .slice C H.length c, .slice D G.length d]
  have hb0 : Below w.heap.size w ((w.alloc (.cells #[.string nm, .int .i64 bs, .slice A H.length a, .slice B G.length b] 29)).alloc (.cells #[.string nm, .int .i64 bs, .slice C H.length c, .slice D G.length d] 29)) := ((Below.refl _ w).alloc (Nat.le_refl _) _).alloc (by simp) _
  simp only [List.toArray, World.size_alloc] at h0 h1
  have HE := Lib.hid (fun W (h : Below w.heap.size w W) => eqStringS_same A C H a c W (hA.on h) (hC.on h))
  have HG := Lib.hid (fun W (h : Below w.heap.size w W) => eqGroupS_same B D G b d W (hB.on h) (hD.on h))
  go_enter Try.func15, Try.ntmps15
  go_wp2_with (fail)
  refine (HE.out _ hb0).mono ?_
  rintro e w1 ⟨rfl, hb1⟩
  have g0 := h0.below hb1 h0.lt
  have g1 := h1.below hb1 h1.lt
  have hw1 := hb0.trans (hb1.mono hb0.size)
  clear h0 h1 hb0 hb1
  have k3 := g0.cell (i := 3) rfl
  have l3 := g1.cell (i := 3) rfl
  go_wp2_with (fail)
  refine (HG.out _ hw1).mono ?_
  rintro e w2 ⟨rfl, hb2⟩
  clear k3 l3
  go_wp2
  go_ret
  exact ⟨rfl, hw1.trans (hb2.mono hw1.size)⟩
set_option maxHeartbeats 2000000 in
theorem toTopic_any (t : Tpc) (A : Option Addr) (c : Nat) (B : Option Addr) (d : Nat) (w : World) (hs : t.small) (hA : Strs w w.heap.size A t.held) (hB : Grs w w.heap.size B t.groups) :
    Calls Try.prog 12 #[topV t.name t.base (.slice A t.held.length c) (.slice B t.groups.length d)] w fun e w' => ∃ g c' h d', e = .returned (topV t.name t.base (.slice (some ⟨g, 0, none⟩) t.held.length c') (.slice (some ⟨h, 0, none⟩) t.groups.length d')) ∧
      Rw w' w.heap.size w'.heap.size 9 1 (.slice (some ⟨g, 0, none⟩) t.held.length c') t.held.length (t.held.map Value.string) ∧ Rw w' w.heap.size w'.heap.size 68 2 (.slice (some ⟨h, 0, none⟩) t.groups.length d') t.groups.length (gflat t.groups) ∧ g < h ∧ Below w.heap.size w w' := by
  obtain ⟨nm, bs, H, G⟩ := t
  obtain ⟨s0, s1, s2⟩ := hs
  simp only at s0 s1 s2 hA hB ⊢
  have hb0 : Below w.heap.size w (((w.alloc (.cells #[.string nm, .int .i64 bs, .slice A H.length c, .slice B G.length d] 25)).alloc (.cells #[.string ⟨#[]⟩, .int .i64 0, .slice none 0 0, .slice none 0 0] 29)).alloc (.cells #[.string nm, .int .i64 bs, .slice none 0 0, .slice none 0 0] 29)) := (((Below.refl _ _).alloc (Nat.le_refl _) _).alloc (by simp) _).alloc (by simp; omega) _
  have k0 := ((Blk.fresh w 25 [.string nm, .int .i64 bs, .slice A H.length c, .slice B G.length d]).alloc (.cells #[.string ⟨#[]⟩, .int .i64 0, .slice none 0 0, .slice none 0 0] 29)).alloc (.cells #[.string nm, .int .i64 bs, .slice none 0 0, .slice none 0 0] 29)
  have k1 := (Blk.fresh (w.alloc (.cells #[.string nm, .int .i64 bs, .slice A H.length c, .slice B G.length d] 25)) 29 [.string ⟨#[]⟩, .int .i64 0, .slice none 0 0, .slice none 0 0]).alloc (.cells #[.string nm, .int .i64 bs, .slice none 0 0, .slice none 0 0] 29)
  have k2 := Blk.fresh ((w.alloc (.cells #[.string nm, .int .i64 bs, .slice A H.length c, .slice B G.length d] 25)).alloc (.cells #[.string ⟨#[]⟩, .int .i64 0, .slice none 0 0, .slice none 0 0] 29)) 29 [.string nm, .int .i64 bs, .slice none 0 0, .slice none 0 0]
  simp only [World.size_alloc] at k0 k1 k2
  replace k0 : Blk (((w.alloc (.cells #[.string nm, .int .i64 bs, .slice A H.length c, .slice B G.length d] 25)).alloc (.cells #[.string ⟨#[]⟩, .int .i64 0, .slice none 0 0, .slice none 0 0] 29)).alloc (.cells #[.string nm, .int .i64 bs, .slice none 0 0, .slice none 0 0] 29)) w.heap.size 25 [.string nm, .int .i64 bs, .slice A H.length c, .slice B G.length d] := k0
  replace k1 : Blk (((w.alloc (.cells #[.string nm, .int .i64 bs, .slice A H.length c, .slice B G.length d] 25)).alloc (.cells #[.string ⟨#[]⟩, .int .i64 0, .slice none 0 0, .slice none 0 0] 29)).alloc (.cells #[.string nm, .int .i64 bs, .slice none 0 0, .slice none 0 0] 29)) (w.heap.size + 1) 29 [.string ⟨#[]⟩, .int .i64 0, .slice none 0 0, .slice none 0 0] := k1
  replace k2 : Blk (((w.alloc (.cells #[.string nm, .int .i64 bs, .slice A H.length c, .slice B G.length d] 25)).alloc (.cells #[.string ⟨#[]⟩, .int .i64 0, .slice none 0 0, .slice none 0 0] 29)).alloc (.cells #[.string nm, .int .i64 bs, .slice none 0 0, .slice none 0 0] 29)) (w.heap.size + 1 + 1) 29 [.string nm, .int .i64 bs, .slice none 0 0, .slice none 0 0] := k2
  go_enter Try.func12, Try.ntmps12
  go_wp2_with (fail)
  generalize ((w.alloc (.cells #[.string nm, .int .i64 bs, .slice A H.length c, .slice B G.length d] 25)).alloc (.cells #[.string ⟨#[]⟩, .int .i64 0, .slice none 0 0, .slice none 0 0] 29)).alloc (.cells #[.string nm, .int .i64 bs, .slice none 0 0, .slice none 0 0] 29) = v0 at hb0 k0 k1 k2 ⊢
  refine (toStringS_any A H c v0 (hA.on hb0) s1.1).mono ?_
  rintro e w1 ⟨g, c', rfl, hr1, hb1⟩
  have hg1 : v0.heap.size ≤ g ∧ g < w1.heap.size := hr1.at g rfl
  have z0 := k2.lt
  have hw1 := hb0.trans (hb1.mono hb0.size)
  replace k0 := k0.below hb1 k0.lt
  replace k1 := k1.below hb1 k1.lt
  replace k2 := k2.below hb1 k2.lt
  have c0 := k2.cell (i := 2) rfl
  have f0 := k2.froz 2
  have d0 := k0.cell (i := 3) rfl
  have q2 := k2.put 2 (.slice (some ⟨g, 0, none⟩) H.length c')
  have q1 := k1.far (p := ⟨w.heap.size + 1 + 1, 2, none⟩) (by simp) (.slice (some ⟨g, 0, none⟩) H.length c')
  have q0 := k0.far (p := ⟨w.heap.size + 1 + 1, 2, none⟩) (by simp; omega) (.slice (some ⟨g, 0, none⟩) H.length c')
  have hbq := hw1.setCell (p := ⟨w.heap.size + 1 + 1, 2, none⟩) (by simp; omega) (.slice (some ⟨g, 0, none⟩) H.length c')
  have hrq : (w1.setCell ⟨w.heap.size + 1 + 1, 2, none⟩ (.slice (some ⟨g, 0, none⟩) H.length c')).ownsRow v0.heap.size 9 1 (.slice (some ⟨g, 0, none⟩) H.length c') H.length (H.map Value.string) := row_far hr1.1 (by simp; omega) _
  have e0 := q0.cell (i := 3) rfl
  have zq : (w1.setCell ⟨w.heap.size + 1 + 1, 2, none⟩ (.slice (some ⟨g, 0, none⟩) H.length c')).heap.size = w1.heap.size := by simp [World.setCell]
  go_wp2_with (fail)
  clear c0 f0 d0 e0 k0 k1 k2 hr1
  generalize w1.setCell ⟨w.heap.size + 1 + 1, 2, none⟩ (.slice (some ⟨g, 0, none⟩) H.length c') = v1 at q0 q1 q2 hbq hrq zq ⊢
  refine (toGroupS_any B G d v1 (hB.on hbq) s2.1).mono ?_
  rintro e w2 ⟨h, d', rfl, hr2, hb2⟩
  have hg2 : v1.heap.size ≤ h ∧ h < w2.heap.size := hr2.lt h rfl
  have hw2 := hbq.trans (hb2.mono hbq.size)
  have hz1 := hb1.size
  have hz2 := hb2.size
  have hrs := row_below hrq hb2 (Nat.le_refl _)
  replace q1 := q1.below hb2 q1.lt
  replace q2 := q2.below hb2 q2.lt
  simp only [List.set_cons_succ, List.set_cons_zero] at q2
  have c0 := q2.cell (i := 0) rfl
  have c1 := q2.cell (i := 1) rfl
  have c2 := q2.cell (i := 2) rfl
  have c3 := q2.cell (i := 3) rfl
  have f3 := q2.froz 3
  have p0 := q1.cell (i := 0) rfl
  have p1 := q1.cell (i := 1) rfl
  have p2 := q1.cell (i := 2) rfl
  have p3 := q1.cell (i := 3) rfl
  have o0 := q1.froz 0
  have o1 := q1.froz 1
  have o2 := q1.froz 2
  have o3 := q1.froz 3
  go_wp2
  have r1 := (((((q1.far (p := ⟨w.heap.size + 1 + 1, 3, none⟩) (by simp) (.slice (some ⟨h, 0, none⟩) G.length d')).put 0 (.string nm)).put 1 (.int .i64 bs)).put 2 (.slice (some ⟨g, 0, none⟩) H.length c')).put 3 (.slice (some ⟨h, 0, none⟩) G.length d'))
  have r2 := (row_far (row_far (row_far (row_far (row_far hrs (p := ⟨w.heap.size + 1 + 1, 3, none⟩) (by simp; omega) (.slice (some ⟨h, 0, none⟩) G.length d')) (p := ⟨w.heap.size + 1, 0, none⟩) (by simp; omega) (.string nm)) (p := ⟨w.heap.size + 1, 1, none⟩) (by simp; omega) (.int .i64 bs)) (p := ⟨w.heap.size + 1, 2, none⟩) (by simp; omega) (.slice (some ⟨g, 0, none⟩) H.length c')) (p := ⟨w.heap.size + 1, 3, none⟩) (by simp; omega) (.slice (some ⟨h, 0, none⟩) G.length d'))
  have r3 := (row_far (row_far (row_far (row_far (row_far hr2 (p := ⟨w.heap.size + 1 + 1, 3, none⟩) (by simp; omega) (.slice (some ⟨h, 0, none⟩) G.length d')) (p := ⟨w.heap.size + 1, 0, none⟩) (by simp; omega) (.string nm)) (p := ⟨w.heap.size + 1, 1, none⟩) (by simp; omega) (.int .i64 bs)) (p := ⟨w.heap.size + 1, 2, none⟩) (by simp; omega) (.slice (some ⟨g, 0, none⟩) H.length c')) (p := ⟨w.heap.size + 1, 3, none⟩) (by simp; omega) (.slice (some ⟨h, 0, none⟩) G.length d'))
  have r4 := (((((hw2.setCell (p := ⟨w.heap.size + 1 + 1, 3, none⟩) (by simp; try omega) (.slice (some ⟨h, 0, none⟩) G.length d')).setCell (p := ⟨w.heap.size + 1, 0, none⟩) (by simp; try omega) (.string nm)).setCell (p := ⟨w.heap.size + 1, 1, none⟩) (by simp; try omega) (.int .i64 bs)).setCell (p := ⟨w.heap.size + 1, 2, none⟩) (by simp; try omega) (.slice (some ⟨g, 0, none⟩) H.length c')).setCell (p := ⟨w.heap.size + 1, 3, none⟩) (by simp; try omega) (.slice (some ⟨h, 0, none⟩) G.length d'))
  simp only [List.set_cons_succ, List.set_cons_zero] at r1
  generalize (((((w2.setCell ⟨w.heap.size + 1 + 1, 3, none⟩ (.slice (some ⟨h, 0, none⟩) G.length d')).setCell ⟨w.heap.size + 1, 0, none⟩ (.string nm)).setCell ⟨w.heap.size + 1, 1, none⟩ (.int .i64 bs)).setCell ⟨w.heap.size + 1, 2, none⟩ (.slice (some ⟨g, 0, none⟩) H.length c')).setCell ⟨w.heap.size + 1, 3, none⟩ (.slice (some ⟨h, 0, none⟩) G.length d')) = w9 at r1 r2 r3 r4 ⊢
  have x0 := r1.cell (i := 0) rfl
  have x1 := r1.cell (i := 1) rfl
  have x2 := r1.cell (i := 2) rfl
  have x3 := r1.cell (i := 3) rfl
  exact bodyPost_ret (v := topV nm bs (.slice (some ⟨g, 0, none⟩) H.length c') (.slice (some ⟨h, 0, none⟩) G.length d')) (by simp [results, Try.results12, go_sem, x0, x1, x2, x3]) rfl ⟨g, c', h, d', rfl, Rw.of (own_base r2 (by omega)), Rw.of (own_base r3 (by omega)), by omega, r4⟩
end Go.Proofs.Ytkimieeabmjfgaa

namespace Go.Proofs.Ytkimieeabmjfgaa
open Go.RowKit
set_option linter.unusedVariables false
set_option maxRecDepth 1000000

theorem grown_put (w : World) (p : Addr) (u : Value) : w.grownBy (w.setCell p u) (some p.block) :=
  ⟨rfl, rfl, rfl, by simp [World.setCell], fun k _ hne => Below.heap_setCell w p u k (fun e => hne (by rw [e]))⟩
theorem Lay.set {w : World} {M : List TC} {lo hi : Nat} (h : Lay w lo M hi) {p : Addr} (hp : p.block < lo) (u : Value) : Lay (w.setCell p u) lo M hi :=
  h.far (grown_put w p u) (lo' := p.block) (hi' := p.block + 1) (fun k e => by cases e; omega) (by omega)
theorem Rw.set {w : World} {lo hi : Nat} {e : TypeId} {size : Nat} {v : Value} {n : Nat} {xs : List Value} (h : Rw w lo hi e size v n xs) {p : Addr} (hp : p.block < lo) (u : Value) : Rw (w.setCell p u) lo hi e size v n xs :=
  h.far (grown_put w p u) (lo' := p.block) (hi' := p.block + 1) (fun k e => by cases e; omega) (by omega)
theorem put_mid {α : Type} (M : List α) (z m : α) {n k : Nat} (hM : M.length = k) (hk : k < n) : (M ++ List.replicate (n - k) z).set k m = (M ++ [m]) ++ List.replicate (n - (k + 1)) z := by
  subst hM
  rw [show n - M.length = (n - (M.length + 1)) + 1 by omega, List.replicate_succ, List.set_append_right _ _ (Nat.le_refl _), Nat.sub_self, List.set_cons_zero, List.append_assoc]
  rfl
theorem toReply_any (f : Rep) (w : World) : Calls Try.prog 101 #[f.val] w fun e w' => e = .returned f.val ∧ Below w.heap.size w w' := by
  obtain ⟨c, k, s0⟩ := f
  unfold Rep.val
  simp only
  go_enter Try.func101, Try.ntmps101
  go_wp2
  refine bodyPost_ret (v := .agg #[.int .i64 c, .int .i64 k, .string s0]) (by simp [results, Try.results101, go_sem]) rfl ⟨rfl, ?_⟩
  exact (((Below.refl _ _).alloc (Nat.le_refl _) _).alloc (by simp) _).alloc (by simp; omega) _
set_option maxHeartbeats 1000000 in
theorem toReplyS_any (A : Option Addr) (L : List Rep) (c : Nat) (w : World) (hL : Rps w w.heap.size A L) (hn : L.length ≤ 1048576) :
    Calls Try.prog 60 #[.slice A L.length c] w fun e w' => ∃ g c', e = .returned (.slice (some ⟨g, 0, none⟩) L.length c') ∧ OwnR w' w.heap.size (.slice (some ⟨g, 0, none⟩) L.length c') L ∧ Below w.heap.size w w' := by
  obtain ⟨i0, hi, hz0, hz1, hz2⟩ := info_parts infoRep
  have hn1 : (L.length : Int) ≤ 1048576 := by omega
  go_enter Try.func60, Try.ntmps60
  go_wp2_with (at_make; refine wpList_make_full _ rfl _ _ 46 rfl w.heap.size 53 i0 (.agg #[.int .i64 0, .int .i64 0, .string ⟨#[]⟩]) 3 Try.underlying46 hi hz0 hz1 _ _ _ _ L.length rfl rfl rfl rfl (by rw [hz2]; omega) (by unfold maxLen; omega) (Nat.le_refl _) ?_; intro w1 hrow hg1)
  have hrow' : w1.ownsRow w.heap.size 53 3 (.slice (some ⟨w.heap.size, 0, none⟩) L.length L.length) L.length (rflat (List.replicate L.length zeroRep)) := by
    rw [← rflat_made]; exact hrow
  clear hrow
  have hb0 : Below w.heap.size w w1 := ⟨hg1.os, hg1.tape, hg1.output, hg1.size, fun k hk => hg1.block k hk (by simp)⟩
  go_loopw [4] (fun i wr => ∃ k : Nat, k ≤ L.length ∧ i = .int .i64 k ∧ wr.ownsRow w.heap.size 53 3 (.slice (some ⟨w.heap.size, 0, none⟩) L.length L.length) L.length (rflat (L.take k ++ List.replicate (L.length - k) zeroRep)) ∧ Below w.heap.size w wr) (fun i _ => L.length - (intOf i).toNat)
  case atStart => exact ⟨0, by omega, rfl, by simpa using hrow', hb0⟩
  case round =>
    obtain ⟨k, hk, rfl, hr, hb⟩ := hrel
    by_cases hlt : k < L.length
    · obtain ⟨a, rfl, hab, c0, c1, c2⟩ := (hL.below hb (Nat.le_refl _)).at k hlt
      go_wp2_with (go_at_call 101; refine (toReply_any L[k] wr).mono ?_; rintro e w2 ⟨rfl, hb2⟩; unfold Rep.val; have hr2 := row_below hr hb2 (Nat.le_refl _); obtain ⟨d0, d1, d2, f0, f1, f2⟩ := row_rep hr2 (k := k) (by simp; omega))
      have hp := row_rput hr2 k L[k]
      rw [take_put L zeroRep hlt] at hp
      refine ⟨⟨k + 1, by omega, by go_num, hp, ?_⟩, by simp [intOf]; omega⟩
      exact (((hb.trans (hb2.mono hb.size)).setCell (Nat.le_refl _) _).setCell (Nat.le_refl _) _).setCell (Nat.le_refl _) _
    · obtain rfl : k = L.length := by omega
      go_wp2
      go_ret
      rw [List.take_of_length_le (Nat.le_refl _), Nat.sub_self, List.replicate_zero, List.append_nil] at hr
      exact ⟨_, _, rfl, hr, hb⟩
set_option maxHeartbeats 2000000 in
theorem toTopicS_any (A : Option Addr) (L : List Tpc) (c : Nat) (w : World) (hL : Tops w w.heap.size A L) (hn : L.length ≤ 1048576) (hs : ∀ i (h : i < L.length), L[i].small) :
    Calls Try.prog 59 #[.slice A L.length c] w fun e w' => ∃ (g c' : Nat) (M : List TC), e = .returned (.slice (some ⟨g, 0, none⟩) L.length c') ∧ M.map (·.t) = L ∧ w.heap.size ≤ g ∧ w'.ownsRow w.heap.size 29 4 (.slice (some ⟨g, 0, none⟩) L.length c') L.length (tflat M) ∧ Lay w' (g + 1) M w'.heap.size ∧ Below w.heap.size w w' := by
  obtain ⟨i0, hi, hz0, hz1, hz2⟩ := info_parts infoTop
  have hn1 : (L.length : Int) ≤ 1048576 := by omega
  go_enter Try.func59, Try.ntmps59
  go_wp2_with (at_make; refine wpList_make_full _ rfl _ _ 45 rfl w.heap.size 29 i0 (.agg #[.string ⟨#[]⟩, .int .i64 0, .slice none 0 0, .slice none 0 0]) 4 Try.underlying45 hi hz0 hz1 _ _ _ _ L.length rfl rfl rfl rfl (by rw [hz2]; omega) (by unfold maxLen; omega) (Nat.le_refl _) ?_; intro w1 hrow hg1)
  have hrow' : w1.ownsRow w.heap.size 29 4 (.slice (some ⟨w.heap.size, 0, none⟩) L.length L.length) L.length (tflat (List.replicate L.length zeroTC)) := by
    rw [← tflat_made]; exact hrow
  clear hrow
  have hb0 : Below w.heap.size w w1 := ⟨hg1.os, hg1.tape, hg1.output, hg1.size, fun k hk => hg1.block k hk (by simp)⟩
  have hs1 : w.heap.size < w1.heap.size := (hrow'.lt w.heap.size rfl).2
  go_loopw [4] (fun i wr => ∃ (k : Nat) (M : List TC), k ≤ L.length ∧ i = .int .i64 k ∧ M.length = k ∧ M.map (·.t) = L.take k ∧ wr.ownsRow w.heap.size 29 4 (.slice (some ⟨w.heap.size, 0, none⟩) L.length L.length) L.length (tflat (M ++ List.replicate (L.length - k) zeroTC)) ∧ Lay wr (w.heap.size + 1) M wr.heap.size ∧ Below w.heap.size w wr) (fun i _ => L.length - (intOf i).toNat)
  case atStart => exact ⟨0, [], by omega, rfl, rfl, rfl, by simpa using hrow', (show w.heap.size + 1 ≤ w1.heap.size from hs1), hb0⟩
  case round =>
    obtain ⟨k, M, hk, rfl, hMl, hMt, hr, hly, hb⟩ := hrel
    have HM := Lib.hid hMl
    have HT := Lib.hid hMt
    clear hMl hMt
    by_cases hlt : k < L.length
    · obtain ⟨a, rfl, hab, C, c1, D, d1, e0, e1, e2, e3, hC, hD⟩ := ((hL.below hb (Nat.le_refl _)).mono hb.size).at k hlt
      have TT := Lib.hid (toTopic_any L[k] C c1 D d1 wr (hs k hlt) hC hD)
      have lz : w.heap.size + 1 ≤ wr.heap.size := hly.le
      go_wp2_with (fail)
      refine TT.out.mono ?_
      rintro e w2 ⟨g, c2, h, d2, rfl, hr1, hr2, hgh, hb2⟩
      have hr3 := row_below hr hb2 (Nat.le_refl _)
      have hly2 := hly.below hb2
      obtain ⟨y0, y1, y2, y3, f0, f1, f2, f3⟩ := row_top hr3 (k := k) (by simp [HM.out]; omega)
      have hp := row_tput hr3 k ⟨L[k], some ⟨g, 0, none⟩, c2, some ⟨h, 0, none⟩, d2⟩
      rw [put_mid M zeroTC _ HM.out hlt] at hp
      have hw2 := hb.trans (hb2.mono hb.size)
      have hz2 := hb2.size
      have q1 := (((hr1.set (p := ⟨w.heap.size, k * 4, none⟩) (by simp; omega) (.string L[k].name)).set (p := ⟨w.heap.size, k * 4 + 1, none⟩) (by simp; omega) (.int .i64 L[k].base)).set (p := ⟨w.heap.size, k * 4 + 2, none⟩) (by simp; omega) (.slice (some ⟨g, 0, none⟩) L[k].held.length c2)).set (p := ⟨w.heap.size, k * 4 + 3, none⟩) (by simp; omega) (.slice (some ⟨h, 0, none⟩) L[k].groups.length d2)
      have q2 := (((hr2.set (p := ⟨w.heap.size, k * 4, none⟩) (by simp; omega) (.string L[k].name)).set (p := ⟨w.heap.size, k * 4 + 1, none⟩) (by simp; omega) (.int .i64 L[k].base)).set (p := ⟨w.heap.size, k * 4 + 2, none⟩) (by simp; omega) (.slice (some ⟨g, 0, none⟩) L[k].held.length c2)).set (p := ⟨w.heap.size, k * 4 + 3, none⟩) (by simp; omega) (.slice (some ⟨h, 0, none⟩) L[k].groups.length d2)
      have q3 := (((hly2.set (p := ⟨w.heap.size, k * 4, none⟩) (by simp) (.string L[k].name)).set (p := ⟨w.heap.size, k * 4 + 1, none⟩) (by simp) (.int .i64 L[k].base)).set (p := ⟨w.heap.size, k * 4 + 2, none⟩) (by simp) (.slice (some ⟨g, 0, none⟩) L[k].held.length c2)).set (p := ⟨w.heap.size, k * 4 + 3, none⟩) (by simp) (.slice (some ⟨h, 0, none⟩) L[k].groups.length d2)
      have q4 := (((hw2.setCell (p := ⟨w.heap.size, k * 4, none⟩) (Nat.le_refl _) (.string L[k].name)).setCell (p := ⟨w.heap.size, k * 4 + 1, none⟩) (Nat.le_refl _) (.int .i64 L[k].base)).setCell (p := ⟨w.heap.size, k * 4 + 2, none⟩) (Nat.le_refl _) (.slice (some ⟨g, 0, none⟩) L[k].held.length c2)).setCell (p := ⟨w.heap.size, k * 4 + 3, none⟩) (Nat.le_refl _) (.slice (some ⟨h, 0, none⟩) L[k].groups.length d2)
      have qz : ((((w2.setCell ⟨w.heap.size, k * 4, none⟩ (.string L[k].name)).setCell ⟨w.heap.size, k * 4 + 1, none⟩ (.int .i64 L[k].base)).setCell ⟨w.heap.size, k * 4 + 2, none⟩ (.slice (some ⟨g, 0, none⟩) L[k].held.length c2)).setCell ⟨w.heap.size, k * 4 + 3, none⟩ (.slice (some ⟨h, 0, none⟩) L[k].groups.length d2)).heap.size = w2.heap.size := by simp [World.setCell]
      have QZ := Lib.hid qz
      clear qz hr1 hr2 hly2 hr3
      go_wp2
      refine ⟨⟨k + 1, M ++ [⟨L[k], some ⟨g, 0, none⟩, c2, some ⟨h, 0, none⟩, d2⟩], by omega, by go_num, by simp [HM.out], ?_, hp, ?_, q4⟩, by simp [intOf]; omega⟩
      · rw [List.map_append, HT.out, List.map_singleton, List.take_succ_eq_append_getElem hlt]
      · rw [QZ.out]
        exact q3.snoc hz2 q1 q2 (fun x hx y hy => by simp at hx hy; omega)
    · obtain rfl : k = L.length := by omega
      go_wp2
      go_ret
      have hMt := HT.out
      rw [List.take_of_length_le (Nat.le_refl _)] at hMt
      rw [Nat.sub_self, List.replicate_zero, List.append_nil] at hr
      exact ⟨_, _, M, rfl, hMt, Nat.le_refl _, hr, hly, hb⟩

theorem eqReply_same (f : Rep) (w : World) : Calls Try.prog 30 #[f.val, f.val] w fun e w' => e = .returned (.bool true) ∧ Below w.heap.size w w' := by
  obtain ⟨c, k, s0⟩ := f
  unfold Rep.val
  simp only
  go_enter Try.func30, Try.ntmps30
  go_wp2
  go_ret
  exact ⟨rfl, ((Below.refl _ _).alloc (Nat.le_refl _) _).alloc (by simp) _⟩
set_option maxHeartbeats 1000000 in
theorem eqReplyS_same (A B : Option Addr) (L : List Rep) (c d : Nat) (w : World) (hA : Rps w w.heap.size A L) (hB : Rps w w.heap.size B L) :
    Calls Try.prog 64 #[.slice A L.length c, .slice B L.length d] w fun e w' => e = .returned (.bool true) ∧ Below w.heap.size w w' := by
  have hn := hA.1
  unfold maxLen at hn
  go_enter Try.func64, Try.ntmps64
  go_wp2
  go_loopw [5] (fun i wr => ∃ k : Nat, k ≤ L.length ∧ i = .int .i64 k ∧ Below w.heap.size w wr) (fun i _ => L.length - (intOf i).toNat)
  case atStart => exact ⟨0, by omega, rfl, Below.refl _ _⟩
  case round =>
    obtain ⟨k, hk, rfl, hb⟩ := hrel
    by_cases hlt : k < L.length
    · obtain ⟨a, rfl, hab, a0, a1, a2⟩ := (hA.below hb (Nat.le_refl _)).at k hlt
      obtain ⟨b, rfl, hbb, b0, b1, b2⟩ := (hB.below hb (Nat.le_refl _)).at k hlt
      obtain ⟨I, f, hI, g0, gk, gc, ge⟩ := class_grown wr
      have x0 := fun s => kept_cell (gk s) a0
      have x1 := fun s => kept_cell (gk s) a1
      have x2 := fun s => kept_cell (gk s) a2
      have y0 := fun s => kept_cell (gk s) b0
      have y1 := fun s => kept_cell (gk s) b1
      have y2 := fun s => kept_cell (gk s) b2
      have EQ := eqReply_same L[k]
      unfold Rep.val at EQ
      have hlt' : (k : Int) < (L.length : Int) := by omega
      clear a0 a1 a2 b0 b1 b2
      go_wp2
      refine wp_region_kept f (by kernel_rfl) (by kernel_rfl) g0 ?_
      repeat (first
        | go_big_quiet_skip
        | (go_big_quiet_want; go_big_quiet_op; first | go_big_quiet_on | (apply Exists.intro; refine ⟨fun s => ?_, ?_⟩; (go_at_call 30; refine (EQ _).mono ?_; rintro e w4 ⟨rfl, hb4⟩; exact ⟨rfl, gc _ _ hb4⟩); go_big_quiet_on)))
      refine wpQuiet_nil ?_
      intro w5 h5
      have hb5 := ge _ h5
      go_wp2
      exact ⟨⟨k + 1, by omega, by go_num, hb.trans (hb5.mono hb.size)⟩, by simp [intOf]; omega⟩
    · obtain rfl : k = L.length := by omega
      go_wp2
      go_ret
      exact ⟨rfl, hb⟩
set_option maxHeartbeats 2000000 in
theorem eqTopicS_same (A B : Option Addr) (L : List Tpc) (c d : Nat) (w : World) (hA : Tops w w.heap.size A L) (hB : Tops w w.heap.size B L) :
    Calls Try.prog 63 #[.slice A L.length c, .slice B L.length d] w fun e w' => e = .returned (.bool true) ∧ Below w.heap.size w w' := by
  have hn := hA.1
  unfold maxLen at hn
  go_enter Try.func63, Try.ntmps63
  go_wp2
  go_loopw [5] (fun i wr => ∃ k : Nat, k ≤ L.length ∧ i = .int .i64 k ∧ Below w.heap.size w wr) (fun i _ => L.length - (intOf i).toNat)
  case atStart => exact ⟨0, by omega, rfl, Below.refl _ _⟩
  case round =>
    obtain ⟨k, hk, rfl, hb⟩ := hrel
    by_cases hlt : k < L.length
    · obtain ⟨a, rfl, hab, C, c1, D, d1, a0, a1, a2, a3, hC, hD⟩ := (hA.on hb).at k hlt
      obtain ⟨b, rfl, hbb, E, e1, F, f1, b0, b1, b2, b3, hE, hF⟩ := (hB.on hb).at k hlt
      obtain ⟨I, f, hI, g0, gk, gc, ge⟩ := class_grown wr
      have x0 := fun s => kept_cell (gk s) a0
      have x1 := fun s => kept_cell (gk s) a1
      have x2 := fun s => kept_cell (gk s) a2
      have x3 := fun s => kept_cell (gk s) a3
      have y0 := fun s => kept_cell (gk s) b0
      have y1 := fun s => kept_cell (gk s) b1
      have y2 := fun s => kept_cell (gk s) b2
      have y3 := fun s => kept_cell (gk s) b3
      have EQ := Lib.hid (fun s => eqTopic_same L[k].name L[k].base C D E F L[k].held L[k].groups c1 d1 e1 f1 (f s) (hC.on (gk s)) (hE.on (gk s)) (hD.on (gk s)) (hF.on (gk s)))
      have hlt' : (k : Int) < (L.length : Int) := by omega
      clear a0 a1 a2 a3 b0 b1 b2 b3
      go_wp2
      refine wp_region_kept f (by kernel_rfl) (by kernel_rfl) g0 ?_
      repeat (first
        | go_big_quiet_skip
        | (go_big_quiet_want; go_big_quiet_op; first | go_big_quiet_on | (apply Exists.intro; refine ⟨fun s => ?_, ?_⟩; (go_at_call 15; refine (EQ.out _).mono ?_; rintro e w4 ⟨rfl, hb4⟩; exact ⟨rfl, gc _ _ hb4⟩); go_big_quiet_on)))
      refine wpQuiet_nil ?_
      intro w5 h5
      have hb5 := ge _ h5
      go_wp2
      exact ⟨⟨k + 1, by omega, by go_num, hb.trans (hb5.mono hb.size)⟩, by simp [intOf]; omega⟩
    · obtain rfl : k = L.length := by omega
      go_wp2
      go_ret
      exact ⟨rfl, hb⟩
set_option maxHeartbeats 2000000 in
theorem eqBroker_same (A B C D : Option Addr) (T : List Tpc) (R : List Rep) (a b c d : Nat) (w : World) (hA : Tops w w.heap.size A T) (hC : Tops w w.heap.size C T) (hB : Rps w w.heap.size B R) (hD : Rps w w.heap.size D R) :
    Calls Try.prog 27 #[broV (.slice A T.length a) (.slice B R.length b), broV (.slice C T.length c) (.slice D R.length d)] w fun e w' => e = .returned (.bool true) ∧ Below w.heap.size w w' := by
  have h0 := (Blk.fresh w 48 [.slice A T.length a, .slice B R.length b]).alloc (.cells #[.slice C T.length c, .slice D R.length d] 48)
  have h1 := Blk.fresh (w.alloc (.cells #[.slice A T.length a, .slice B R.length b] 48)) 48 [.slice C T.length c, .slice D R.length d]
  have hb0 : Below w.heap.size w ((w.alloc (.cells #[.slice A T.length a, .slice B R.length b] 48)).alloc (.cells #[.slice C T.length c, .slice D R.length d] 48)) := ((Below.refl _ w).alloc (Nat.le_refl _) _).alloc (by simp) _
  simp only [List.toArray, World.size_alloc] at h0 h1
  have HE := Lib.hid (fun W (h : Below w.heap.size w W) => eqTopicS_same A C T a c W (hA.on h) (hC.on h))
  have HG := Lib.hid (fun W (h : Below w.heap.size w W) => eqReplyS_same B D R b d W (hB.on h) (hD.on h))
  go_enter Try.func27, Try.ntmps27
  go_wp2_with (fail)
  refine (HE.out _ hb0).mono ?_
  rintro e w1 ⟨rfl, hb1⟩
  have g0 := h0.below hb1 h0.lt
  have g1 := h1.below hb1 h1.lt
  have hw1 := hb0.trans (hb1.mono hb0.size)
  clear h0 h1 hb0 hb1
  have k3 := g0.cell (i := 1) rfl
  have l3 := g1.cell (i := 1) rfl
  go_wp2_with (fail)
  refine (HG.out _ hw1).mono ?_
  rintro e w2 ⟨rfl, hb2⟩
  clear k3 l3
  go_wp2
  go_ret
  exact ⟨rfl, hw1.trans (hb2.mono hw1.size)⟩
end Go.Proofs.Ytkimieeabmjfgaa
