/- Commands: when one is right; spec.CommandRight and impl.CommandRight both answer cmdB. Strings in order. When a topic is right; the end of a topic. The contract of spec.TopicRight. -/
import Derived.Test.YtkimieeabmjfgaaIs3W
import Derived.Laws.StructEq
import Derived.Laws.Cover1
import Derived.Test.YtkimieeabmjfgaaRwkW
import Derived.Test.YtkimieeabmjfgaaStrArgW
import Derived.BigQuiet
namespace Go.Proofs.Ytkimieeabmjfgaa
open Go.RowKit
set_option linter.unusedVariables false
set_option maxRecDepth 1000000

/-- A command. -/
structure Cmd where
  client : Int
  number : Int
  kind : Int
  topic : ByteArray
  group : ByteArray
  text : ByteArray
  n : Int
abbrev cmdV (a b k : Int) (t g x : ByteArray) (n : Int) : Value := .agg #[.int .i64 a, .int .i64 b, .int .i64 k, .string t, .string g, .string x, .int .i64 n]
def Cmd.v (c : Cmd) : Value := cmdV c.client c.number c.kind c.topic c.group c.text c.n
def Cmd.small (c : Cmd) : Prop := c.topic.size ≤ maxLen ∧ c.group.size ≤ maxLen ∧ c.text.size ≤ maxLen
def inB (n a b : Int) : Bool := decide (a ≤ n) && decide (n ≤ b)
def emptyB (s : ByteArray) : Bool := decide (s.size = 0)
noncomputable def kindB (k : Int) (g x : ByteArray) (n : Int) : Bool :=
  if k = 1 ∨ k = 2 then emptyB g && (emptyB x && decide (n = 0))
  else if k = 3 then emptyB g && (inB x.size 1 40 && decide (n = 0))
  else if k = 4 ∨ k = 5 ∨ k = 6 then nameB g && (emptyB x && inB n 0 1000000000)
  else if k = 7 then emptyB g && (emptyB x && inB n 0 20)
  else false
/-- CommandRight. -/
noncomputable def cmdB (c : Cmd) : Bool := inB c.client 1 9 && (inB c.number 1 1000000000 && (nameB c.topic && kindB c.kind c.group c.text c.n))
theorem empty_eq {s : ByteArray} (h : emptyB s = true) : s = ⟨#[]⟩ := by
  have h1 : s.size = 0 := of_decide_eq_true h
  apply ByteArray.ext
  exact Array.eq_empty_of_size_eq_zero h1
theorem empty_list {s : ByteArray} (h : emptyB s = false) : (s.toList == []) = false := by
  have h1 : ¬ s.size = 0 := of_decide_eq_false h
  rw [ByteArray.toList_eq]
  obtain ⟨⟨l⟩⟩ := s
  cases l with
  | nil => exact absurd rfl h1
  | cons a l => rfl
theorem empty_list' {s : ByteArray} (h : emptyB s = false) : (([] : List UInt8) == s.toList) = false := by
  have := empty_list h
  generalize s.toList = l at this
  cases l with
  | nil => simp at this
  | cons a l => rfl
theorem kindWays (k : Int) : k = 1 ∨ k = 2 ∨ k = 3 ∨ k = 4 ∨ k = 5 ∨ k = 6 ∨ k = 7 ∨ ((k == 1) = false ∧ (k == 2) = false ∧ (k == 3) = false ∧ (k == 4) = false ∧ (k == 5) = false ∧ (k == 6) = false ∧ (k == 7) = false) := by
  simp only [beq_eq_false_iff_ne, ne_eq]; omega
theorem below_box (w : World) (o : Obj) : Below w.heap.size w (w.alloc o) := (Below.refl _ _).alloc (Nat.le_refl _) o
theorem zeroWays (n : Int) : (n = 0 ∧ decide (n = 0) = true) ∨ ((n == 0) = false ∧ decide (n = 0) = false) := by
  by_cases h : n = 0
  · exact .inl ⟨h, by simp [h]⟩
  · exact .inr ⟨by simp [h], by simp [h]⟩
theorem emptyWays (s : ByteArray) : (s = ⟨#[]⟩ ∧ emptyB s = true) ∨ ((s.toList == []) = false ∧ emptyB s = false) := by
  cases h : emptyB s
  · exact .inr ⟨empty_list h, rfl⟩
  · exact .inl ⟨empty_eq h, rfl⟩
theorem is3 {n a b : Int} {r : Bool} (h : inB n a b = r) (w : World) : Calls Try.prog 40 #[.int .i64 n, .int .i64 a, .int .i64 b] w fun e w' => e = .returned (.bool r) ∧ w' = w := by
  subst h; exact l03Is_any n a b w
theorem inRange_any {n a b : Int} {r : Bool} (h : inB n a b = r) (w : World) : Calls Try.prog 46 #[.int .i64 n, .int .i64 a, .int .i64 b] w fun e w' => e = .returned (.bool r) ∧ w' = w := by
  subst h
  by_cases h : a ≤ n
  · go_enter Try.func46, Try.ntmps46
    go_wp2
    go_ret
    simp [h, inB]
  · go_enter Try.func46, Try.ntmps46
    go_wp2
    go_ret
    have h' : n < a := by omega
    simp [inB]
    intro h2
    omega
theorem specName_b {s : ByteArray} {r : Bool} (h : nameB s = r) (hs : s.size ≤ maxLen) (w : World) : Calls Try.prog 82 #[.string s] w fun e w' => e = .returned (.bool r) ∧ w' = w := by
  subst h; exact (specNameRight_any s w hs).mono fun e w' h => ⟨h.1, h.2.symm⟩
theorem implName_b {s : ByteArray} {r : Bool} (h : nameB s = r) (hs : s.size ≤ maxLen) (w : World) : Calls Try.prog 87 #[.string s] w fun e w' => e = .returned (.bool r) ∧ w' = w := by
  subst h; exact (implNameRight_any s w hs).mono fun e w' h => ⟨h.1, h.2.symm⟩
theorem textRight_b {s : ByteArray} {r : Bool} (h : inB s.size 1 40 = r) (hs : s.size ≤ maxLen) (w : World) : Calls Try.prog 130 #[.string s] w fun e w' => e = .returned (.bool r) ∧ w' = w := by
  subst h
  unfold maxLen at hs
  by_cases h : 1 ≤ s.size
  · go_enter Try.func130, Try.ntmps130
    go_wp2
    go_ret
    simp [inB]
    omega
  · go_enter Try.func130, Try.ntmps130
    go_wp2
    go_ret
    simp [inB]
    omega
theorem l07Text_b {s : ByteArray} {r : Bool} (h : inB s.size 1 40 = r) (hs : s.size ≤ maxLen) (w : World) : Calls Try.prog 100 #[.string s] w fun e w' => e = .returned (.bool r) ∧ w' = w := by
  subst h
  unfold maxLen at hs
  by_cases h : 1 ≤ s.size
  · go_enter Try.func100, Try.ntmps100
    go_wp2
    go_ret
    simp [inB]
    omega
  · go_enter Try.func100, Try.ntmps100
    go_wp2
    go_ret
    simp [inB]
    omega
end Go.Proofs.Ytkimieeabmjfgaa

namespace Go.Proofs.Ytkimieeabmjfgaa
open Go.RowKit
set_option linter.unusedVariables false
def lessB (a b : ByteArray) : Bool := Op.bytesLess a.toList b.toList
end Go.Proofs.Ytkimieeabmjfgaa

namespace Go.Proofs.Ytkimieeabmjfgaa
open Go.RowKit
set_option linter.unusedVariables false
set_option maxRecDepth 1000000

/-- A group that is right in its place. -/
def grpIn (t : Tpc) (i : Nat) (h : i < t.groups.length) : Prop := nameB t.groups[i].name = true ∧ inB t.groups[i].acked t.base (t.base + t.held.length) = true ∧ (0 < i → lessB (t.groups[i - 1]'(by omega)).name t.groups[i].name = true)
/-- A right topic. -/
def topOK (t : Tpc) : Prop := nameB t.name = true ∧ inB t.base 0 1000000000 = true ∧ t.held.length ≤ 20 ∧ (∀ i (h : i < t.held.length), inB t.held[i].size 1 40 = true) ∧ t.groups.length ≤ 4 ∧ t.base + t.held.length ≤ 1000000000 ∧ ∀ i (h : i < t.groups.length), grpIn t i h
/-- TopicRight. -/
noncomputable def topB (t : Tpc) : Bool := @decide (topOK t) (Classical.propDecidable _)
theorem topB_true {t : Tpc} (h : topOK t) : topB t = true := by unfold topB; exact @decide_eq_true _ (Classical.propDecidable _) h
theorem topB_false {t : Tpc} (h : ¬ topOK t) : topB t = false := by unfold topB; exact @decide_eq_false _ (Classical.propDecidable _) h
theorem topB_iff {t : Tpc} : topB t = true ↔ topOK t := ⟨fun h => by unfold topB at h; exact @of_decide_eq_true _ (Classical.propDecidable _) h, topB_true⟩
theorem inB_true {n a b : Int} (h : inB n a b = true) : a ≤ n ∧ n ≤ b := by simpa [inB] using h
theorem inB_of {n a b : Int} (h1 : a ≤ n) (h2 : n ≤ b) : inB n a b = true := by simp [inB, h1, h2]

theorem bl {f : FuncId} {args : Array Value} {w : World} {v : Value} (h : Calls Try.prog f args w fun e w' => e = .returned v ∧ w' = w) : Calls Try.prog f args w fun e w' => e = .returned v ∧ Below w.heap.size w w' :=
  h.mono fun _ _ h => ⟨h.1, by rw [h.2]; exact Below.refl _ _⟩
theorem grp_less {t : Tpc} {q k : Nat} (hq : q + 1 = k) (hlt : k < t.groups.length) (hql : q < t.groups.length) (hl : Op.bytesLess t.groups[q].name.toList t.groups[k].name.toList = true) : 0 < k → lessB (t.groups[k - 1]'(by omega)).name t.groups[k].name = true := by
  intro _
  obtain rfl : q = k - 1 := by omega
  exact hl
theorem not_grp_less {t : Tpc} {q k : Nat} (hq : q + 1 = k) (hlt : k < t.groups.length) (hql : q < t.groups.length) (hl : Op.bytesLess t.groups[q].name.toList t.groups[k].name.toList = false) : ¬ grpIn t k hlt := by
  intro h
  have h2 := h.2.2 (by omega)
  obtain rfl : q = k - 1 := by omega
  unfold lessB at h2
  rw [hl] at h2
  cases h2
theorem endOf_any (nm : ByteArray) (bs : Int) (A : Option Addr) (n c : Nat) (gv : Value) (hn : n ≤ 1048576) (h0 : 0 ≤ bs) (h1 : bs ≤ 1000000000) (h2 : gv.oneCell' = true) (w : World) :
    Calls Try.prog 98 #[topV nm bs (.slice A n c) gv] w fun e w' => e = .returned (.int .i64 (bs + n)) ∧ Below w.heap.size w w' := by
  go_enter Try.func98, Try.ntmps98
  go_wp2
  go_ret
  exact ⟨rfl, below_box _ _⟩
theorem l07End_any (nm : ByteArray) (bs : Int) (A : Option Addr) (n c : Nat) (gv : Value) (hn : n ≤ 1048576) (h0 : 0 ≤ bs) (h1 : bs ≤ 1000000000) (h2 : gv.oneCell' = true) (w : World) :
    Calls Try.prog 95 #[topV nm bs (.slice A n c) gv] w fun e w' => e = .returned (.int .i64 (bs + n)) ∧ Below w.heap.size w w' := by
  go_enter Try.func95, Try.ntmps95
  go_wp2
  go_ret
  exact ⟨rfl, below_box _ _⟩
end Go.Proofs.Ytkimieeabmjfgaa

namespace Go.Proofs.Ytkimieeabmjfgaa
open Go.RowKit
set_option linter.unusedVariables false
set_option maxRecDepth 1000000

set_option maxHeartbeats 8000000 in
theorem specTopicRight_any (t : Tpc) (A : Option Addr) (c : Nat) (B : Option Addr) (d : Nat) (w : World) (hf : t.fits) (hA : Strs w w.heap.size A t.held) (hB : Grs w w.heap.size B t.groups) :
    Calls Try.prog 58 #[topV t.name t.base (.slice A t.held.length c) (.slice B t.groups.length d)] w fun e w' => e = .returned (.bool (topB t)) ∧ Below w.heap.size w w' := by
  obtain ⟨f0, f1, f2, f3⟩ := hf
  have hn := hA.1
  have hm := hB.1
  have hn' := hn
  unfold maxLen at hn' hm
  have F0 : Hid (∀ h : ¬ topOK t, topB t = false) := Lib.hid topB_false
  have F1 : Hid (∀ h : topOK t, topB t = true) := Lib.hid topB_true
  have OK : Hid (∀ P : topOK t → Prop, True) := Lib.hid fun _ => trivial
  obtain ⟨nm, bs, H, G⟩ := t
  simp only at f0 f1 f2 f3 hA hB hn hm hn' F0 F1 OK ⊢
  generalize topB ⟨nm, bs, H, G⟩ = R at F0 F1 ⊢
  have hK := Blk.fresh w 29 [.string nm, .int .i64 bs, .slice A H.length c, .slice B G.length d]
  have hb0 := below_box w (.cells #[.string nm, .int .i64 bs, .slice A H.length c, .slice B G.length d] 29)
  simp only [List.toArray] at hK
  rcases Bool.eq_false_or_eq_true (nameB nm) with hN | hN
  rotate_left
  · have NR := specName_b hN f0
    have HR := Lib.hid (F0.out fun h => by have := h.1; rw [hN] at this; cases this)
    go_enter Try.func58, Try.ntmps58
    go_wp2_with (go_at_call 82; refine (NR _).mono ?_; rintro e w' ⟨rfl, rfl⟩)
    go_ret
    exact ⟨by rw [HR.out]; rfl, hb0⟩
  have NR := specName_b hN f0
  rcases Bool.eq_false_or_eq_true (inB bs 0 1000000000) with hI | hI
  rotate_left
  · have IS := is3 hI
    have HR := Lib.hid (F0.out fun h => by have := h.2.1; rw [hI] at this; cases this)
    go_enter Try.func58, Try.ntmps58
    go_wp2_with (first | (go_at_call 82; refine (NR _).mono ?_; rintro e w' ⟨rfl, rfl⟩) | (go_at_call 40; refine (IS _).mono ?_; rintro e w' ⟨rfl, rfl⟩))
    go_ret
    exact ⟨by rw [HR.out]; rfl, hb0⟩
  have IS := is3 hI
  have hbs := inB_true hI
  by_cases h3 : H.length ≤ 20
  rotate_left
  · have HR := Lib.hid (F0.out fun h => h3 h.2.2.1)
    go_enter Try.func58, Try.ntmps58
    go_wp2_with (first | (go_at_call 82; refine (NR _).mono ?_; rintro e w' ⟨rfl, rfl⟩) | (go_at_call 40; refine (IS _).mono ?_; rintro e w' ⟨rfl, rfl⟩))
    go_ret
    exact ⟨by rw [HR.out]; rfl, hb0⟩
  by_cases h4 : G.length ≤ 4
  rotate_left
  · have HR := Lib.hid (F0.out fun h => h4 h.2.2.2.2.1)
    go_enter Try.func58, Try.ntmps58
    go_wp2_with (first | (go_at_call 82; refine (NR _).mono ?_; rintro e w' ⟨rfl, rfl⟩) | (go_at_call 40; refine (IS _).mono ?_; rintro e w' ⟨rfl, rfl⟩))
    go_ret
    exact ⟨by rw [HR.out]; rfl, hb0⟩
  have EN := Lib.hid (l07End_any nm bs A H.length c (.slice B G.length d) (by omega) hbs.1 hbs.2 rfl)
  by_cases h5 : bs + H.length ≤ 1000000000
  rotate_left
  · have HR := Lib.hid (F0.out fun h => h5 h.2.2.2.2.2.1)
    go_enter Try.func58, Try.ntmps58
    go_wp2_with (first | (go_at_call 82; refine (NR _).mono ?_; rintro e w' ⟨rfl, rfl⟩) | (go_at_call 40; refine (IS _).mono ?_; rintro e w' ⟨rfl, rfl⟩) | (go_at_call 95; refine (EN.out _).mono ?_; rintro e w1 ⟨rfl, hb1⟩))
    go_ret
    exact ⟨by rw [HR.out]; rfl, hb0.trans (hb1.mono hb0.size)⟩
  go_enter Try.func58, Try.ntmps58
  go_wp2_with (first | (go_at_call 82; refine (NR _).mono ?_; rintro e w' ⟨rfl, rfl⟩) | (go_at_call 40; refine (IS _).mono ?_; rintro e w' ⟨rfl, rfl⟩) | (go_at_call 95; refine (EN.out _).mono ?_; rintro e w1 ⟨rfl, hb1⟩))
  have hK1 := hK.below hb1 hK.lt
  have hw1 := hb0.trans (hb1.mono hb0.size)
  clear hK hb0 hb1
  go_loopw [3] (fun i wr => ∃ k : Nat, k ≤ H.length ∧ i = .int .i64 k ∧ (∀ j (h : j < H.length), j < k → inB H[j].size 1 40 = true) ∧ Blk wr w.heap.size 29 [.string nm, .int .i64 bs, .slice A H.length c, .slice B G.length d] ∧ Below w.heap.size w wr) (fun i _ => H.length - (intOf i).toNat)
  case atStart => exact ⟨0, by omega, rfl, fun j _ h => by omega, hK1, hw1⟩
  case round =>
    obtain ⟨k, hk, rfl, hok, hK2, hw2⟩ := hrel
    have b2 := hK2.cell (i := 2) rfl
    by_cases hlt : k < H.length
    · obtain ⟨a, rfl, hab, c0⟩ := (hA.below hw2 (Nat.le_refl _)).2 k hlt
      have hlt' : (k : Int) < (H.length : Int) := by omega
      rcases Bool.eq_false_or_eq_true (inB H[k].size 1 40) with hT | hT
      · have TX := l07Text_b hT (f2 _ (List.getElem_mem hlt))
        go_wp2_with (go_at_call 100; refine (TX _).mono ?_; rintro e w' ⟨rfl, rfl⟩)
        refine ⟨⟨k + 1, by omega, by go_num, fun j hj hjk => ?_, hK2, hw2⟩, by simp [intOf]; omega⟩
        by_cases e : j = k
        · subst e; exact hT
        · exact hok j hj (by omega)
      · have TX := l07Text_b hT (f2 _ (List.getElem_mem hlt))
        have HR := Lib.hid (F0.out fun h => by have := h.2.2.2.1 k hlt; rw [hT] at this; cases this)
        go_wp2_with (go_at_call 100; refine (TX _).mono ?_; rintro e w' ⟨rfl, rfl⟩)
        go_ret
        exact ⟨by rw [HR.out]; rfl, hw2⟩
    · obtain rfl : k = H.length := by omega
      have HH := Lib.hid (fun j (h : j < H.length) => hok j h h)
      have b3 := hK2.cell (i := 3) rfl
      clear hok hK1 hw1
      go_wp2
      go_loopw [4, 5] (fun i _ wr => ∃ k : Nat, k ≤ G.length ∧ i = .int .i64 k ∧ (∀ j (h : j < G.length), j < k → grpIn ⟨nm, bs, H, G⟩ j h) ∧ Blk wr w.heap.size 29 [.string nm, .int .i64 bs, .slice A H.length c, .slice B G.length d] ∧ Below w.heap.size w wr) (fun i _ _ => G.length - (intOf i).toNat)
      case atStart => exact ⟨0, by omega, rfl, fun j _ h => by omega, hK2, hw2⟩
      case round =>
        obtain ⟨k, hk, rfl, hok, hK3, hw3⟩ := hrel
        clear b2 b3 hK2 hw2
        have b3 := hK3.cell (i := 3) rfl
        by_cases hlt : k < G.length
        rotate_left
        · obtain rfl : k = G.length := by omega
          have HR := Lib.hid (F1.out ⟨hN, hI, h3, HH.out, h4, h5, fun i h => hok i h h⟩)
          go_wp2
          go_ret
          exact ⟨by rw [HR.out]; rfl, hw3⟩
        obtain ⟨a, rfl, hab, c0, c1⟩ := (hB.below hw3 (Nat.le_refl _)).at k hlt
        have hlt' : (k : Int) < (G.length : Int) := by omega
        have hG := Blk.fresh wr 68 [.string G[k].name, .int .i64 G[k].acked]
        have hK4 := hK3.alloc (.cells #[.string G[k].name, .int .i64 G[k].acked] 68)
        have hw4 := hw3.alloc hw3.size (.cells #[.string G[k].name, .int .i64 G[k].acked] 68)
        have hp : ∀ q, (h : q + 1 = k) → (wr.alloc (.cells #[.string G[k].name, .int .i64 G[k].acked] 68)).cell? (a.add (q * 2)) = some (.string (G[q]'(by omega)).name) := by
          intro q h
          obtain ⟨a', e, _, h2, _⟩ := (hB.below hw4 (Nat.le_refl _)).at q (by omega)
          cases e
          exact h2
        simp only [List.toArray] at hG
        go_wp2
        generalize wr.alloc (.cells #[.string G[k].name, .int .i64 G[k].acked] 68) = w3 at hG hK4 hw4 hp ⊢
        clear c0 c1 b3 hK3
        have n1 : G[k].name.size ≤ maxLen := (f3 _ (List.getElem_mem hlt)).1
        obtain ⟨I, f, hI', g0, gk, gc, ge⟩ := class_grown w3
        have x0 := fun s => kept_cell (gk s) (hG.cell (i := 0) rfl)
        have x1 := fun s => kept_cell (gk s) (hG.cell (i := 1) rfl)
        have y0 := fun s => kept_cell (gk s) (hK4.cell (i := 0) rfl)
        have y1 := fun s => kept_cell (gk s) (hK4.cell (i := 1) rfl)
        have y2 := fun s => kept_cell (gk s) (hK4.cell (i := 2) rfl)
        have y3 := fun s => kept_cell (gk s) (hK4.cell (i := 3) rfl)
        have HW : Hid (∀ W, Below w3.heap.size w3 W → Blk W w.heap.size 29 [.string nm, .int .i64 bs, .slice A H.length c, .slice (some a) G.length d] ∧ Below w.heap.size w W) := Lib.hid fun W h => ⟨hK4.below h hK4.lt, hw4.trans (h.mono hw4.size)⟩
        have HOK := Lib.hid hok
        have HB := Lib.hid (fun h : ¬ grpIn ⟨nm, bs, H, G⟩ k hlt => F0.out fun q => h (q.2.2.2.2.2.2 k hlt))
        clear hok hK4 hG hw4
        rcases Bool.eq_false_or_eq_true (nameB G[k].name) with hN2 | hN2
        rotate_left
        · have NG := Lib.hid (fun W => bl (specName_b hN2 n1 W))
          have HR := Lib.hid (HB.out fun h => by have := h.1; rw [hN2] at this; cases this)
          refine wp_region_kept f (by kernel_rfl) (by kernel_rfl) g0 ?_
          repeat (first
            | go_big_quiet_skip
            | (go_big_quiet_want; go_big_quiet_op; first
              | go_big_quiet_on
              | (apply Exists.intro; refine ⟨fun s => ?_, ?_⟩; (go_at_call 82; (with_reducible refine (NG.out _).mono ?_); rintro e w4 ⟨rfl, hb4⟩; exact ⟨rfl, gc _ _ hb4⟩); go_big_quiet_on)
              | (apply Exists.intro; refine ⟨fun s => ?_, ?_⟩; (go_at_call 95; (with_reducible refine (EN.out _).mono ?_); rintro e w4 ⟨rfl, hb4⟩; exact ⟨rfl, gc _ _ hb4⟩); go_big_quiet_on)
              | (apply Exists.intro; refine ⟨fun s => ?_, ?_⟩; (go_at_call 40; (with_reducible refine (IG.out _).mono ?_); rintro e w4 ⟨rfl, hb4⟩; exact ⟨rfl, gc _ _ hb4⟩); go_big_quiet_on)))
          refine wpQuiet_nil ?_
          intro w5 h5
          have hb5 := ge _ h5
          go_wp2
          go_ret
          exact ⟨by rw [HR.out]; rfl, (HW.out _ hb5).2⟩
        have NG := Lib.hid (fun W => bl (specName_b hN2 n1 W))
        by_cases hk0 : 0 < k
        · obtain ⟨q, hq⟩ : ∃ q, q + 1 = k := ⟨k - 1, by omega⟩
          have p0 := fun s => kept_cell (gk s) (hp q hq)
          have hd : decide ((0 : Int) < (k : Int)) = true := by simp; omega
          have e1 : IntKind.i64.wrap ((k : Int) - 1) = (q : Int) := by rw [IntWalk.i64_in _ (by omega)]; omega
          have e2 : (q : Int) < (G.length : Int) := by omega
          have hql : q < G.length := by omega
          clear hp
          rcases Bool.eq_false_or_eq_true (Op.bytesLess G[q].name.toList G[k].name.toList) with hl | hl
          rotate_left
          · have HR := Lib.hid (HB.out (not_grp_less hq hlt hql hl))
            refine wp_region_kept f (by kernel_rfl) (by kernel_rfl) g0 ?_
            repeat (first
              | go_big_quiet_skip
              | (go_big_quiet_want; go_big_quiet_op; first
                | go_big_quiet_on
                | (apply Exists.intro; refine ⟨fun s => ?_, ?_⟩; (go_at_call 82; (with_reducible refine (NG.out _).mono ?_); rintro e w4 ⟨rfl, hb4⟩; exact ⟨rfl, gc _ _ hb4⟩); go_big_quiet_on)
                | (apply Exists.intro; refine ⟨fun s => ?_, ?_⟩; (go_at_call 95; (with_reducible refine (EN.out _).mono ?_); rintro e w4 ⟨rfl, hb4⟩; exact ⟨rfl, gc _ _ hb4⟩); go_big_quiet_on)
                | (apply Exists.intro; refine ⟨fun s => ?_, ?_⟩; (go_at_call 40; (with_reducible refine (IG.out _).mono ?_); rintro e w4 ⟨rfl, hb4⟩; exact ⟨rfl, gc _ _ hb4⟩); go_big_quiet_on)))
            refine wpQuiet_nil ?_
            intro w5 h5
            have hb5 := ge _ h5
            go_wp2
            go_ret
            exact ⟨by rw [HR.out]; rfl, (HW.out _ hb5).2⟩
          have HL := Lib.hid (grp_less (t := ⟨nm, bs, H, G⟩) hq hlt hql hl)
          rcases Bool.eq_false_or_eq_true (inB G[k].acked bs (bs + H.length)) with hI2 | hI2
          · have IG := Lib.hid (fun W => bl (is3 hI2 W))
            refine wp_region_kept f (by kernel_rfl) (by kernel_rfl) g0 ?_
            repeat (first
              | go_big_quiet_skip
              | (go_big_quiet_want; go_big_quiet_op; first
                | go_big_quiet_on
                | (apply Exists.intro; refine ⟨fun s => ?_, ?_⟩; (go_at_call 82; (with_reducible refine (NG.out _).mono ?_); rintro e w4 ⟨rfl, hb4⟩; exact ⟨rfl, gc _ _ hb4⟩); go_big_quiet_on)
                | (apply Exists.intro; refine ⟨fun s => ?_, ?_⟩; (go_at_call 95; (with_reducible refine (EN.out _).mono ?_); rintro e w4 ⟨rfl, hb4⟩; exact ⟨rfl, gc _ _ hb4⟩); go_big_quiet_on)
                | (apply Exists.intro; refine ⟨fun s => ?_, ?_⟩; (go_at_call 40; (with_reducible refine (IG.out _).mono ?_); rintro e w4 ⟨rfl, hb4⟩; exact ⟨rfl, gc _ _ hb4⟩); go_big_quiet_on)))
            refine wpQuiet_nil ?_
            intro w5 h5
            have hb5 := ge _ h5
            go_wp2
            refine ⟨⟨k + 1, by omega, by go_num, fun j hj hjk => ?_, (HW.out _ hb5).1, (HW.out _ hb5).2⟩, by simp [intOf]; omega⟩
            by_cases e : j = k
            · subst e
              exact ⟨hN2, hI2, HL.out⟩
            · exact HOK.out j hj (by omega)
          · have IG := Lib.hid (fun W => bl (is3 hI2 W))
            have HR := Lib.hid (HB.out fun h => by have := h.2.1; rw [hI2] at this; cases this)
            refine wp_region_kept f (by kernel_rfl) (by kernel_rfl) g0 ?_
            repeat (first
              | go_big_quiet_skip
              | (go_big_quiet_want; go_big_quiet_op; first
                | go_big_quiet_on
                | (apply Exists.intro; refine ⟨fun s => ?_, ?_⟩; (go_at_call 82; (with_reducible refine (NG.out _).mono ?_); rintro e w4 ⟨rfl, hb4⟩; exact ⟨rfl, gc _ _ hb4⟩); go_big_quiet_on)
                | (apply Exists.intro; refine ⟨fun s => ?_, ?_⟩; (go_at_call 95; (with_reducible refine (EN.out _).mono ?_); rintro e w4 ⟨rfl, hb4⟩; exact ⟨rfl, gc _ _ hb4⟩); go_big_quiet_on)
                | (apply Exists.intro; refine ⟨fun s => ?_, ?_⟩; (go_at_call 40; (with_reducible refine (IG.out _).mono ?_); rintro e w4 ⟨rfl, hb4⟩; exact ⟨rfl, gc _ _ hb4⟩); go_big_quiet_on)))
            refine wpQuiet_nil ?_
            intro w5 h5
            have hb5 := ge _ h5
            go_wp2
            go_ret
            exact ⟨by rw [HR.out]; rfl, (HW.out _ hb5).2⟩
        · have hd : decide ((0 : Int) < (k : Int)) = false := by simp; omega
          clear hp
          rcases Bool.eq_false_or_eq_true (inB G[k].acked bs (bs + H.length)) with hI2 | hI2
          · have IG := Lib.hid (fun W => bl (is3 hI2 W))
            refine wp_region_kept f (by kernel_rfl) (by kernel_rfl) g0 ?_
            repeat (first
              | go_big_quiet_skip
              | (go_big_quiet_want; go_big_quiet_op; first
                | go_big_quiet_on
                | (apply Exists.intro; refine ⟨fun s => ?_, ?_⟩; (go_at_call 82; (with_reducible refine (NG.out _).mono ?_); rintro e w4 ⟨rfl, hb4⟩; exact ⟨rfl, gc _ _ hb4⟩); go_big_quiet_on)
                | (apply Exists.intro; refine ⟨fun s => ?_, ?_⟩; (go_at_call 95; (with_reducible refine (EN.out _).mono ?_); rintro e w4 ⟨rfl, hb4⟩; exact ⟨rfl, gc _ _ hb4⟩); go_big_quiet_on)
                | (apply Exists.intro; refine ⟨fun s => ?_, ?_⟩; (go_at_call 40; (with_reducible refine (IG.out _).mono ?_); rintro e w4 ⟨rfl, hb4⟩; exact ⟨rfl, gc _ _ hb4⟩); go_big_quiet_on)))
            refine wpQuiet_nil ?_
            intro w5 h5
            have hb5 := ge _ h5
            go_wp2
            refine ⟨⟨k + 1, by omega, by go_num, fun j hj hjk => ?_, (HW.out _ hb5).1, (HW.out _ hb5).2⟩, by simp [intOf]; omega⟩
            by_cases e : j = k
            · subst e
              exact ⟨hN2, hI2, fun h => absurd h hk0⟩
            · exact HOK.out j hj (by omega)
          · have IG := Lib.hid (fun W => bl (is3 hI2 W))
            have HR := Lib.hid (HB.out fun h => by have := h.2.1; rw [hI2] at this; cases this)
            refine wp_region_kept f (by kernel_rfl) (by kernel_rfl) g0 ?_
            repeat (first
              | go_big_quiet_skip
              | (go_big_quiet_want; go_big_quiet_op; first
                | go_big_quiet_on
                | (apply Exists.intro; refine ⟨fun s => ?_, ?_⟩; (go_at_call 82; (with_reducible refine (NG.out _).mono ?_); rintro e w4 ⟨rfl, hb4⟩; exact ⟨rfl, gc _ _ hb4⟩); go_big_quiet_on)
                | (apply Exists.intro; refine ⟨fun s => ?_, ?_⟩; (go_at_call 95; (with_reducible refine (EN.out _).mono ?_); rintro e w4 ⟨rfl, hb4⟩; exact ⟨rfl, gc _ _ hb4⟩); go_big_quiet_on)
                | (apply Exists.intro; refine ⟨fun s => ?_, ?_⟩; (go_at_call 40; (with_reducible refine (IG.out _).mono ?_); rintro e w4 ⟨rfl, hb4⟩; exact ⟨rfl, gc _ _ hb4⟩); go_big_quiet_on)))
            refine wpQuiet_nil ?_
            intro w5 h5
            have hb5 := ge _ h5
            go_wp2
            go_ret
            exact ⟨by rw [HR.out]; rfl, (HW.out _ hb5).2⟩
end Go.Proofs.Ytkimieeabmjfgaa
