/- What the method run of topicWork leaves. Rows that are read stay as they are while the source draws. What the specification answers of topics: rows of its own, with their room. spec.TopicPublish: its answer is its own. -/
import Derived.Test.YtjnbhppnchmeoaaTpRTW
import Derived.Test.YtjnbhppnchmeoaaTpFtW
import Derived.Test.YtjnbhppnchmeoaaTpOpDW
import Derived.BigQuiet
import Derived.Test.YtjnbhppnchmeoaaIs3W
import Derived.Test.YtjnbhppnchmeoaaDrawW
import Derived.Test.YtjnbhppnchmeoaaTpPubSW
namespace Go.Proofs.Ytjnbhppnchmeoaa
open Go.RowKit Go.Deep
set_option linter.unusedVariables false
set_option maxRecDepth 1000000
/-- What run answers: rows made from lo on; blocks below lo are as they were. -/
def RunO (lo : Nat) (W w' : World) (e : Ending) (R : Ans) : Prop :=
  ∃ A a B b T x, e = .returned (outV R.o.name R.o.base (.slice A R.o.held.length a) (.slice B R.o.groups.length b) (.slice T R.texts.length x) R.n R.code) ∧ Sl w' lo w'.heap.size 9 A (R.o.held.map Value.string) ∧ Sl w' lo w'.heap.size 94 B (gflat R.o.groups) ∧ Sl w' lo w'.heap.size 9 T (R.texts.map Value.string) ∧ Apart A T ∧ Cap A R.o.held.length a ∧ Cap B R.o.groups.length b ∧ Below lo W w'
/-- Answers that lay there lie there still. -/
def Kp (w W : World) (p : Nat) : Prop := ∀ g cs, g ≠ p → Blk w g 30 cs → Blk W g 30 cs
theorem Kp.refl (w : World) (p : Nat) : Kp w w p := fun g cs _ h => h
theorem Kp.alloc {w W : World} {p : Nat} (h : Kp w W p) (o : Obj) : Kp w (W.alloc o) p := fun g cs hg hb => (h g cs hg hb).alloc o
theorem Kp.below {w W W' : World} {p : Nat} (h : Kp w W p) (hb : Below W.heap.size W W') : Kp w W' p := fun g cs hg hk => (h g cs hg hk).below hb (h g cs hg hk).lt
theorem Kp.put {w W : World} {p : Nat} (h : Kp w W p) (q : Addr) (hq : q.block = p ∨ w.heap.size ≤ q.block) (v : Value) : Kp w (W.setCell q v) p := fun g cs hg hk => (h g cs hg hk).far (by have := hk.lt; rcases hq with hq | hq <;> omega) v
theorem Kp.then {w W W' : World} {p : Nat} (h : Kp w W p) (hk : ∀ g cs, g ≠ p → Blk W g 30 cs → Blk W' g 30 cs) : Kp w W' p := fun g cs hg hb => hk g cs hg (h g cs hg hb)
theorem RunO.ill {lo : Nat} {W w' : World} {c : Int} (h : Below lo W w') : RunO lo W w' (.returned (illV c)) (ill c) :=
  ⟨none, 0, none, 0, none, 0, rfl, .inl rfl, .inl rfl, .inl rfl, (fun a b h => by cases h), cap_nil, cap_nil, h⟩
theorem Sl.off {w : World} {lo hi g : Nat} {t t' : TypeId} {A : Option Addr} {xs cs : List Value} (h : Sl w lo hi t A xs) (hB : Blk w g t' cs) (ht : t ≠ t') (i : Nat) (v : Value) : Sl (w.setCell ⟨g, i, none⟩ v) lo hi t A xs := by
  rcases h with h | ⟨g', off, ds, h1, h2, h3, h4⟩
  · exact .inl h
  · refine .inr ⟨g', off, ds, h1, h2, h3.far (fun e => ?_) v, h4⟩
    simp only at e
    subst e
    unfold Blk at h3 hB
    rw [h3] at hB
    injection hB with hB
    injection hB with _ h5 _
    exact ht h5
theorem pub_out {w w6 w9 : World} {on : ByteArray} {ob n co : Int} {oH N : List ByteArray} {oG : List Grp} {A1 B1 T1 : Option Addr} {a1 b1 x1 : Nat} (hsz : w9.heap.size = w6.heap.size) (rA : Sl w9 w.heap.size w6.heap.size 9 A1 (oH.map Value.string)) (rB : Sl w9 w.heap.size w6.heap.size 94 B1 (gflat oG)) (rT : Sl w9 w.heap.size w6.heap.size 9 T1 (N.map Value.string)) (hap : Apart A1 T1) (cA : Cap A1 oH.length a1) (cB : Cap B1 oG.length b1) (hb : Below w.heap.size w w9) :
    ImO w w9 (.returned (outV on ob (.slice A1 oH.length a1) (.slice B1 oG.length b1) (.slice T1 N.length x1) n co)) ⟨⟨on, ob, oH, oG⟩, N, n, co⟩ :=
  ⟨A1, a1, B1, b1, T1, x1, rfl, by rw [hsz]; exact rA, by rw [hsz]; exact rB, by rw [hsz]; exact rT, hap, cA, cB, hb⟩
/-- All that lay in w lies there still, but for block p. -/
structure Kept (w W : World) (p : Nat) : Prop where
  size : w.heap.size ≤ W.heap.size
  at_ : ∀ g, g < w.heap.size → g ≠ p → W.heap[g]? = w.heap[g]?
theorem Kept.refl (w : World) (p : Nat) : Kept w w p := ⟨Nat.le_refl _, fun _ _ _ => rfl⟩
theorem Kept.below {w W W' : World} {p : Nat} (h : Kept w W p) (hb : Below W.heap.size W W') : Kept w W' p := ⟨Nat.le_trans h.size hb.size, fun g hg hp => (hb.block g (Nat.lt_of_lt_of_le hg h.size)).trans (h.at_ g hg hp)⟩
theorem Kept.alloc {w W : World} {p : Nat} (h : Kept w W p) (o : Obj) : Kept w (W.alloc o) p := h.below ((Below.refl _ W).alloc (Nat.le_refl _) o)
theorem Kept.put {w W : World} {p : Nat} (h : Kept w W p) (q : Addr) (hq : q.block = p ∨ w.heap.size ≤ q.block) (v : Value) : Kept w (W.setCell q v) p :=
  ⟨by have := h.size; simpa [World.setCell] using this, fun g hg hp => (Below.heap_setCell W q v g (by rcases hq with hq | hq <;> omega)).trans (h.at_ g hg hp)⟩
theorem Kept.blk {w W : World} {p g : Nat} {t : TypeId} {cs : List Value} (h : Kept w W p) (hb : Blk w g t cs) (hp : g ≠ p) : Blk W g t cs := (h.at_ g hb.lt hp).trans hb
/-- What run answers. -/
noncomputable def runR (t : Tpc) (r : Bool) (R : Ans) : Ans := if (topB t && r) = false then ill 1 else R
theorem run_out {lo hi : Nat} {w w9 : World} {on : ByteArray} {ob rn : Int} {oH N : List ByteArray} {oG : List Grp} {A9 B9 T9 : Option Addr} {a9 b9 x9 : Nat} {R : Ans} (h : R = ⟨⟨on, ob, oH, oG⟩, N, rn, 0⟩) (hsz : hi ≤ w9.heap.size) (rA : Sl w9 lo hi 9 A9 (oH.map Value.string)) (rB : Sl w9 lo hi 94 B9 (gflat oG)) (rT : Sl w9 lo hi 9 T9 (N.map Value.string)) (hap : Apart A9 T9) (cA : Cap A9 oH.length a9) (cB : Cap B9 oG.length b9) (hb : Below lo w w9) :
    RunO lo w w9 (.returned (outV on ob (.slice A9 oH.length a9) (.slice B9 oG.length b9) (.slice T9 N.length x9) rn 0)) R := by
  subst h
  exact ⟨A9, a9, B9, b9, T9, x9, rfl, rA.wide (Nat.le_refl _) hsz, rB.wide (Nat.le_refl _) hsz, rT.wide (Nat.le_refl _) hsz, hap, cA, cB, hb⟩
end Go.Proofs.Ytjnbhppnchmeoaa

namespace Go.Proofs.Ytjnbhppnchmeoaa
open Go.RowKit
set_option linter.unusedVariables false
set_option maxRecDepth 1000000

/-- A string lies nowhere in the source. -/
theorem Drw.no_string {w : World} {B g : Nat} {a : Addr} {s : ByteArray} (h : Drw w B g) (hc : w.cell? a = some (.string s)) : a.block ≠ g := by
  obtain ⟨A, n, c, ix, mix, size, h1, _⟩ := h
  intro e
  have h3 : w.heap[g]? = some (.cells #[.slice A n c, .int .i64 ix, .int .u64 mix, .int .i64 size] 122 (0, 0)) := h1
  unfold World.cell? at hc
  rw [e, h3] at hc
  simp only at hc
  split at hc
  · cases hc
  · rcases ho : a.off with _ | _ | _ | _ | k
    all_goals
      rw [ho] at hc
      simp at hc
theorem grown_ne {w w' : World} {g k : Nat} (hg : w.grownBy w' (some g)) (hk : k < w.heap.size) (hne : k ≠ g) : w'.heap[k]? = w.heap[k]? := hg.block k hk (fun e => hne (Option.some.inj e))
theorem Strs.draw {w w' : World} {B g : Nat} {A : Option Addr} {L : List ByteArray} (h : Strs w w.heap.size A L) (hd : Drw w B g) (hg : w.grownBy w' (some g)) : Strs w' w'.heap.size A L :=
  ⟨h.1, fun i hi => by
    obtain ⟨a, e, h1, h2⟩ := h.2 i hi
    exact ⟨a, e, Nat.lt_of_lt_of_le h1 hg.size, by rw [World.cell?_of_block (a := a.add _) (grown_ne hg (by rw [add_blk]; exact h1) (hd.no_string h2))]; exact h2⟩⟩
theorem Grs.draw {w w' : World} {B g : Nat} {A : Option Addr} {L : List Grp} (h : Grs w w.heap.size A L) (hd : Drw w B g) (hg : w.grownBy w' (some g)) : Grs w' w'.heap.size A L :=
  ⟨h.1, fun i hi => by
    obtain ⟨a, e, h1, h2, h3⟩ := h.2 i hi
    have hne := hd.no_string h2
    rw [add_blk] at hne
    refine ⟨a, e, Nat.lt_of_lt_of_le h1 hg.size, ?_, ?_⟩
    · rw [World.cell?_of_block (a := a.add _) (grown_ne hg (by rw [add_blk]; exact h1) (by rw [add_blk]; exact hne))]; exact h2
    · rw [World.cell?_of_block (a := a.add _) (grown_ne hg (by rw [add_blk]; exact h1) (by rw [add_blk]; exact hne))]; exact h3⟩
end Go.Proofs.Ytjnbhppnchmeoaa

namespace Go.Proofs.Ytjnbhppnchmeoaa
open Go.RowKit
set_option linter.unusedVariables false
set_option maxRecDepth 1000000

/-- A row in block lo or behind it, with its room. -/
def Rx (w : World) (lo : Nat) (e : TypeId) (size : Nat) (A : Option Addr) (n c : Nat) (xs : List Value) : Prop :=
  xs.length = n * size ∧ n ≤ c ∧ c ≤ maxLen ∧ ((A = none ∧ c = 0) ∨ ∃ g off cs, A = some ⟨g, off, none⟩ ∧ lo ≤ g ∧ Blk w g e cs ∧ off + c * size ≤ cs.length ∧ ∀ j v, xs[j]? = some v → cs[off + j]? = some v)
section
variable {w w' : World} {lo size n c : Nat} {e : TypeId} {A : Option Addr} {xs : List Value}
theorem Rx.low {lo' : Nat} (h : Rx w lo e size A n c xs) (hl : lo' ≤ lo) : Rx w lo' e size A n c xs := by
  obtain ⟨h1, h2, h3, h4⟩ := h
  refine ⟨h1, h2, h3, ?_⟩
  rcases h4 with h4 | ⟨g, off, cs, k1, k2, k3⟩
  · exact .inl h4
  · exact .inr ⟨g, off, cs, k1, Nat.le_trans hl k2, k3⟩
theorem Rx.keep (h : Rx w lo e size A n c xs) (hk : ∀ g cs, lo ≤ g → Blk w g e cs → Blk w' g e cs) : Rx w' lo e size A n c xs := by
  obtain ⟨h1, h2, h3, h4⟩ := h
  refine ⟨h1, h2, h3, ?_⟩
  rcases h4 with h4 | ⟨g, off, cs, k1, k2, k3, k4⟩
  · exact .inl h4
  · exact .inr ⟨g, off, cs, k1, k2, hk g cs k2 k3, k4⟩
theorem Rx.below (h : Rx w lo e size A n c xs) (hb : Below w.heap.size w w') : Rx w' lo e size A n c xs := h.keep fun g cs _ hB => hB.below hb hB.lt
theorem blk_diff {g g' : Nat} {t t' : TypeId} {cs cs' : List Value} (h : Blk w g t cs) (h' : Blk w g' t' cs') (ht : t ≠ t') : g ≠ g' := by
  intro e
  subst e
  unfold Blk at h h'
  rw [h] at h'
  injection h' with h'
  injection h' with _ h2
  exact ht h2
theorem Rx.off {g : Nat} {t' : TypeId} {cs : List Value} (h : Rx w lo e size A n c xs) (hB : Blk w g t' cs) (ht : e ≠ t') (i : Nat) (v : Value) : Rx (w.setCell ⟨g, i, none⟩ v) lo e size A n c xs :=
  h.keep fun g' cs' _ hB' => hB'.far (blk_diff hB' hB ht) v
theorem Rx.draw {B g : Nat} (h : Rx w lo e size A n c xs) (hd : Drw w B g) (hg : w.grownBy w' (some g)) (ht : e ≠ 122) : Rx w' lo e size A n c xs :=
  h.keep fun g' cs' _ hB' => by
    obtain ⟨A0, n0, c0, ix, mix, sz, h1, _⟩ := hd
    exact hB'.grown hg (fun e => blk_diff hB' h1 ht (Option.some.inj e))
theorem Rx.cap (h : Rx w lo e size A n c xs) : Cap A n c := ⟨fun hn => by
    rcases h.2.2.2 with ⟨_, h0⟩ | ⟨g, off, cs, k1, _⟩
    · exact h0
    · rw [hn] at k1; exact absurd k1 (by simp), h.2.1, h.2.2.1⟩
theorem Rx.sl (h : Rx w lo e size A n c xs) : Sl w lo w.heap.size e A xs := by
  rcases h.2.2.2 with ⟨_, h0⟩ | ⟨g, off, cs, k1, k2, k3, k4, k5⟩
  · refine .inl (List.eq_nil_of_length_eq_zero ?_)
    have h2 := h.2.1
    have : n = 0 := by omega
    rw [h.1, this, Nat.zero_mul]
  · exact .inr ⟨g, off, cs, k1, ⟨k2, k3.lt⟩, k3, k5⟩
theorem rx_own {base : Nat} (h : w.ownsRow base e size (.slice A n c) n xs) (hl : lo ≤ base) : Rx w lo e size A n c xs := by
  obtain ⟨h1, h2⟩ := h
  rcases h2 with ⟨hv, hz⟩ | ⟨g, cap, cur, hv, hb, hg, hn, hm, hs, ht⟩
  · cases hv
    exact ⟨h1, by omega, by simp [maxLen], .inl ⟨rfl, rfl⟩⟩
  · cases hv
    refine ⟨h1, hn, hm, .inr ⟨g, 0, cur.toList, rfl, Nat.le_trans hl hb, by unfold Blk; simpa using hg, by simp; omega, fun j v hj => ?_⟩⟩
    rw [← ht] at hj
    rw [Nat.zero_add]
    have hjl : j < n * size := by
      by_cases hjl : j < n * size
      · exact hjl
      · rw [List.getElem?_eq_none (by rw [List.length_take]; omega)] at hj; cases hj
    rw [List.getElem?_take_of_lt hjl] at hj
    exact hj
theorem rx_drop {base m : Nat} (h : w.ownsRow base e 1 (.slice A n c) n xs) (hl : lo ≤ base) (hm : m ≤ n) : Rx w lo e 1 (if c = m then A else A.map (fun x => x.add m)) (n - m) (c - m) (xs.drop m) := by
  have h0 := rx_own h hl
  obtain ⟨h1, h2, h3, h4⟩ := h0
  refine ⟨by rw [List.length_drop, h1]; omega, by omega, by omega, ?_⟩
  rcases h4 with ⟨ha, hc⟩ | ⟨g, off, cs, k1, k2, k3, k4, k5⟩
  · subst ha
    exact .inl ⟨by split <;> rfl, by omega⟩
  · subst k1
    by_cases hcm : c = m
    · rw [if_pos hcm]
      exact .inr ⟨g, off, cs, rfl, k2, k3, by omega, fun j v hj => by
        rw [List.getElem?_drop] at hj
        have : xs.length = m := by omega
        rw [List.getElem?_eq_none (by omega)] at hj
        cases hj⟩
    · rw [if_neg hcm]
      refine .inr ⟨g, off + m, cs, ?_, k2, k3, by omega, fun j v hj => ?_⟩
      · simp [Addr.add]
      · rw [List.getElem?_drop] at hj
        have := k5 _ _ hj
        rw [show off + m + j = off + (m + j) by omega]
        exact this
end
theorem Rx.strs {w : World} {lo c : Nat} {A : Option Addr} {L : List ByteArray} (h : Rx w lo 9 1 A L.length c (L.map Value.string)) : Strs w w.heap.size A L := h.sl.strs (Nat.le_trans h.2.1 h.2.2.1)
/-- Groups of one's own. -/
def Gx (w : World) (lo : Nat) (B : Option Addr) (b : Nat) (G : List Grp) : Prop := w.ownsRow lo 94 2 (.slice B G.length b) G.length (gflat G)
section
variable {w w' : World} {lo b : Nat} {B : Option Addr} {G : List Grp}
theorem Gx.grs (h : Gx w lo B b G) : Grs w w.heap.size B G := OwnG.grs (base := lo) (c := b) h
theorem Gx.cap (h : Gx w lo B b G) : Cap B G.length b := Cap.own h
theorem Gx.below (h : Gx w lo B b G) (hb : Below w.heap.size w w') : Gx w' lo B b G := row_below h hb (Nat.le_refl _)
theorem Gx.low {lo' : Nat} (h : Gx w lo B b G) (hl : lo' ≤ lo) : Gx w lo' B b G := own_base h hl
theorem gx_ne {g : Nat} {t' : TypeId} {cs : List Value} (h : Gx w lo B b G) (hB : Blk w g t' cs) (ht : 94 ≠ t') : (Value.slice B G.length b).ownBlock ≠ some g := own_not h hB ht
theorem Gx.off {g : Nat} {t' : TypeId} {cs : List Value} (h : Gx w lo B b G) (hB : Blk w g t' cs) (ht : 94 ≠ t') (i : Nat) (v : Value) : Gx (w.setCell ⟨g, i, none⟩ v) lo B b G := row_off h (gx_ne h hB ht) v
theorem Gx.draw {D g : Nat} (h : Gx w lo B b G) (hd : Drw w D g) (hg : w.grownBy w' (some g)) : Gx w' lo B b G := by
  obtain ⟨A0, n0, c0, ix, mix, sz, h1, _⟩ := hd
  exact h.kept hg (.inr (gx_ne h h1 (by decide)))
end
/-- What the specification answers. -/
def SpX (W w' : World) (e : Ending) (R : Ans) : Prop :=
  ∃ A a B b T x, e = .returned (outV R.o.name R.o.base (.slice A R.o.held.length a) (.slice B R.o.groups.length b) (.slice T R.texts.length x) R.n R.code) ∧ Rx w' W.heap.size 9 1 A R.o.held.length a (R.o.held.map Value.string) ∧ Gx w' W.heap.size B b R.o.groups ∧ Below W.heap.size W w'
theorem rx_nil (w : World) (lo : Nat) (e : TypeId) (size : Nat) : Rx w lo e size none 0 0 [] := ⟨by simp, Nat.le_refl _, by simp [maxLen], .inl ⟨rfl, rfl⟩⟩
theorem gx_nil (w : World) (lo : Nat) : Gx w lo none 0 [] := World.ownsRow_nil _ _ _ _
theorem SpX.ill {W w' : World} {c : Int} (h : Below W.heap.size W w') : SpX W w' (.returned (illV c)) (ill c) :=
  ⟨none, 0, none, 0, none, 0, rfl, rx_nil _ _ _ _, gx_nil _ _, h⟩
end Go.Proofs.Ytjnbhppnchmeoaa

namespace Go.Proofs.Ytjnbhppnchmeoaa
open Go.RowKit
set_option linter.unusedVariables false
set_option maxRecDepth 1000000

theorem pub_endX {w w1 w9 : World} (nm s : ByteArray) {bs : Int} {H : List ByteArray} {G : List Grp} {A B : Option Addr} {a b : Nat} {R : Ans} (h : R = ⟨⟨nm, bs, H ++ [s], G⟩, [], bs + H.length, 0⟩) (hS : w9.ownsRow w1.heap.size 9 1 (.slice A (H.length + 1) a) (H ++ [s]).length ((H ++ [s]).map Value.string)) (hG : OwnG w9 w1.heap.size (.slice B G.length b) G) (hb : Below w.heap.size w w9) (hzz : w.heap.size ≤ w1.heap.size) :
    SpX w w9 (.returned (outV nm bs (.slice A (H.length + 1) a) (.slice B G.length b) (.slice none 0 0) (bs + H.length) 0)) R := by
  subst h
  have e : (H ++ [s]).length = H.length + 1 := by simp
  refine ⟨A, a, B, b, none, 0, by rw [e]; rfl, rx_own (by rw [e] at hS ⊢; exact hS) hzz, Gx.low hG hzz, hb⟩
set_option maxHeartbeats 8000000 in
theorem specTopicPublish_anyX (t : Tpc) (s : ByteArray) (A : Option Addr) (c : Nat) (B : Option Addr) (d : Nat) (w : World) (hf : t.fits) (hs : s.size ≤ maxLen) (hA : Strs w w.heap.size A t.held) (hB : Grs w w.heap.size B t.groups) (hc : Cap A t.held.length c) (hd : Cap B t.groups.length d) :
    Calls Try.prog 14 #[topV t.name t.base (.slice A t.held.length c) (.slice B t.groups.length d), .string s] w fun e w' => SpX w w' e (pubT t s) := by
  have TR := Lib.hid (fun W (h : Below w.heap.size w W) => specTopicRight_any t A c B d W hf (hA.on h) (hB.on h))
  have HR0 : Hid (pubT t s = _) := Lib.hid (pubT.eq_def t s)
  have HO := Lib.hid (topB_iff (t := t))
  generalize pubT t s = R at HR0 ⊢
  obtain ⟨nm, bs, H, G⟩ := t
  have hs' := hs
  unfold maxLen at hs'
  simp only at TR HR0 hA hB hc hd ⊢
  have K := (Blk.fresh w 26 [.string nm, .int .i64 bs, .slice A H.length c, .slice B G.length d]).alloc (.cells #[.string ⟨#[]⟩, .int .i64 0, .slice none 0 0, .slice none 0 0, .slice none 0 0, .int .i64 0, .int .i64 0] 30)
  have O := Blk.fresh (w.alloc (.cells #[.string nm, .int .i64 bs, .slice A H.length c, .slice B G.length d] 26)) 30 [.string ⟨#[]⟩, .int .i64 0, .slice none 0 0, .slice none 0 0, .slice none 0 0, .int .i64 0, .int .i64 0]
  have hb : Below w.heap.size w ((w.alloc (.cells #[.string nm, .int .i64 bs, .slice A H.length c, .slice B G.length d] 26)).alloc (.cells #[.string ⟨#[]⟩, .int .i64 0, .slice none 0 0, .slice none 0 0, .slice none 0 0, .int .i64 0, .int .i64 0] 30)) := ((Below.refl _ _).alloc (Nat.le_refl _) _).alloc (by simp) _
  simp only [World.size_alloc] at K O
  replace K : Blk ((w.alloc (.cells #[.string nm, .int .i64 bs, .slice A H.length c, .slice B G.length d] 26)).alloc (.cells #[.string ⟨#[]⟩, .int .i64 0, .slice none 0 0, .slice none 0 0, .slice none 0 0, .int .i64 0, .int .i64 0] 30)) w.heap.size 26 [.string nm, .int .i64 bs, .slice A H.length c, .slice B G.length d] := K
  replace O : Blk ((w.alloc (.cells #[.string nm, .int .i64 bs, .slice A H.length c, .slice B G.length d] 26)).alloc (.cells #[.string ⟨#[]⟩, .int .i64 0, .slice none 0 0, .slice none 0 0, .slice none 0 0, .int .i64 0, .int .i64 0] 30)) (w.heap.size + 1) 30 [.string ⟨#[]⟩, .int .i64 0, .slice none 0 0, .slice none 0 0, .slice none 0 0, .int .i64 0, .int .i64 0] := O
  by_cases h1 : 20000 < s.size
  · have h1' : (20000 : Int) < (s.size : Int) := by omega
    have HR : Hid (R = ill 2) := Lib.hid (by rw [HR0.out, if_pos h1])
    go_enter Try.func14, Try.ntmps14
    go_wp2_with (fail)
    generalize (w.alloc (.cells #[.string nm, .int .i64 bs, .slice A H.length c, .slice B G.length d] 26)).alloc (.cells #[.string ⟨#[]⟩, .int .i64 0, .slice none 0 0, .slice none 0 0, .slice none 0 0, .int .i64 0, .int .i64 0] 30) = v0 at K O hb ⊢
    refine (l07Ill_any 2 _).mono ?_
    rintro e w1 ⟨rfl, hb1⟩
    replace K := K.below hb1 K.lt
    replace O := O.below hb1 O.lt
    replace hb := hb.trans (hb1.mono hb.size)
    have qc0 := O.cell (i := 0) rfl
    have qf0 := O.froz 0
    have qc1 := O.cell (i := 1) rfl
    have qf1 := O.froz 1
    have qc2 := O.cell (i := 2) rfl
    have qf2 := O.froz 2
    have qc3 := O.cell (i := 3) rfl
    have qf3 := O.froz 3
    have qc4 := O.cell (i := 4) rfl
    have qf4 := O.froz 4
    have qc5 := O.cell (i := 5) rfl
    have qf5 := O.froz 5
    have qc6 := O.cell (i := 6) rfl
    have qf6 := O.froz 6
    go_wp2
    clear qc0 qf0 qc1 qf1 qc2 qf2 qc3 qf3 qc4 qf4 qc5 qf5 qc6 qf6
    have O9 := (((((((O.put 0 (.string ⟨#[]⟩)).put 1 (.int .i64 0)).put 2 (.slice none 0 0)).put 3 (.slice none 0 0)).put 4 (.slice none 0 0)).put 5 (.int .i64 0)).put 6 (.int .i64 2))
    have hb9 := (((((((hb.setCell (p := ⟨w.heap.size + 1, 0, none⟩) (by simp <;> omega) (.string ⟨#[]⟩)).setCell (p := ⟨w.heap.size + 1, 1, none⟩) (by simp <;> omega) (.int .i64 0)).setCell (p := ⟨w.heap.size + 1, 2, none⟩) (by simp <;> omega) (.slice none 0 0)).setCell (p := ⟨w.heap.size + 1, 3, none⟩) (by simp <;> omega) (.slice none 0 0)).setCell (p := ⟨w.heap.size + 1, 4, none⟩) (by simp <;> omega) (.slice none 0 0)).setCell (p := ⟨w.heap.size + 1, 5, none⟩) (by simp <;> omega) (.int .i64 0)).setCell (p := ⟨w.heap.size + 1, 6, none⟩) (by simp <;> omega) (.int .i64 2))
    simp only [List.set_cons_succ, List.set_cons_zero] at O9
    generalize ((((((w1.setCell ⟨w.heap.size + 1, 0, none⟩ (.string ⟨#[]⟩)).setCell ⟨w.heap.size + 1, 1, none⟩ (.int .i64 0)).setCell ⟨w.heap.size + 1, 2, none⟩ (.slice none 0 0)).setCell ⟨w.heap.size + 1, 3, none⟩ (.slice none 0 0)).setCell ⟨w.heap.size + 1, 4, none⟩ (.slice none 0 0)).setCell ⟨w.heap.size + 1, 5, none⟩ (.int .i64 0)).setCell ⟨w.heap.size + 1, 6, none⟩ (.int .i64 2) = w9 at O9 hb9  ⊢
    have oc0 := O9.cell (i := 0) rfl
    have oc1 := O9.cell (i := 1) rfl
    have oc2 := O9.cell (i := 2) rfl
    have oc3 := O9.cell (i := 3) rfl
    have oc4 := O9.cell (i := 4) rfl
    have oc5 := O9.cell (i := 5) rfl
    have oc6 := O9.cell (i := 6) rfl
    exact bodyPost_ret (v := .agg #[.string ⟨#[]⟩, .int .i64 0, .slice none 0 0, .slice none 0 0, .slice none 0 0, .int .i64 0, .int .i64 2]) (by simp [results, Try.results14, go_sem, oc0, oc1, oc2, oc3, oc4, oc5, oc6]) rfl (by rw [HR.out]; exact SpX.ill hb9)
  have h1' : ¬ (20000 : Int) < (s.size : Int) := by omega
  rcases Bool.eq_false_or_eq_true (topB ⟨nm, bs, H, G⟩) with hT | hT
  rotate_left
  · have HR : Hid (R = ill 1) := Lib.hid (by rw [HR0.out, if_neg h1, if_pos (by rw [hT]; rfl)])
    rw [hT] at TR
    go_enter Try.func14, Try.ntmps14
    go_wp2_with (fail)
    generalize (w.alloc (.cells #[.string nm, .int .i64 bs, .slice A H.length c, .slice B G.length d] 26)).alloc (.cells #[.string ⟨#[]⟩, .int .i64 0, .slice none 0 0, .slice none 0 0, .slice none 0 0, .int .i64 0, .int .i64 0] 30) = v0 at K O hb ⊢
    refine (TR.out _ hb).mono ?_
    rintro e w0 ⟨rfl, hb0⟩
    replace K := K.below hb0 K.lt
    replace O := O.below hb0 O.lt
    replace hb := hb.trans (hb0.mono hb.size)
    go_wp2_with (fail)
    refine (l07Ill_any 1 _).mono ?_
    rintro e w1 ⟨rfl, hb1⟩
    replace K := K.below hb1 K.lt
    replace O := O.below hb1 O.lt
    replace hb := hb.trans (hb1.mono hb.size)
    have qc0 := O.cell (i := 0) rfl
    have qf0 := O.froz 0
    have qc1 := O.cell (i := 1) rfl
    have qf1 := O.froz 1
    have qc2 := O.cell (i := 2) rfl
    have qf2 := O.froz 2
    have qc3 := O.cell (i := 3) rfl
    have qf3 := O.froz 3
    have qc4 := O.cell (i := 4) rfl
    have qf4 := O.froz 4
    have qc5 := O.cell (i := 5) rfl
    have qf5 := O.froz 5
    have qc6 := O.cell (i := 6) rfl
    have qf6 := O.froz 6
    go_wp2
    clear qc0 qf0 qc1 qf1 qc2 qf2 qc3 qf3 qc4 qf4 qc5 qf5 qc6 qf6
    have O9 := (((((((O.put 0 (.string ⟨#[]⟩)).put 1 (.int .i64 0)).put 2 (.slice none 0 0)).put 3 (.slice none 0 0)).put 4 (.slice none 0 0)).put 5 (.int .i64 0)).put 6 (.int .i64 1))
    have hb9 := (((((((hb.setCell (p := ⟨w.heap.size + 1, 0, none⟩) (by simp <;> omega) (.string ⟨#[]⟩)).setCell (p := ⟨w.heap.size + 1, 1, none⟩) (by simp <;> omega) (.int .i64 0)).setCell (p := ⟨w.heap.size + 1, 2, none⟩) (by simp <;> omega) (.slice none 0 0)).setCell (p := ⟨w.heap.size + 1, 3, none⟩) (by simp <;> omega) (.slice none 0 0)).setCell (p := ⟨w.heap.size + 1, 4, none⟩) (by simp <;> omega) (.slice none 0 0)).setCell (p := ⟨w.heap.size + 1, 5, none⟩) (by simp <;> omega) (.int .i64 0)).setCell (p := ⟨w.heap.size + 1, 6, none⟩) (by simp <;> omega) (.int .i64 1))
    simp only [List.set_cons_succ, List.set_cons_zero] at O9
    generalize ((((((w1.setCell ⟨w.heap.size + 1, 0, none⟩ (.string ⟨#[]⟩)).setCell ⟨w.heap.size + 1, 1, none⟩ (.int .i64 0)).setCell ⟨w.heap.size + 1, 2, none⟩ (.slice none 0 0)).setCell ⟨w.heap.size + 1, 3, none⟩ (.slice none 0 0)).setCell ⟨w.heap.size + 1, 4, none⟩ (.slice none 0 0)).setCell ⟨w.heap.size + 1, 5, none⟩ (.int .i64 0)).setCell ⟨w.heap.size + 1, 6, none⟩ (.int .i64 1) = w9 at O9 hb9  ⊢
    have oc0 := O9.cell (i := 0) rfl
    have oc1 := O9.cell (i := 1) rfl
    have oc2 := O9.cell (i := 2) rfl
    have oc3 := O9.cell (i := 3) rfl
    have oc4 := O9.cell (i := 4) rfl
    have oc5 := O9.cell (i := 5) rfl
    have oc6 := O9.cell (i := 6) rfl
    exact bodyPost_ret (v := .agg #[.string ⟨#[]⟩, .int .i64 0, .slice none 0 0, .slice none 0 0, .slice none 0 0, .int .i64 0, .int .i64 1]) (by simp [results, Try.results14, go_sem, oc0, oc1, oc2, oc3, oc4, oc5, oc6]) rfl (by rw [HR.out]; exact SpX.ill hb9)
  rw [hT] at TR
  have hO := HO.out.1 hT
  have hbs := inB_true hO.2.1
  have hl : H.length ≤ 20 := hO.2.2.1
  have hg4 : G.length ≤ 4 := hO.2.2.2.2.1
  clear HO hO
  rcases Bool.eq_false_or_eq_true (inB s.size 1 40) with hM | hM
  rotate_left
  · have HR : Hid (R = ill 1) := Lib.hid (by rw [HR0.out, if_neg h1, if_pos (by rw [hM, Bool.and_false])])
    have TX := l07Text_b hM hs
    go_enter Try.func14, Try.ntmps14
    go_wp2_with (fail)
    generalize (w.alloc (.cells #[.string nm, .int .i64 bs, .slice A H.length c, .slice B G.length d] 26)).alloc (.cells #[.string ⟨#[]⟩, .int .i64 0, .slice none 0 0, .slice none 0 0, .slice none 0 0, .int .i64 0, .int .i64 0] 30) = v0 at K O hb ⊢
    refine (TR.out _ hb).mono ?_
    rintro e w0 ⟨rfl, hb0⟩
    replace K := K.below hb0 K.lt
    replace O := O.below hb0 O.lt
    replace hb := hb.trans (hb0.mono hb.size)
    go_wp2_with (fail)
    refine (TX _).mono ?_
    rintro e w0' ⟨rfl, rfl⟩
    go_wp2_with (fail)
    refine (l07Ill_any 1 _).mono ?_
    rintro e w1 ⟨rfl, hb1⟩
    replace K := K.below hb1 K.lt
    replace O := O.below hb1 O.lt
    replace hb := hb.trans (hb1.mono hb.size)
    have qc0 := O.cell (i := 0) rfl
    have qf0 := O.froz 0
    have qc1 := O.cell (i := 1) rfl
    have qf1 := O.froz 1
    have qc2 := O.cell (i := 2) rfl
    have qf2 := O.froz 2
    have qc3 := O.cell (i := 3) rfl
    have qf3 := O.froz 3
    have qc4 := O.cell (i := 4) rfl
    have qf4 := O.froz 4
    have qc5 := O.cell (i := 5) rfl
    have qf5 := O.froz 5
    have qc6 := O.cell (i := 6) rfl
    have qf6 := O.froz 6
    go_wp2
    clear qc0 qf0 qc1 qf1 qc2 qf2 qc3 qf3 qc4 qf4 qc5 qf5 qc6 qf6
    have O9 := (((((((O.put 0 (.string ⟨#[]⟩)).put 1 (.int .i64 0)).put 2 (.slice none 0 0)).put 3 (.slice none 0 0)).put 4 (.slice none 0 0)).put 5 (.int .i64 0)).put 6 (.int .i64 1))
    have hb9 := (((((((hb.setCell (p := ⟨w.heap.size + 1, 0, none⟩) (by simp <;> omega) (.string ⟨#[]⟩)).setCell (p := ⟨w.heap.size + 1, 1, none⟩) (by simp <;> omega) (.int .i64 0)).setCell (p := ⟨w.heap.size + 1, 2, none⟩) (by simp <;> omega) (.slice none 0 0)).setCell (p := ⟨w.heap.size + 1, 3, none⟩) (by simp <;> omega) (.slice none 0 0)).setCell (p := ⟨w.heap.size + 1, 4, none⟩) (by simp <;> omega) (.slice none 0 0)).setCell (p := ⟨w.heap.size + 1, 5, none⟩) (by simp <;> omega) (.int .i64 0)).setCell (p := ⟨w.heap.size + 1, 6, none⟩) (by simp <;> omega) (.int .i64 1))
    simp only [List.set_cons_succ, List.set_cons_zero] at O9
    generalize ((((((w1.setCell ⟨w.heap.size + 1, 0, none⟩ (.string ⟨#[]⟩)).setCell ⟨w.heap.size + 1, 1, none⟩ (.int .i64 0)).setCell ⟨w.heap.size + 1, 2, none⟩ (.slice none 0 0)).setCell ⟨w.heap.size + 1, 3, none⟩ (.slice none 0 0)).setCell ⟨w.heap.size + 1, 4, none⟩ (.slice none 0 0)).setCell ⟨w.heap.size + 1, 5, none⟩ (.int .i64 0)).setCell ⟨w.heap.size + 1, 6, none⟩ (.int .i64 1) = w9 at O9 hb9  ⊢
    have oc0 := O9.cell (i := 0) rfl
    have oc1 := O9.cell (i := 1) rfl
    have oc2 := O9.cell (i := 2) rfl
    have oc3 := O9.cell (i := 3) rfl
    have oc4 := O9.cell (i := 4) rfl
    have oc5 := O9.cell (i := 5) rfl
    have oc6 := O9.cell (i := 6) rfl
    exact bodyPost_ret (v := .agg #[.string ⟨#[]⟩, .int .i64 0, .slice none 0 0, .slice none 0 0, .slice none 0 0, .int .i64 0, .int .i64 1]) (by simp [results, Try.results14, go_sem, oc0, oc1, oc2, oc3, oc4, oc5, oc6]) rfl (by rw [HR.out]; exact SpX.ill hb9)
  have TX := l07Text_b hM hs
  have HR1 : Hid (R = if 20 ≤ H.length ∨ 1000000000 ≤ bs + H.length then ill 9 else ⟨⟨nm, bs, H ++ [s], G⟩, [], bs + H.length, 0⟩) := Lib.hid (by rw [HR0.out, if_neg h1, if_neg (by rw [hT, hM]; decide)])
  clear HR0
  go_enter Try.func14, Try.ntmps14
  go_wp2_with (fail)
  generalize (w.alloc (.cells #[.string nm, .int .i64 bs, .slice A H.length c, .slice B G.length d] 26)).alloc (.cells #[.string ⟨#[]⟩, .int .i64 0, .slice none 0 0, .slice none 0 0, .slice none 0 0, .int .i64 0, .int .i64 0] 30) = v0 at K O hb ⊢
  refine (TR.out _ hb).mono ?_
  rintro e w0 ⟨rfl, hb0⟩
  replace K := K.below hb0 K.lt
  replace O := O.below hb0 O.lt
  replace hb := hb.trans (hb0.mono hb.size)
  clear TR hb0
  go_wp2_with (fail)
  refine (TX _).mono ?_
  rintro e w0' ⟨rfl, rfl⟩
  clear TX
  have kc0 := K.cell (i := 0) rfl
  have kc1 := K.cell (i := 1) rfl
  have kc2 := K.cell (i := 2) rfl
  have kc3 := K.cell (i := 3) rfl
  by_cases h20 : 20 ≤ H.length
  · have HR : Hid (R = ill 9) := Lib.hid (by rw [HR1.out, if_pos (.inl h20)])
    have h20' : (20 : Int) ≤ (H.length : Int) := by omega
    go_wp2_with (fail)
    refine (l07Ill_any 9 _).mono ?_
    rintro e w1 ⟨rfl, hb1⟩
    replace K := K.below hb1 K.lt
    replace O := O.below hb1 O.lt
    replace hb := hb.trans (hb1.mono hb.size)
    have qc0 := O.cell (i := 0) rfl
    have qf0 := O.froz 0
    have qc1 := O.cell (i := 1) rfl
    have qf1 := O.froz 1
    have qc2 := O.cell (i := 2) rfl
    have qf2 := O.froz 2
    have qc3 := O.cell (i := 3) rfl
    have qf3 := O.froz 3
    have qc4 := O.cell (i := 4) rfl
    have qf4 := O.froz 4
    have qc5 := O.cell (i := 5) rfl
    have qf5 := O.froz 5
    have qc6 := O.cell (i := 6) rfl
    have qf6 := O.froz 6
    go_wp2
    clear qc0 qf0 qc1 qf1 qc2 qf2 qc3 qf3 qc4 qf4 qc5 qf5 qc6 qf6
    have O9 := (((((((O.put 0 (.string ⟨#[]⟩)).put 1 (.int .i64 0)).put 2 (.slice none 0 0)).put 3 (.slice none 0 0)).put 4 (.slice none 0 0)).put 5 (.int .i64 0)).put 6 (.int .i64 9))
    have hb9 := (((((((hb.setCell (p := ⟨w.heap.size + 1, 0, none⟩) (by simp <;> omega) (.string ⟨#[]⟩)).setCell (p := ⟨w.heap.size + 1, 1, none⟩) (by simp <;> omega) (.int .i64 0)).setCell (p := ⟨w.heap.size + 1, 2, none⟩) (by simp <;> omega) (.slice none 0 0)).setCell (p := ⟨w.heap.size + 1, 3, none⟩) (by simp <;> omega) (.slice none 0 0)).setCell (p := ⟨w.heap.size + 1, 4, none⟩) (by simp <;> omega) (.slice none 0 0)).setCell (p := ⟨w.heap.size + 1, 5, none⟩) (by simp <;> omega) (.int .i64 0)).setCell (p := ⟨w.heap.size + 1, 6, none⟩) (by simp <;> omega) (.int .i64 9))
    simp only [List.set_cons_succ, List.set_cons_zero] at O9
    generalize ((((((w1.setCell ⟨w.heap.size + 1, 0, none⟩ (.string ⟨#[]⟩)).setCell ⟨w.heap.size + 1, 1, none⟩ (.int .i64 0)).setCell ⟨w.heap.size + 1, 2, none⟩ (.slice none 0 0)).setCell ⟨w.heap.size + 1, 3, none⟩ (.slice none 0 0)).setCell ⟨w.heap.size + 1, 4, none⟩ (.slice none 0 0)).setCell ⟨w.heap.size + 1, 5, none⟩ (.int .i64 0)).setCell ⟨w.heap.size + 1, 6, none⟩ (.int .i64 9) = w9 at O9 hb9  ⊢
    have oc0 := O9.cell (i := 0) rfl
    have oc1 := O9.cell (i := 1) rfl
    have oc2 := O9.cell (i := 2) rfl
    have oc3 := O9.cell (i := 3) rfl
    have oc4 := O9.cell (i := 4) rfl
    have oc5 := O9.cell (i := 5) rfl
    have oc6 := O9.cell (i := 6) rfl
    exact bodyPost_ret (v := .agg #[.string ⟨#[]⟩, .int .i64 0, .slice none 0 0, .slice none 0 0, .slice none 0 0, .int .i64 0, .int .i64 9]) (by simp [results, Try.results14, go_sem, oc0, oc1, oc2, oc3, oc4, oc5, oc6]) rfl (by rw [HR.out]; exact SpX.ill hb9)
  have h20' : ¬ (20 : Int) ≤ (H.length : Int) := by omega
  have EN := Lib.hid (l07End_any nm bs A H.length c (.slice B G.length d) (by omega) hbs.1 hbs.2 rfl)
  go_wp2_with (fail)
  refine (EN.out _).mono ?_
  rintro e w1 ⟨rfl, hb1⟩
  replace K := K.below hb1 K.lt
  replace O := O.below hb1 O.lt
  replace hb := hb.trans (hb1.mono hb.size)
  clear hb1
  clear kc0 kc1 kc2 kc3
  by_cases hmx : 1000000000 ≤ bs + (H.length : Int)
  · have HR : Hid (R = ill 9) := Lib.hid (by rw [HR1.out, if_pos (.inr hmx)])
    go_wp2_with (fail)
    refine (l07Ill_any 9 _).mono ?_
    rintro e w2 ⟨rfl, hb2⟩
    replace K := K.below hb2 K.lt
    replace O := O.below hb2 O.lt
    replace hb := hb.trans (hb2.mono hb.size)
    have qc0 := O.cell (i := 0) rfl
    have qf0 := O.froz 0
    have qc1 := O.cell (i := 1) rfl
    have qf1 := O.froz 1
    have qc2 := O.cell (i := 2) rfl
    have qf2 := O.froz 2
    have qc3 := O.cell (i := 3) rfl
    have qf3 := O.froz 3
    have qc4 := O.cell (i := 4) rfl
    have qf4 := O.froz 4
    have qc5 := O.cell (i := 5) rfl
    have qf5 := O.froz 5
    have qc6 := O.cell (i := 6) rfl
    have qf6 := O.froz 6
    go_wp2
    clear qc0 qf0 qc1 qf1 qc2 qf2 qc3 qf3 qc4 qf4 qc5 qf5 qc6 qf6
    have O9 := (((((((O.put 0 (.string ⟨#[]⟩)).put 1 (.int .i64 0)).put 2 (.slice none 0 0)).put 3 (.slice none 0 0)).put 4 (.slice none 0 0)).put 5 (.int .i64 0)).put 6 (.int .i64 9))
    have hb9 := (((((((hb.setCell (p := ⟨w.heap.size + 1, 0, none⟩) (by simp <;> omega) (.string ⟨#[]⟩)).setCell (p := ⟨w.heap.size + 1, 1, none⟩) (by simp <;> omega) (.int .i64 0)).setCell (p := ⟨w.heap.size + 1, 2, none⟩) (by simp <;> omega) (.slice none 0 0)).setCell (p := ⟨w.heap.size + 1, 3, none⟩) (by simp <;> omega) (.slice none 0 0)).setCell (p := ⟨w.heap.size + 1, 4, none⟩) (by simp <;> omega) (.slice none 0 0)).setCell (p := ⟨w.heap.size + 1, 5, none⟩) (by simp <;> omega) (.int .i64 0)).setCell (p := ⟨w.heap.size + 1, 6, none⟩) (by simp <;> omega) (.int .i64 9))
    simp only [List.set_cons_succ, List.set_cons_zero] at O9
    generalize ((((((w2.setCell ⟨w.heap.size + 1, 0, none⟩ (.string ⟨#[]⟩)).setCell ⟨w.heap.size + 1, 1, none⟩ (.int .i64 0)).setCell ⟨w.heap.size + 1, 2, none⟩ (.slice none 0 0)).setCell ⟨w.heap.size + 1, 3, none⟩ (.slice none 0 0)).setCell ⟨w.heap.size + 1, 4, none⟩ (.slice none 0 0)).setCell ⟨w.heap.size + 1, 5, none⟩ (.int .i64 0)).setCell ⟨w.heap.size + 1, 6, none⟩ (.int .i64 9) = w9 at O9 hb9  ⊢
    have oc0 := O9.cell (i := 0) rfl
    have oc1 := O9.cell (i := 1) rfl
    have oc2 := O9.cell (i := 2) rfl
    have oc3 := O9.cell (i := 3) rfl
    have oc4 := O9.cell (i := 4) rfl
    have oc5 := O9.cell (i := 5) rfl
    have oc6 := O9.cell (i := 6) rfl
    exact bodyPost_ret (v := .agg #[.string ⟨#[]⟩, .int .i64 0, .slice none 0 0, .slice none 0 0, .slice none 0 0, .int .i64 0, .int .i64 9]) (by simp [results, Try.results14, go_sem, oc0, oc1, oc2, oc3, oc4, oc5, oc6]) rfl (by rw [HR.out]; exact SpX.ill hb9)
  have HR : Hid (R = ⟨⟨nm, bs, H ++ [s], G⟩, [], bs + H.length, 0⟩) := Lib.hid (by rw [HR1.out, if_neg (by omega)])
  have hmx' : ¬ 1000000000 ≤ bs + (H.length : Int) := hmx
  clear HR1
  have kc0 := K.cell (i := 0) rfl
  have kc1 := K.cell (i := 1) rfl
  have kc2 := K.cell (i := 2) rfl
  have kc3 := K.cell (i := 3) rfl
  go_wp2_with (fail)
  have hzz : w.heap.size ≤ w1.heap.size := hb.size
  refine (l07Copy_any nm bs A H c B G d w1 (hA.on hb) (hB.on hb) hc hd hl hg4).mono ?_
  rintro e w2 ⟨A2, c2, B2, d2, rfl, oS, oG, hb2⟩
  clear kc0 kc1 kc2 kc3
  have ho1 := O.lt
  have hkS : ∀ k, (Value.slice A2 H.length c2).ownBlock = some k → w1.heap.size ≤ k ∧ k < w2.heap.size := oS.lt
  replace K := K.below hb2 K.lt
  replace O := O.below hb2 O.lt
  replace hb := hb.trans (hb2.mono hb.size)
  have hz1 := hb2.size
  clear hb2
  have P := Blk.fresh w2 26 [.string nm, .int .i64 bs, .slice A2 H.length c2, .slice B2 G.length d2]
  have hb3 := below_box w2 (.cells #[.string nm, .int .i64 bs, .slice A2 H.length c2, .slice B2 G.length d2] 26)
  replace P : Blk (w2.alloc (.cells #[.string nm, .int .i64 bs, .slice A2 H.length c2, .slice B2 G.length d2] 26)) w2.heap.size 26 [.string nm, .int .i64 bs, .slice A2 H.length c2, .slice B2 G.length d2] := P
  have hz3 : w2.heap.size < (w2.alloc (.cells #[.string nm, .int .i64 bs, .slice A2 H.length c2, .slice B2 G.length d2] 26)).heap.size := by simp
  go_upto_region 8 with (fail)
  generalize w2.alloc (.cells #[.string nm, .int .i64 bs, .slice A2 H.length c2, .slice B2 G.length d2] 26) = w3 at P hb3 hz3 ⊢
  replace K := K.below hb3 K.lt
  replace O := O.below hb3 O.lt
  replace hb := hb.trans (hb3.mono hb.size)
  replace oS := row_below oS hb3 (Nat.le_refl _)
  replace oG := row_below oG hb3 (Nat.le_refl _)
  clear hb3
  have hb4 := below_box w3 (.cells #[.string s] 9)
  have hX := strs_one w3 s 9
  have pc2 := P.cell (i := 2) rfl
  go_upto_region 9 with (at_builtin; (refine wpList_app_str rfl (.tmp 32) (.tmp 34) rfl w1.heap.size (.slice A2 H.length c2) H rfl (row_below oS hb4 (Nat.le_refl _)) (w3.heap.size + 1) (some ⟨w3.heap.size, 0, none⟩) [s] 1 rfl (fun e => by cases e) hX (by simp; omega) (by simp; omega) ?_); intro A4 c4 w4 o4 hg; have P4 := (P.alloc (.cells #[.string s] 9)).grown hg (fun e => by have := hkS _ e.symm; omega); have p4c2 := P4.cell (i := 2) rfl; have p4f2 := P4.froz 2)
  have K4 := (K.alloc (.cells #[.string s] 9)).grown hg (fun e => by have := hkS _ e.symm; omega)
  have O4 := (O.alloc (.cells #[.string s] 9)).grown hg (fun e => by have := hkS _ e.symm; omega)
  have G4 : OwnG w4 w1.heap.size (.slice B2 G.length d2) G := World.ownsRow.kept (row_below oG hb4 (Nat.le_refl _)) hg (own_apart (row_below oG hb4 (Nat.le_refl _)) (row_below oS hb4 (Nat.le_refl _)) (by decide))
  have hb5 := below_row (hb.trans (hb4.mono hb.size)) (Nat.le_refl _) hg (fun k e => by have := hkS _ e; omega)
  clear pc2 hX p4c2 p4f2 hb4 oS oG
  rw [show (H ++ [s]).length = H.length + 1 by simp] at o4
  have P5 := P4.put 2 (.slice A4 (H.length + 1) c4)
  have K5 := K4.far (p := ⟨w2.heap.size, 2, none⟩) (by simp; omega) (.slice A4 (H.length + 1) c4)
  have O5 := O4.far (p := ⟨w2.heap.size, 2, none⟩) (by simp; omega) (.slice A4 (H.length + 1) c4)
  have S5 := row_off o4 (p := ⟨w2.heap.size, 2, none⟩) (own_not o4 P4 (by decide)) (.slice A4 (H.length + 1) c4)
  have G5 := row_off G4 (p := ⟨w2.heap.size, 2, none⟩) (own_not G4 P4 (by decide)) (.slice A4 (H.length + 1) c4)
  have hb6 := hb5.setCell (p := ⟨w2.heap.size, 2, none⟩) (by simp; omega) (.slice A4 (H.length + 1) c4)
  simp only [List.set_cons_succ, List.set_cons_zero] at P5
  generalize w4.setCell ⟨w2.heap.size, 2, none⟩ (.slice A4 (H.length + 1) c4) = w5 at P5 K5 O5 S5 G5 hb6 ⊢
  clear P4 K4 O4 G4 o4 hb5 P K O hg hb
  obtain ⟨I, fw, hI, g5', h6, g6', g7'⟩ := class_grown w5
  have a0 := fun s => kept_cell (h6 s) (K5.cell (i := 0) rfl)
  have a1 := fun s => kept_cell (h6 s) (K5.cell (i := 1) rfl)
  have a2 := fun s => kept_cell (h6 s) (K5.cell (i := 2) rfl)
  have a3 := fun s => kept_cell (h6 s) (K5.cell (i := 3) rfl)
  have b0 := fun s => kept_cell (h6 s) (P5.cell (i := 0) rfl)
  have b1 := fun s => kept_cell (h6 s) (P5.cell (i := 1) rfl)
  have b2 := fun s => kept_cell (h6 s) (P5.cell (i := 2) rfl)
  have b3 := fun s => kept_cell (h6 s) (P5.cell (i := 3) rfl)
  have G7 := Lib.hid g7'
  have G6 := Lib.hid g6'
  clear h6 g7' g6'
  refine wp_region_class_tail (C := fun w' => ∃ s, w' = fw s) 4 (by kernel_rfl) (by kernel_rfl) g5' ?_
  simp only [List.take_succ_cons, List.take_zero, List.drop_succ_cons, List.drop_zero]
  repeat (first
    | go_big_quiet_skip
    | (go_big_quiet_want; go_big_quiet_op; first | go_big_quiet_on | (apply Exists.intro; refine ⟨fun s => ?_, ?_⟩; (go_at_call 60; (with_reducible refine (EN.out _).mono ?_); rintro e w9 ⟨rfl, hb9'⟩; exact ⟨rfl, G6.out _ _ hb9'⟩); go_big_quiet_on)))
  refine wpQuiet_nil ?_
  intro w6 h6
  have hb67 := G7.out _ h6
  have hb := hb6.trans (hb67.mono hb6.size)
  clear hb6
  have O := O5.below hb67 O5.lt
  have S6 := row_below S5 hb67 (Nat.le_refl _)
  have G6_ := row_below G5 hb67 (Nat.le_refl _)
  clear a0 a1 a2 a3 b0 b1 b2 b3 g5' h6 S5 G5 O5 P5 K5 hb67
  have qc0 := O.cell (i := 0) rfl
  have qf0 := O.froz 0
  have qc1 := O.cell (i := 1) rfl
  have qf1 := O.froz 1
  have qc2 := O.cell (i := 2) rfl
  have qf2 := O.froz 2
  have qc3 := O.cell (i := 3) rfl
  have qf3 := O.froz 3
  have qc4 := O.cell (i := 4) rfl
  have qf4 := O.froz 4
  have qc5 := O.cell (i := 5) rfl
  have qf5 := O.froz 5
  have qc6 := O.cell (i := 6) rfl
  have qf6 := O.froz 6
  go_wp2
  clear qc0 qf0 qc1 qf1 qc2 qf2 qc3 qf3 qc4 qf4 qc5 qf5 qc6 qf6
  have hz9 := hz1
  have hS0 : w.heap.size + 1 < w1.heap.size := ho1
  have O9 := (((((((O.put 0 (.string nm)).put 1 (.int .i64 bs)).put 2 (.slice A4 (H.length + 1) c4)).put 3 (.slice B2 G.length d2)).put 4 (.slice none 0 0)).put 5 (.int .i64 (bs + H.length))).put 6 (.int .i64 0))
  have hb9 := (((((((hb.setCell (p := ⟨w.heap.size + 1, 0, none⟩) (by simp <;> omega) (.string nm)).setCell (p := ⟨w.heap.size + 1, 1, none⟩) (by simp <;> omega) (.int .i64 bs)).setCell (p := ⟨w.heap.size + 1, 2, none⟩) (by simp <;> omega) (.slice A4 (H.length + 1) c4)).setCell (p := ⟨w.heap.size + 1, 3, none⟩) (by simp <;> omega) (.slice B2 G.length d2)).setCell (p := ⟨w.heap.size + 1, 4, none⟩) (by simp <;> omega) (.slice none 0 0)).setCell (p := ⟨w.heap.size + 1, 5, none⟩) (by simp <;> omega) (.int .i64 (bs + H.length))).setCell (p := ⟨w.heap.size + 1, 6, none⟩) (by simp <;> omega) (.int .i64 0))
  have S69 := (row_far (row_far (row_far (row_far (row_far (row_far (row_far S6 (p := ⟨w.heap.size + 1, 0, none⟩) (by simp <;> omega) (.string nm)) (p := ⟨w.heap.size + 1, 1, none⟩) (by simp <;> omega) (.int .i64 bs)) (p := ⟨w.heap.size + 1, 2, none⟩) (by simp <;> omega) (.slice A4 (H.length + 1) c4)) (p := ⟨w.heap.size + 1, 3, none⟩) (by simp <;> omega) (.slice B2 G.length d2)) (p := ⟨w.heap.size + 1, 4, none⟩) (by simp <;> omega) (.slice none 0 0)) (p := ⟨w.heap.size + 1, 5, none⟩) (by simp <;> omega) (.int .i64 (bs + H.length))) (p := ⟨w.heap.size + 1, 6, none⟩) (by simp <;> omega) (.int .i64 0))
  have G6_9 := (row_far (row_far (row_far (row_far (row_far (row_far (row_far G6_ (p := ⟨w.heap.size + 1, 0, none⟩) (by simp <;> omega) (.string nm)) (p := ⟨w.heap.size + 1, 1, none⟩) (by simp <;> omega) (.int .i64 bs)) (p := ⟨w.heap.size + 1, 2, none⟩) (by simp <;> omega) (.slice A4 (H.length + 1) c4)) (p := ⟨w.heap.size + 1, 3, none⟩) (by simp <;> omega) (.slice B2 G.length d2)) (p := ⟨w.heap.size + 1, 4, none⟩) (by simp <;> omega) (.slice none 0 0)) (p := ⟨w.heap.size + 1, 5, none⟩) (by simp <;> omega) (.int .i64 (bs + H.length))) (p := ⟨w.heap.size + 1, 6, none⟩) (by simp <;> omega) (.int .i64 0))
  simp only [List.set_cons_succ, List.set_cons_zero] at O9
  generalize ((((((w6.setCell ⟨w.heap.size + 1, 0, none⟩ (.string nm)).setCell ⟨w.heap.size + 1, 1, none⟩ (.int .i64 bs)).setCell ⟨w.heap.size + 1, 2, none⟩ (.slice A4 (H.length + 1) c4)).setCell ⟨w.heap.size + 1, 3, none⟩ (.slice B2 G.length d2)).setCell ⟨w.heap.size + 1, 4, none⟩ (.slice none 0 0)).setCell ⟨w.heap.size + 1, 5, none⟩ (.int .i64 (bs + H.length))).setCell ⟨w.heap.size + 1, 6, none⟩ (.int .i64 0) = w9 at O9 hb9 S69 G6_9 ⊢
  have oc0 := O9.cell (i := 0) rfl
  have oc1 := O9.cell (i := 1) rfl
  have oc2 := O9.cell (i := 2) rfl
  have oc3 := O9.cell (i := 3) rfl
  have oc4 := O9.cell (i := 4) rfl
  have oc5 := O9.cell (i := 5) rfl
  have oc6 := O9.cell (i := 6) rfl
  exact bodyPost_ret (v := .agg #[.string nm, .int .i64 bs, .slice A4 (H.length + 1) c4, .slice B2 G.length d2, .slice none 0 0, .int .i64 (bs + H.length), .int .i64 0]) (by simp [results, Try.results14, go_sem, oc0, oc1, oc2, oc3, oc4, oc5, oc6]) rfl (pub_endX nm s HR.out S69 G6_9 hb9 hzz)
end Go.Proofs.Ytjnbhppnchmeoaa
