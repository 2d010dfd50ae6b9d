/- What the draw of a topic keeps to; spec's changes of topics there. One more string behind the messages of a topic, wherever they lie. The draw of a topic: what its end does to the topic. The draw of a topic, spec's l07Topic: its loop. -/
import Derived.Test.YtjnbhppnchmeoaaRwkW
import Derived.Test.YtjnbhppnchmeoaaTpFtW
import Derived.Test.YtjnbhppnchmeoaaTpPubXW
import Derived.Test.YtjnbhppnchmeoaaTpBegW
import Derived.Test.YtjnbhppnchmeoaaTpAckXW
import Derived.ArgAppend
import Derived.Deep.RegionHeld3
import Derived.Deep.RegionLaw
import Derived.Deep.DeepCutAuto
namespace Go.Proofs.Ytjnbhppnchmeoaa
open Go.RowKit
set_option linter.unusedVariables false
set_option maxRecDepth 1000000

/-- In the midst of l07Topic, which began at w: the source g, the result's box, the topic's box p and its rows. -/
structure DT (w : World) (B g p : Nat) (t : Tpc) (A : Option Addr) (a : Nat) (C : Option Addr) (c : Nat) (W : World) : Prop where
  drw : Drw W B g
  gr : w.grownBy W (some g)
  res : Blk W w.heap.size 26 [.string ⟨#[]⟩, .int .i64 0, .slice none 0 0, .slice none 0 0]
  box : Blk W p 26 [.string t.name, .int .i64 t.base, .slice A t.held.length a, .slice C t.groups.length c]
  rh : Rx W w.heap.size 9 1 A t.held.length a (t.held.map Value.string)
  rg : Gx W w.heap.size C c t.groups
  lp : w.heap.size < p
  lg : g < w.heap.size
section
variable {w W W' : World} {B g p : Nat} {t : Tpc} {A C : Option Addr} {a c : Nat}
theorem DT.draw (h : DT w B g p t A a C c W) (hd : Drw W' B g) (ho : W.grownBy W' (some g)) : DT w B g p t A a C c W' := by
  have h1 := h.lp
  have h2 := h.lg
  exact ⟨hd, only_trans h.gr ho, h.res.grown ho (fun e => by have := Option.some.inj e; omega), h.box.grown ho (fun e => by have := Option.some.inj e; omega), h.rh.draw h.drw ho (by decide), h.rg.draw h.drw ho, h1, h2⟩
theorem DT.below (h : DT w B g p t A a C c W) (hb : Below W.heap.size W W') : DT w B g p t A a C c W' :=
  ⟨h.drw.below hb, only_of_below h.gr hb, h.res.below hb h.res.lt, h.box.below hb h.box.lt, h.rh.below hb, h.rg.below hb, h.lp, h.lg⟩
theorem DT.alloc (h : DT w B g p t A a C c W) (o : Obj) : DT w B g p t A a C c (W.alloc o) := h.below ((Below.refl _ _).alloc (Nat.le_refl _) o)
theorem DT.drew (h : DT w B g p t A a C c W) : DT w B g p t A a C c W.drew := h.below (below_drew (Below.refl _ _))
theorem grown_at {w W : World} {g q i : Nat} {v : Value} (h : w.grownBy W (some g)) (hq : w.heap.size ≤ q) : w.grownBy (W.setCell ⟨q, i, none⟩ v) (some g) :=
  ⟨h.os, h.tape, h.output, by simpa [World.setCell] using h.size, fun k hk hne => (Below.heap_setCell W ⟨q, i, none⟩ v k (by simp; omega)).trans (h.block k hk hne)⟩
theorem Drw.offB {w : World} {B g q : Nat} {T : TypeId} {cs : List Value} (h : Drw w B g) (hB : Blk w q T cs) (hT : T ≠ 122) (hq : B ≤ q) (i : Nat) (v : Value) : Drw (w.setCell ⟨q, i, none⟩ v) B g := by
  have hne := h.blk_ne hB hT
  exact h.of_block (by simp [World.setCell]) fun k hk ho => Below.heap_setCell w ⟨q, i, none⟩ v k (by simp; rcases ho with h | h <;> omega)
theorem DT.off {q : Nat} {cs : List Value} (h : DT w B g p t A a C c W) (hB : Blk W q 30 cs) (hq : w.heap.size ≤ q) (i : Nat) (v : Value) : DT w B g p t A a C c (W.setCell ⟨q, i, none⟩ v) := by
  have h3 := h.drw.lt
  have h2 := h.lg
  exact ⟨h.drw.offB hB (by decide) (by omega) i v, grown_at h.gr hq, h.res.far (blk_diff h.res hB (by decide)) v, h.box.far (blk_diff h.box hB (by decide)) v, h.rh.off hB (by decide) i v, h.rg.off hB (by decide) i v, h.lp, h2⟩
end
/-- The same with the answer of an operation in the box q. -/
structure YT (w : World) (B g p : Nat) (t : Tpc) (A : Option Addr) (a : Nat) (C : Option Addr) (c : Nat) (q : Nat) (R : Ans) (A2 : Option Addr) (a2 : Nat) (C2 : Option Addr) (c2 : Nat) (T : Option Addr) (x : Nat) (W : World) : Prop where
  dt : DT w B g p t A a C c W
  yb : Blk W q 30 [.string R.o.name, .int .i64 R.o.base, .slice A2 R.o.held.length a2, .slice C2 R.o.groups.length c2, .slice T R.texts.length x, .int .i64 R.n, .int .i64 R.code]
  yh : Rx W w.heap.size 9 1 A2 R.o.held.length a2 (R.o.held.map Value.string)
  yg : Gx W w.heap.size C2 c2 R.o.groups
  lq : w.heap.size ≤ q
section
variable {w W W' : World} {B g p q : Nat} {t : Tpc} {A C A2 C2 T : Option Addr} {a c a2 c2 x : Nat} {R : Ans}
theorem YT.draw (h : YT w B g p t A a C c q R A2 a2 C2 c2 T x W) (hd : Drw W' B g) (ho : W.grownBy W' (some g)) : YT w B g p t A a C c q R A2 a2 C2 c2 T x W' := by
  have h1 := h.lq
  have h2 := h.dt.lg
  exact ⟨h.dt.draw hd ho, h.yb.grown ho (fun e => by have := Option.some.inj e; omega), h.yh.draw h.dt.drw ho (by decide), h.yg.draw h.dt.drw ho, h1⟩
theorem YT.below (h : YT w B g p t A a C c q R A2 a2 C2 c2 T x W) (hb : Below W.heap.size W W') : YT w B g p t A a C c q R A2 a2 C2 c2 T x W' :=
  ⟨h.dt.below hb, h.yb.below hb h.yb.lt, h.yh.below hb, h.yg.below hb, h.lq⟩
theorem YT.alloc (h : YT w B g p t A a C c q R A2 a2 C2 c2 T x W) (o : Obj) : YT w B g p t A a C c q R A2 a2 C2 c2 T x (W.alloc o) := h.below ((Below.refl _ _).alloc (Nat.le_refl _) o)
theorem YT.drew (h : YT w B g p t A a C c q R A2 a2 C2 c2 T x W) : YT w B g p t A a C c q R A2 a2 C2 c2 T x W.drew := h.below (below_drew (Below.refl _ _))
/-- An answer is put into a box for it. -/
theorem yt_put {cs : List Value} (h : DT w B g p t A a C c W) (hB : Blk W q 30 cs) (hl : cs.length = 7) (hq : w.heap.size ≤ q) (hh : Rx W w.heap.size 9 1 A2 R.o.held.length a2 (R.o.held.map Value.string)) (hg : Gx W w.heap.size C2 c2 R.o.groups) :
    YT w B g p t A a C c q R A2 a2 C2 c2 T x (((((((W.setCell ⟨q, 0, none⟩ (.string R.o.name)).setCell ⟨q, 1, none⟩ (.int .i64 R.o.base)).setCell ⟨q, 2, none⟩ (.slice A2 R.o.held.length a2)).setCell ⟨q, 3, none⟩ (.slice C2 R.o.groups.length c2)).setCell ⟨q, 4, none⟩ (.slice T R.texts.length x)).setCell ⟨q, 5, none⟩ (.int .i64 R.n)).setCell ⟨q, 6, none⟩ (.int .i64 R.code)) := by
  obtain ⟨x0, x1, x2, x3, x4, x5, x6, rfl⟩ : ∃ x0 x1 x2 x3 x4 x5 x6, cs = [x0, x1, x2, x3, x4, x5, x6] := by
    match cs, hl with
    | [x0, x1, x2, x3, x4, x5, x6], _ => exact ⟨x0, x1, x2, x3, x4, x5, x6, rfl⟩
  have go : ∀ {W : World} {cs : List Value} (i : Nat) (v : Value), DT w B g p t A a C c W ∧ Blk W q 30 cs ∧ Rx W w.heap.size 9 1 A2 R.o.held.length a2 (R.o.held.map Value.string) ∧ Gx W w.heap.size C2 c2 R.o.groups →
      DT w B g p t A a C c (W.setCell ⟨q, i, none⟩ v) ∧ Blk (W.setCell ⟨q, i, none⟩ v) q 30 (cs.set i v) ∧ Rx (W.setCell ⟨q, i, none⟩ v) w.heap.size 9 1 A2 R.o.held.length a2 (R.o.held.map Value.string) ∧ Gx (W.setCell ⟨q, i, none⟩ v) w.heap.size C2 c2 R.o.groups :=
    fun i v ⟨k1, k2, k3, k4⟩ => ⟨k1.off k2 hq i v, k2.put i v, k3.off k2 (by decide) i v, k4.off k2 (by decide) i v⟩
  have r := go 6 (.int .i64 R.code) (go 5 (.int .i64 R.n) (go 4 (.slice T R.texts.length x) (go 3 (.slice C2 R.o.groups.length c2) (go 2 (.slice A2 R.o.held.length a2) (go 1 (.int .i64 R.o.base) (go 0 (.string R.o.name) ⟨h, hB, hh, hg⟩))))))
  simp only [List.set_cons_succ, List.set_cons_zero] at r
  exact ⟨r.1, r.2.1, r.2.2.1, r.2.2.2, hq⟩
/-- An answer in a box made for it. -/
theorem yt_new (h : DT w B g p t A a C c W) (hh : Rx W w.heap.size 9 1 A2 R.o.held.length a2 (R.o.held.map Value.string)) (hg : Gx W w.heap.size C2 c2 R.o.groups) :
    YT w B g p t A a C c W.heap.size R A2 a2 C2 c2 T x (W.alloc (.cells #[.string R.o.name, .int .i64 R.o.base, .slice A2 R.o.held.length a2, .slice C2 R.o.groups.length c2, .slice T R.texts.length x, .int .i64 R.n, .int .i64 R.code] 30)) :=
  have hb := (Below.refl W.heap.size W).alloc (Nat.le_refl _) (.cells #[.string R.o.name, .int .i64 R.o.base, .slice A2 R.o.held.length a2, .slice C2 R.o.groups.length c2, .slice T R.texts.length x, .int .i64 R.n, .int .i64 R.code] 30)
  ⟨h.alloc _, Blk.fresh W 30 [.string R.o.name, .int .i64 R.o.base, .slice A2 R.o.held.length a2, .slice C2 R.o.groups.length c2, .slice T R.texts.length x, .int .i64 R.n, .int .i64 R.code], hh.below hb, hg.below hb, h.gr.size⟩
/-- The answer's topic is taken over. -/
theorem YT.take (h : YT w B g p t A a C c q R A2 a2 C2 c2 T x W) :
    DT w B g p R.o A2 a2 C2 c2 ((((W.setCell ⟨p, 0, none⟩ (.string R.o.name)).setCell ⟨p, 1, none⟩ (.int .i64 R.o.base)).setCell ⟨p, 2, none⟩ (.slice A2 R.o.held.length a2)).setCell ⟨p, 3, none⟩ (.slice C2 R.o.groups.length c2)) := by
  have hlp := h.dt.lp
  have hlg := h.dt.lg
  have h3 := h.dt.drw.lt
  have go : ∀ {W : World} {cs : List Value} (i : Nat) (v : Value), (Drw W B g ∧ w.grownBy W (some g) ∧ Blk W w.heap.size 26 [.string ⟨#[]⟩, .int .i64 0, .slice none 0 0, .slice none 0 0]) ∧ Blk W p 26 cs ∧ Rx W w.heap.size 9 1 A2 R.o.held.length a2 (R.o.held.map Value.string) ∧ Gx W w.heap.size C2 c2 R.o.groups →
      (Drw (W.setCell ⟨p, i, none⟩ v) B g ∧ w.grownBy (W.setCell ⟨p, i, none⟩ v) (some g) ∧ Blk (W.setCell ⟨p, i, none⟩ v) w.heap.size 26 [.string ⟨#[]⟩, .int .i64 0, .slice none 0 0, .slice none 0 0]) ∧ Blk (W.setCell ⟨p, i, none⟩ v) p 26 (cs.set i v) ∧ Rx (W.setCell ⟨p, i, none⟩ v) w.heap.size 9 1 A2 R.o.held.length a2 (R.o.held.map Value.string) ∧ Gx (W.setCell ⟨p, i, none⟩ v) w.heap.size C2 c2 R.o.groups :=
    fun i v ⟨⟨k0, k1, k5⟩, k2, k3, k4⟩ => ⟨⟨k0.offB k2 (by decide) (by omega) i v, grown_at k1 (by omega), k5.far (by simp; omega) v⟩, k2.put i v, k3.off k2 (by decide) i v, k4.off k2 (by decide) i v⟩
  have r := go 3 (.slice C2 R.o.groups.length c2) (go 2 (.slice A2 R.o.held.length a2) (go 1 (.int .i64 R.o.base) (go 0 (.string R.o.name) ⟨⟨h.dt.drw, h.dt.gr, h.dt.res⟩, h.dt.box, h.yh, h.yg⟩)))
  simp only [List.set_cons_succ, List.set_cons_zero] at r
  exact ⟨r.1.1, r.1.2.1, r.1.2.2, r.2.1, r.2.2.1, r.2.2.2, hlp, hlg⟩
end
/-- What one of spec's changes answers in the midst of l07Topic. -/
def ChgT (f : FuncId) (args : Array Value) (W : World) : Prop := ∃ R : Ans, (R.code = 0 → topOK R.o) ∧ Calls Try.prog f args W fun e w' => SpX W w' e R
section
variable {w W : World} {B g p : Nat} {t : Tpc} {A C : Option Addr} {a c : Nat}
theorem chgPub (h : DT w B g p t A a C c W) (ht : topOK t) (s : ByteArray) (hs : s.size ≤ 100) : ChgT 14 #[topV t.name t.base (.slice A t.held.length a) (.slice C t.groups.length c), .string s] W :=
  ⟨pubT t s, fun h0 => by have := pub_ok h0; rw [this.2.2.2.1]; exact this.2.2.2.2, specTopicPublish_anyX t s A a C c W ht.facts.1 (by unfold maxLen; omega) h.rh.strs h.rg.grs h.rh.cap h.rg.cap⟩
theorem chgAck (h : DT w B g p t A a C c W) (ht : topOK t) (s : ByteArray) (hs : s.size ≤ 100) (n : Int) : ChgT 27 #[topV t.name t.base (.slice A t.held.length a) (.slice C t.groups.length c), .string s, .int .i64 n] W :=
  ⟨setT t s n false, fun h0 => (set_ok h0).2.2.2.2.2.2, specTopicAck_anyX t s n A a C c W ht.facts.1 (by unfold maxLen; omega) h.rh.strs h.rg.grs h.rh.cap h.rg.cap⟩
theorem chgSeek (h : DT w B g p t A a C c W) (ht : topOK t) (s : ByteArray) (hs : s.size ≤ 100) (n : Int) : ChgT 107 #[topV t.name t.base (.slice A t.held.length a) (.slice C t.groups.length c), .string s, .int .i64 n] W :=
  ⟨setT t s n true, fun h0 => (set_ok h0).2.2.2.2.2.2, specTopicSeek_anyX t s n A a C c W ht.facts.1 (by unfold maxLen; omega) h.rh.strs h.rg.grs h.rh.cap h.rg.cap⟩
theorem chgRet (h : DT w B g p t A a C c W) (ht : topOK t) (n : Int) (h0 : 0 ≤ n) (h1 : n ≤ 100) : ChgT 108 #[topV t.name t.base (.slice A t.held.length a) (.slice C t.groups.length c), .int .i64 n] W :=
  ⟨retT t n, fun h0 => (ret_ok h0).2.2.2, specTopicRetain_anyX t n A a C c W ht.facts.1 (by simp [Lit.wf, IntKind.min, IntKind.max, IntKind.bits, IntKind.signed]; omega) h.rh.strs h.rg.grs h.rh.cap h.rg.cap⟩
end
end Go.Proofs.Ytjnbhppnchmeoaa

namespace Go.Proofs.Ytjnbhppnchmeoaa
open Go.RowKit
set_option linter.unusedVariables false
set_option maxRecDepth 1000000

/-- What an append of a string leaves: all ahead of lo, and every block of another type. -/
structure Ext (w w' : World) (lo : Nat) : Prop where
  os : w'.os = w.os
  tape : w'.tape = w.tape
  output : w'.output = w.output
  size : w.heap.size ≤ w'.heap.size
  block : ∀ k, k < w.heap.size → (k < lo ∨ ∃ T cs, Blk w k T cs ∧ T ≠ 9) → w'.heap[k]? = w.heap[k]?
theorem Ext.blk {w w' : World} {lo g : Nat} {T : TypeId} {cs : List Value} (h : Ext w w' lo) (hB : Blk w g T cs) (hT : T ≠ 9) : Blk w' g T cs := (h.block g hB.lt (.inr ⟨T, cs, hB, hT⟩)).trans hB
theorem Ext.gx {w w' : World} {lo lo' b : Nat} {B : Option Addr} {G : List Grp} (h : Ext w w' lo) (hG : Gx w lo' B b G) : Gx w' lo' B b G := by
  refine ⟨hG.1, ?_⟩
  rcases hG.2 with ⟨hv, hz⟩ | ⟨g, cap, cur, hv, hb, hg, hr⟩
  · exact .inl ⟨hv, hz⟩
  · have hB : Blk w g 94 cur.toList := by unfold Blk; simpa using hg
    have := h.blk hB (by decide)
    exact .inr ⟨g, cap, cur, hv, hb, by unfold Blk at this; simpa using this, hr⟩
theorem ext_alloc {w w1 w' : World} {lo : Nat} (hb : Below w.heap.size w w1) (h : Ext w1 w' lo) (hlo : lo ≤ w.heap.size) : Ext w w' lo :=
  ⟨h.os.trans hb.os, h.tape.trans hb.tape, h.output.trans hb.output, Nat.le_trans hb.size h.size, fun k hk ho => by
    refine (h.block k (Nat.lt_of_lt_of_le hk hb.size) ?_).trans (hb.block k hk)
    rcases ho with h1 | ⟨T, cs, h1, h2⟩
    · exact .inl h1
    · exact .inr ⟨T, cs, h1.below hb hk, h2⟩⟩
set_option maxHeartbeats 2000000 in
theorem wpList_app_held {ops : Array Oper} {rest : List Oper} {o : Oper} {a : Act} {w : World} {Q : Exit → Act → World → Prop} (hgd : o.guard = none) (s x : Operand)
    (ho : o.op = .call { callee := .builtin .append, args := #[s, x], argTypes := #[23, 23] })
    (lo : Nat) (A : Option Addr) (L : List ByteArray) (n c : Nat) (hn : n = L.length) (hs : a.eval s = .slice A n c) (hR : Rx w lo 9 1 A n c (L.map Value.string)) (hlo : lo ≤ w.heap.size) (ad : Addr) (y : ByteArray) (hx : a.eval x = .slice (some ad) 1 1) (hc : w.cell? ad = some (.string y)) (hl : L.length ≤ 1000)
    (h : ∀ A' c' w', Rx w' lo 9 1 A' (L ++ [y]).length c' ((L ++ [y]).map Value.string) → Ext w w' lo → wpList Try.prog ops Q rest (a.put o.dst (.slice A' (L ++ [y]).length c')) w') : wpList Try.prog ops Q (o :: rest) a w := by
  obtain ⟨i0, hi, hz0, hz1, hz2⟩ := info_parts infoStr
  subst hn
  have e1 : (L ++ [y]).length = L.length + 1 := by simp
  have e2 : (L ++ [y]).map Value.string = L.map Value.string ++ [.string y] := by simp
  have hnews : ∀ j u, [Value.string y][j]? = some u → w.cell? (ad.add j) = some u := by
    intro j u hj
    match j, hj with
    | 0, hj =>
      simp at hj; subst hj
      have : ad.add 0 = ad := by unfold Addr.add; rw [if_pos rfl]
      rw [this]; exact hc
  have ext_grown : ∀ w', w.grownBy w' none → Ext w w' lo := fun w' hg => ⟨hg.os, hg.tape, hg.output, hg.size, fun k hk _ => hg.block k hk (by simp)⟩
  have fresh : ∀ v' w', w'.ownsRow w.heap.size 9 1 v' (L.length + 1) (L.map Value.string ++ [.string y]) → w.grownBy w' none → wpList Try.prog ops Q rest (a.put o.dst v') w' := by
    intro v' w' h1 h2
    rw [← e1, ← e2] at h1
    have h1' : OwnS w' w.heap.size v' (L ++ [y]) := h1
    obtain ⟨A', c', rfl⟩ := ownS_some h1'
    exact h A' c' w' (rx_own h1 hlo) (ext_grown w' h2)
  obtain ⟨k1, k2, k3, k4⟩ := hR
  rcases k4 with ⟨ha, hc0⟩ | ⟨g, off, cs, ha, hg, hB, hcl, hcs⟩
  · subst ha
    have hz : L.length = 0 := by omega
    have hL : L = [] := List.eq_nil_of_length_eq_zero hz
    subst hL
    subst hc0
    refine wpList_append_own w hgd s x 23 ho w.heap.size 9 i0 (.string ⟨#[]⟩) 1 16 Try.underlying23 hi hz0 hz1 hz2 rfl (by decide) (.slice none 0 0) 0 [] hs (World.ownsRow_nil _ _ _ _) ad 1 1 [.string y] hx rfl hnews (one_str _) (by unfold maxLen; omega) (by omega) (Nat.le_refl _) ?_
    intro v' w' h1 h2 _
    exact fresh v' w' h1 h2
  · subst ha
    refine wpList_append_arg w hgd s x 23 ho 9 i0 (.string ⟨#[]⟩) 1 16 Try.underlying23 hi hz0 hz1 hz2 rfl (by decide) g off L.length c (L.map Value.string) hs (by simp) (fun j u hj => hB.cell (hcs j u hj)) ad 1 1 [.string y] hx rfl hnews (one_str _) ?_ (by unfold maxLen; omega) (by omega) ?_ ?_
    · intro hr j hj
      have hj0 : j = 0 := by simp at hj; omega
      subst hj0
      refine ⟨?_, hB.froz _⟩
      rw [hB.cell (i := off + L.length * 1 + 0) (v := cs[off + L.length * 1 + 0]'(by omega)) (List.getElem?_eq_getElem _)]
      rfl
    · intro hr
      have hset : w.setCells g (off + L.length * 1) [.string y] = w.setCell ⟨g, off + L.length * 1, none⟩ (.string y) := by
        simp [World.setCells]
      rw [hset]
      have hB2 := hB.put (off + L.length * 1) (.string y)
      rw [← e1]
      refine h (some ⟨g, off, none⟩) c _ ⟨by simp, by rw [e1]; exact hr, k3, .inr ⟨g, off, _, rfl, hg, hB2, by rw [List.length_set]; exact hcl, fun j v hj => ?_⟩⟩ ⟨rfl, rfl, rfl, by simp [World.setCell], fun k hk hob => Below.heap_setCell w _ _ k fun e => ?_⟩
      · rw [e2] at hj
        by_cases hjl : j < L.length
        · rw [List.getElem?_append_left (by simpa using hjl)] at hj
          rw [List.getElem?_set_ne (by omega)]
          exact hcs j v hj
        · have hj2 : j = L.length := by
            have := (List.getElem?_eq_some_iff.1 hj).1
            simp at this; omega
          subst hj2
          rw [List.getElem?_append_right (by simp)] at hj
          simp at hj
          subst hj
          rw [Nat.mul_one, List.getElem?_set_self (by omega)]
      · simp only at e
        subst e
        rcases hob with h1 | ⟨T, cs2, h1, h2⟩
        · omega
        · exact blk_diff hB h1 (fun e => h2 e.symm) rfl
    · intro hr v' w' h1 h2
      exact fresh v' w' h1 h2
end Go.Proofs.Ytjnbhppnchmeoaa

namespace Go.Proofs.Ytjnbhppnchmeoaa
open Go.RowKit
set_option linter.unusedVariables false
set_option maxRecDepth 1000000

section
variable {w W W' : World} {B g p : Nat} {t : Tpc} {A C : Option Addr} {a c : Nat}
/-- All but the box, behind a store into the box. -/
theorem DT.core (h : DT w B g p t A a C c W) (i : Nat) (v : Value) :
    Drw (W.setCell ⟨p, i, none⟩ v) B g ∧ w.grownBy (W.setCell ⟨p, i, none⟩ v) (some g) ∧ Blk (W.setCell ⟨p, i, none⟩ v) w.heap.size 26 [.string ⟨#[]⟩, .int .i64 0, .slice none 0 0, .slice none 0 0] ∧ Blk (W.setCell ⟨p, i, none⟩ v) p 26 ([.string t.name, .int .i64 t.base, .slice A t.held.length a, .slice C t.groups.length c].set i v) ∧ Rx (W.setCell ⟨p, i, none⟩ v) w.heap.size 9 1 A t.held.length a (t.held.map Value.string) ∧ Gx (W.setCell ⟨p, i, none⟩ v) w.heap.size C c t.groups := by
  have h1 := h.lp
  have h2 := h.lg
  have h3 := h.drw.lt
  exact ⟨h.drw.offB h.box (by decide) (by omega) i v, grown_at h.gr (by omega), h.res.far (by simp; omega) v, h.box.put i v, h.rh.off h.box (by decide) i v, h.rg.off h.box (by decide) i v⟩
theorem DT.setBase (h : DT w B g p t A a C c W) (z : Int) : DT w B g p ⟨t.name, z, t.held, t.groups⟩ A a C c (W.setCell ⟨p, 1, none⟩ (.int .i64 z)) := by
  obtain ⟨k1, k2, k3, k4, k5, k6⟩ := h.core 1 (.int .i64 z)
  exact ⟨k1, k2, k3, k4, k5, k6, h.lp, h.lg⟩
theorem DT.noGroups (h : DT w B g p t A a C c W) : DT w B g p ⟨t.name, t.base, t.held, []⟩ A a none 0 (W.setCell ⟨p, 3, none⟩ (.slice none 0 0)) := by
  obtain ⟨k1, k2, k3, k4, k5, k6⟩ := h.core 3 (.slice none 0 0)
  exact ⟨k1, k2, k3, k4, k5, gx_nil _ _, h.lp, h.lg⟩
theorem DT.ext (h : DT w B g p t A a C c W) (hx : Ext W W' w.heap.size) : Drw W' B g ∧ w.grownBy W' (some g) ∧ Blk W' w.heap.size 26 [.string ⟨#[]⟩, .int .i64 0, .slice none 0 0, .slice none 0 0] ∧ Blk W' p 26 [.string t.name, .int .i64 t.base, .slice A t.held.length a, .slice C t.groups.length c] ∧ Gx W' w.heap.size C c t.groups := by
  have h1 := h.lp
  have h2 := h.lg
  have h3 := h.drw.lt
  refine ⟨h.drw.of_block hx.size fun k hk ho => hx.block k hk (.inl (by rcases ho with h | h <;> omega)), ⟨hx.os.trans h.gr.os, hx.tape.trans h.gr.tape, hx.output.trans h.gr.output, Nat.le_trans h.gr.size hx.size, fun k hk hne => (hx.block k (Nat.lt_of_lt_of_le hk h.gr.size) (.inl hk)).trans (h.gr.block k hk hne)⟩, hx.blk h.res (by decide), hx.blk h.box (by decide), hx.gx h.rg⟩
/-- A string more behind the messages. -/
theorem DT.appH {A' : Option Addr} {a' : Nat} {y : ByteArray} (h : DT w B g p t A a C c W) (hx : Ext W W' w.heap.size) (hr : Rx W' w.heap.size 9 1 A' (t.held ++ [y]).length a' ((t.held ++ [y]).map Value.string)) :
    DT w B g p ⟨t.name, t.base, t.held ++ [y], t.groups⟩ A' a' C c (W'.setCell ⟨p, 2, none⟩ (.slice A' (t.held.length + 1) a')) := by
  have e1 : (t.held ++ [y]).length = t.held.length + 1 := by simp
  rw [← e1]
  have h1 := h.lp
  have h2 := h.lg
  have h3 := h.drw.lt
  obtain ⟨k1, k2, k3, k4, k5⟩ := h.ext hx
  exact ⟨k1.offB k4 (by decide) (by omega) 2 _, grown_at k2 (by omega), k3.far (by simp; omega) _, k4.put 2 _, hr.off k4 (by decide) 2 _, k5.off k4 (by decide) 2 _, h1, h2⟩
/-- A group more. -/
theorem DT.appG {o : Obj} {gg c' : Nat} {x : Grp} (h : DT w B g p t A a C c W) (hg : (W.alloc o).grownBy W' (Value.slice C t.groups.length c).ownBlock) (hr : W'.ownsRow w.heap.size 94 2 (.slice (some ⟨gg, 0, none⟩) (t.groups.length + 1) c') (t.groups.length + 1) (gflat t.groups ++ [.string x.name, .int .i64 x.acked])) :
    DT w B g p ⟨t.name, t.base, t.held, t.groups ++ [x]⟩ A a (some ⟨gg, 0, none⟩) c' (W'.setCell ⟨p, 3, none⟩ (.slice (some ⟨gg, 0, none⟩) (t.groups.length + 1) c')) := by
  have h1 := h.lp
  have h2 := h.lg
  have ha := h.alloc o
  have h3 := ha.drw.lt
  have hne : ∀ {q : Nat} {T : TypeId} {cs : List Value}, Blk (W.alloc o) q T cs → 94 ≠ T → (Value.slice C t.groups.length c).ownBlock ≠ some q := fun hB hT => gx_ne ha.rg hB hT
  have kg : Drw W' B g := ha.drw.grown hg fun k e => by
    have := ha.rg.lt k e
    exact ⟨by omega, fun hk => by subst hk; omega⟩
  have k2 : w.grownBy W' (some g) := ⟨hg.os.trans ha.gr.os, hg.tape.trans ha.gr.tape, hg.output.trans ha.gr.output, Nat.le_trans ha.gr.size hg.size, fun k hk hn => (hg.block k (Nat.lt_of_lt_of_le hk ha.gr.size) (fun e => by have := ha.rg.lt k e.symm; omega)).trans (ha.gr.block k hk hn)⟩
  have k3 := ha.res.grown hg (fun e => hne ha.res (by decide) e.symm)
  have k4 := ha.box.grown hg (fun e => hne ha.box (by decide) e.symm)
  have k5 : Rx W' w.heap.size 9 1 A t.held.length a (t.held.map Value.string) := ha.rh.keep fun q cs _ hB => hB.grown hg (fun e => hne hB (by decide) e.symm)
  have k6 : Gx W' w.heap.size (some ⟨gg, 0, none⟩) c' (t.groups ++ [x]) := by
    unfold Gx
    rw [gflat_append, List.length_append]
    exact hr
  have el : (t.groups ++ [x]).length = t.groups.length + 1 := by simp
  refine ⟨kg.offB k4 (by decide) (by omega) 3 _, grown_at k2 (by omega), k3.far (by simp; omega) _, ?_, k5.off k4 (by decide) 3 _, k6.off k4 (by decide) 3 _, h1, h2⟩
  have := k4.put 3 (.slice (some ⟨gg, 0, none⟩) (t.groups.length + 1) c')
  simp only [List.set_cons_succ, List.set_cons_zero] at this
  simp only [el]
  exact this
/-- The topic in the result's box. -/
theorem DT.fin (h : DT w B g p t A a C c W) : Blk ((((W.setCell ⟨w.heap.size, 0, none⟩ (.string t.name)).setCell ⟨w.heap.size, 1, none⟩ (.int .i64 t.base)).setCell ⟨w.heap.size, 2, none⟩ (.slice A t.held.length a)).setCell ⟨w.heap.size, 3, none⟩ (.slice C t.groups.length c)) w.heap.size 26 [.string t.name, .int .i64 t.base, .slice A t.held.length a, .slice C t.groups.length c] ∧
    Rx ((((W.setCell ⟨w.heap.size, 0, none⟩ (.string t.name)).setCell ⟨w.heap.size, 1, none⟩ (.int .i64 t.base)).setCell ⟨w.heap.size, 2, none⟩ (.slice A t.held.length a)).setCell ⟨w.heap.size, 3, none⟩ (.slice C t.groups.length c)) w.heap.size 9 1 A t.held.length a (t.held.map Value.string) ∧
    Gx ((((W.setCell ⟨w.heap.size, 0, none⟩ (.string t.name)).setCell ⟨w.heap.size, 1, none⟩ (.int .i64 t.base)).setCell ⟨w.heap.size, 2, none⟩ (.slice A t.held.length a)).setCell ⟨w.heap.size, 3, none⟩ (.slice C t.groups.length c)) w.heap.size C c t.groups ∧
    Drw ((((W.setCell ⟨w.heap.size, 0, none⟩ (.string t.name)).setCell ⟨w.heap.size, 1, none⟩ (.int .i64 t.base)).setCell ⟨w.heap.size, 2, none⟩ (.slice A t.held.length a)).setCell ⟨w.heap.size, 3, none⟩ (.slice C t.groups.length c)) B g ∧
    w.grownBy ((((W.setCell ⟨w.heap.size, 0, none⟩ (.string t.name)).setCell ⟨w.heap.size, 1, none⟩ (.int .i64 t.base)).setCell ⟨w.heap.size, 2, none⟩ (.slice A t.held.length a)).setCell ⟨w.heap.size, 3, none⟩ (.slice C t.groups.length c)) (some g) := by
  have h2 := h.lg
  have h3 := h.drw.lt
  have go : ∀ {W : World} {cs : List Value} (i : Nat) (v : Value), Blk W w.heap.size 26 cs ∧ Rx W w.heap.size 9 1 A t.held.length a (t.held.map Value.string) ∧ Gx W w.heap.size C c t.groups ∧ Drw W B g ∧ w.grownBy W (some g) →
      Blk (W.setCell ⟨w.heap.size, i, none⟩ v) w.heap.size 26 (cs.set i v) ∧ Rx (W.setCell ⟨w.heap.size, i, none⟩ v) w.heap.size 9 1 A t.held.length a (t.held.map Value.string) ∧ Gx (W.setCell ⟨w.heap.size, i, none⟩ v) w.heap.size C c t.groups ∧ Drw (W.setCell ⟨w.heap.size, i, none⟩ v) B g ∧ w.grownBy (W.setCell ⟨w.heap.size, i, none⟩ v) (some g) :=
    fun i v ⟨k1, k2, k3, k4, k5⟩ => ⟨k1.put i v, k2.off k1 (by decide) i v, k3.off k1 (by decide) i v, k4.offB k1 (by decide) (by omega) i v, grown_at k5 (Nat.le_refl _)⟩
  have r := go 3 (.slice C t.groups.length c) (go 2 (.slice A t.held.length a) (go 1 (.int .i64 t.base) (go 0 (.string t.name) ⟨h.res, h.rh, h.rg, h.drw, h.gr⟩)))
  simp only [List.set_cons_succ, List.set_cons_zero] at r
  exact r
end
/-- How many messages lie in the box p. -/
def tLen (p : Nat) (W : World) : Nat := match W.cell? ⟨p, 2, none⟩ with
  | some (.slice _ n _) => n
  | _ => 0
theorem tLen_of {p n c : Nat} {A : Option Addr} {W : World} (h : W.cell? ⟨p, 2, none⟩ = some (.slice A n c)) : tLen p W = n := by unfold tLen; rw [h]
/-- What a drawn topic keeps to. -/
def Tpc.easy (t : Tpc) : Prop := t.fits ∧ t.small
theorem easy_of {t : Tpc} (h : topOK t) : t.easy := h.facts
theorem easy_base {t : Tpc} (h : t.easy) {z : Int} (hz : -9223372036854775808 ≤ z ∧ z ≤ 9223372036854775807) : Tpc.easy ⟨t.name, z, t.held, []⟩ :=
  ⟨⟨h.1.1, hz, h.1.2.2.1, by simp⟩, h.2.1, h.2.2.1, by simp⟩
theorem easy_held {t : Tpc} (h : t.easy) {y : ByteArray} (hy : y.size ≤ 100) (hl : t.held.length ≤ 1000) : Tpc.easy ⟨t.name, t.base, t.held ++ [y], t.groups⟩ := by
  refine ⟨⟨h.1.1, h.1.2.1, fun s hs => ?_, h.1.2.2.2⟩, h.2.1, ⟨by simp; omega, fun i hi => ?_⟩, h.2.2.2⟩
  · have hs : s ∈ t.held ++ [y] := hs
    simp at hs
    rcases hs with hs | rfl
    · exact h.1.2.2.1 s hs
    · unfold maxLen; omega
  · show (t.held ++ [y])[i].size ≤ 1048576
    by_cases hj : i < t.held.length
    · rw [List.getElem_append_left hj]; exact h.2.2.1.2 i hj
    · have hi : i < (t.held ++ [y]).length := hi
      rw [List.getElem_append_right (by omega)]; simp; omega
theorem easy_group {t : Tpc} (h : t.easy) {x : Grp} (hx : x.fits) (hn : x.name.size ≤ 100) (hl : t.groups.length ≤ 1000) : Tpc.easy ⟨t.name, t.base, t.held, t.groups ++ [x]⟩ := by
  refine ⟨⟨h.1.1, h.1.2.1, h.1.2.2.1, fun s hs => ?_⟩, h.2.1, h.2.2.1, ⟨by simp; omega, fun i hi => ?_⟩⟩
  · have hs : s ∈ t.groups ++ [x] := hs
    simp at hs
    rcases hs with hs | rfl
    · exact h.1.2.2.2 s hs
    · exact hx
  · show (t.groups ++ [x])[i].name.size ≤ 1048576
    by_cases hj : i < t.groups.length
    · rw [List.getElem_append_left hj]; exact h.2.2.2.2 i hj
    · have hi : i < (t.groups ++ [x]).length := hi
      rw [List.getElem_append_right (by omega)]; simp; omega
end Go.Proofs.Ytjnbhppnchmeoaa

namespace Go.Proofs.Ytjnbhppnchmeoaa
open Go.RowKit
set_option linter.unusedVariables false
set_option maxRecDepth 1000000

theorem name_a : nameB ⟨#[97]⟩ = true := nameB_true (by decide) (by decide) fun k hk _ => by
  have hk1 : k < 1 := hk
  obtain rfl : k = 0 := by omega
  rfl
theorem DT.four {w W : World} {B g p : Nat} {t : Tpc} {A C : Option Addr} {a c : Nat} (h : DT w B g p t A a C c W) : W.cell? ⟨p, 0, none⟩ = some (.string t.name) ∧ W.cell? ⟨p, 1, none⟩ = some (.int .i64 t.base) ∧ W.cell? ⟨p, 2, none⟩ = some (.slice A t.held.length a) ∧ W.cell? ⟨p, 3, none⟩ = some (.slice C t.groups.length c) :=
  ⟨h.box.cell (i := 0) rfl, h.box.cell (i := 1) rfl, h.box.cell (i := 2) rfl, h.box.cell (i := 3) rfl⟩
theorem seven {W : World} {q : Nat} {T : TypeId} {x0 x1 x2 x3 x4 x5 x6 : Value} (h : Blk W q T [x0, x1, x2, x3, x4, x5, x6]) : (W.cell? ⟨q, 0, none⟩ = some x0 ∧ W.cell? ⟨q, 1, none⟩ = some x1 ∧ W.cell? ⟨q, 2, none⟩ = some x2 ∧ W.cell? ⟨q, 3, none⟩ = some x3 ∧ W.cell? ⟨q, 4, none⟩ = some x4 ∧ W.cell? ⟨q, 5, none⟩ = some x5 ∧ W.cell? ⟨q, 6, none⟩ = some x6) ∧ (W.frozen? ⟨q, 0, none⟩ = false ∧ W.frozen? ⟨q, 1, none⟩ = false ∧ W.frozen? ⟨q, 2, none⟩ = false ∧ W.frozen? ⟨q, 3, none⟩ = false ∧ W.frozen? ⟨q, 4, none⟩ = false ∧ W.frozen? ⟨q, 5, none⟩ = false ∧ W.frozen? ⟨q, 6, none⟩ = false) :=
  ⟨⟨h.cell (i := 0) rfl, h.cell (i := 1) rfl, h.cell (i := 2) rfl, h.cell (i := 3) rfl, h.cell (i := 4) rfl, h.cell (i := 5) rfl, h.cell (i := 6) rfl⟩, h.froz 0, h.froz 1, h.froz 2, h.froz 3, h.froz 4, h.froz 5, h.froz 6⟩
def YC (w : World) (B g p : Nat) (t : Tpc) (A : Option Addr) (a : Nat) (C : Option Addr) (c : Nat) (y : Value) (W : World) : Prop :=
  ∃ q R A2 a2 C2 c2 T x, y = .pointer (some ⟨q, 0, none⟩) ∧ YT w B g p t A a C c q R A2 a2 C2 c2 T x W ∧ (R.code = 0 → topOK R.o)
theorem yc_new {w W V : World} {B g p : Nat} {t : Tpc} {A C A2 C2 T : Option Addr} {a c a2 c2 x : Nat} {R : Ans} (h : DT w B g p t A a C c W) (hV : w.heap.size ≤ V.heap.size) (hR : R.code = 0 → topOK R.o) (hh : Rx W V.heap.size 9 1 A2 R.o.held.length a2 (R.o.held.map Value.string)) (hg : Gx W V.heap.size C2 c2 R.o.groups) :
    YC w B g p t A a C c (.pointer (some ⟨W.heap.size, 0, none⟩)) (W.alloc (.cells #[.string R.o.name, .int .i64 R.o.base, .slice A2 R.o.held.length a2, .slice C2 R.o.groups.length c2, .slice T R.texts.length x, .int .i64 R.n, .int .i64 R.code] 30)) :=
  ⟨W.heap.size, R, A2, a2, C2, c2, T, x, rfl, yt_new h (hh.low hV) (hg.low hV), hR⟩
theorem yc_put {w W V : World} {B g p q : Nat} {t : Tpc} {A C A2 C2 T : Option Addr} {a c a2 c2 x : Nat} {R : Ans} {cs : List Value} (h : DT w B g p t A a C c W) (hV : w.heap.size ≤ V.heap.size) (hB : Blk W q 30 cs) (hl : cs.length = 7) (hq : w.heap.size ≤ q) (hR : R.code = 0 → topOK R.o) (hh : Rx W V.heap.size 9 1 A2 R.o.held.length a2 (R.o.held.map Value.string)) (hg : Gx W V.heap.size C2 c2 R.o.groups) :
    YC w B g p t A a C c (.pointer (some ⟨q, 0, none⟩)) (((((((W.setCell ⟨q, 0, none⟩ (.string R.o.name)).setCell ⟨q, 1, none⟩ (.int .i64 R.o.base)).setCell ⟨q, 2, none⟩ (.slice A2 R.o.held.length a2)).setCell ⟨q, 3, none⟩ (.slice C2 R.o.groups.length c2)).setCell ⟨q, 4, none⟩ (.slice T R.texts.length x)).setCell ⟨q, 5, none⟩ (.int .i64 R.n)).setCell ⟨q, 6, none⟩ (.int .i64 R.code)) :=
  ⟨q, R, A2, a2, C2, c2, T, x, rfl, yt_put h hB hl hq (hh.low hV) (hg.low hV), hR⟩

set_option maxHeartbeats 32000000 in
theorem l07Loop (B g : Nat) (w : World) (h : Drw w B g) :
    Calls Try.prog 50 #[.pointer (some ⟨g, 0, none⟩)] w fun e w' => ∃ (t : Tpc) (A : Option Addr) (a : Nat) (C : Option Addr) (c : Nat), e = .returned (topV t.name t.base (.slice A t.held.length a) (.slice C t.groups.length c)) ∧ t.fits ∧ t.small ∧ Rx w' w.heap.size 9 1 A t.held.length a (t.held.map Value.string) ∧ Gx w' w.heap.size C c t.groups ∧ Drw w' B g ∧ w.grownBy w' (some g) := by
  have hgl := h.lt.2.1
  have hR0 := Blk.fresh w 26 [.string ⟨#[]⟩, .int .i64 0, .slice none 0 0, .slice none 0 0]
  have hd0 := h.alloc (.cells #[.string ⟨#[]⟩, .int .i64 0, .slice none 0 0, .slice none 0 0] 26)
  have hg0 := World.grownBy_alloc w (.cells #[.string ⟨#[]⟩, .int .i64 0, .slice none 0 0, .slice none 0 0] 26) (some g)
  simp only [List.toArray] at hR0
  go_enter Try.func50, Try.ntmps50
  go_wp2_with (fail)
  refine (n_any B g 3 _ hd0 (by omega) (by omega)).mono ?_
  rintro e w1 ⟨b, rfl, b0, b1', _, hd1, ho1⟩
  have b1 := b1' (by omega)
  clear b1'
  replace hR0 := hR0.grown ho1 (fun e => by have := Option.some.inj e; omega)
  replace hg0 := only_trans hg0 ho1
  have hwl := hR0.lt
  clear hd0 ho1
  have HT : topOK ⟨⟨#[97]⟩, b, [], []⟩ := topEl_iff.2 ⟨name_a, by show 0 ≤ b; omega, by show (0 : Nat) ≤ 20; omega, by simp, by show (0 : Nat) ≤ 4; omega, by show b + ((0 : Nat) : Int) ≤ 1000000000; omega, List.Pairwise.nil, by simp⟩
  have HS : DT w B g w1.heap.size ⟨⟨#[97]⟩, b, [], []⟩ none 0 none 0 (w1.alloc (.cells #[.string ⟨#[97]⟩, .int .i64 b, .slice none 0 0, .slice none 0 0] 26)) :=
    ⟨hd1.alloc _, only_trans hg0 (World.grownBy_alloc w1 _ _), hR0.alloc _, Blk.fresh w1 26 [.string ⟨#[97]⟩, .int .i64 b, .slice none 0 0, .slice none 0 0], rx_nil _ _ _ _, gx_nil _ _, hwl, hgl⟩
  clear hR0 hg0 hd1
  go_wp2_with (fail)
  generalize w1.alloc (.cells #[.string ⟨#[97]⟩, .int .i64 b, .slice none 0 0, .slice none 0 0] 26) = W1 at HS ⊢
  generalize w1.heap.size = p at HS ⊢
  refine (n_any B g 14 _ HS.drw (by omega) (by omega)).mono ?_
  rintro e w2 ⟨n, rfl, n0, n1', _, hd2, ho2⟩
  have n1 := n1' (by omega)
  clear n1'
  replace HS := HS.draw hd2 ho2
  clear hd2 ho2 W1 hwl b0 b1
  go_wp2_with (fail)
  go_loopw [4] (fun i wr => ∃ (k : Nat) (t : Tpc) (A : Option Addr) (a : Nat) (C : Option Addr) (c : Nat), i = .int .i64 k ∧ k ≤ 13 ∧ DT w B g p t A a C c wr ∧ topOK t) (fun i _ => (intOf i).toNat)
  case atStart => exact ⟨n.toNat, _, none, 0, none, 0, by congr 1; omega, by omega, HS, HT⟩
  case round =>
    clear HS HT n0 n1
    obtain ⟨k, t, A, a, C, c, rfl, hk13, hs, ht⟩ := hrel
    by_cases hk : 0 < k
    · have hk' : decide (0 < (k : Int)) = true := by simp; omega
      have hlp := hs.lp
      have c0 := hs.box.cell (i := 0) rfl
      have c1 := hs.box.cell (i := 1) rfl
      have c2 := hs.box.cell (i := 2) rfl
      have c3 := hs.box.cell (i := 3) rfl
      have PU := Lib.hid (fun W (h : DT w B g p t A a C c W) s hs => chgPub h ht s hs)
      have AK := Lib.hid (fun W (h : DT w B g p t A a C c W) s hs n => chgAck h ht s hs n)
      have SK := Lib.hid (fun W (h : DT w B g p t A a C c W) s hs n => chgSeek h ht s hs n)
      have RT := Lib.hid (fun W (h : DT w B g p t A a C c W) n h0 h1 => chgRet h ht n h0 h1)
      go_upto_region 5 with (fail)
      go_cut [5] (fun y wx => YC w B g p t A a C c y wx)
      case first =>
        clear c0 c1 c2 c3 AK SK RT hk hk'
        have hs0 := hs.drew
        have hsS := (hs.alloc (.cells #[.string ⟨#[120]⟩, .string ⟨#[121, 121]⟩] 9)).drew
        have hsY := (hs.alloc (.cells #[.string ⟨#[]⟩, .int .i64 0, .slice none 0 0, .slice none 0 0, .slice none 0 0, .int .i64 0, .int .i64 0] 30)).drew
        have hsYS := ((hs.alloc (.cells #[.string ⟨#[]⟩, .int .i64 0, .slice none 0 0, .slice none 0 0, .slice none 0 0, .int .i64 0, .int .i64 0] 30)).alloc (.cells #[.string ⟨#[120]⟩, .string ⟨#[121, 121]⟩] 9)).drew
        have hsSY := ((hs.alloc (.cells #[.string ⟨#[120]⟩, .string ⟨#[121, 121]⟩] 9)).alloc (.cells #[.string ⟨#[]⟩, .int .i64 0, .slice none 0 0, .slice none 0 0, .slice none 0 0, .int .i64 0, .int .i64 0] 30)).drew
        have hqr := hs.gr.size
        have bS : Blk (wr.alloc (.cells #[.string ⟨#[120]⟩, .string ⟨#[121, 121]⟩] 9)).drew wr.heap.size 9 [.string ⟨#[120]⟩, .string ⟨#[121, 121]⟩] := (Blk.fresh wr 9 [.string ⟨#[120]⟩, .string ⟨#[121, 121]⟩]).drew
        have bYS : Blk ((wr.alloc (.cells #[.string ⟨#[]⟩, .int .i64 0, .slice none 0 0, .slice none 0 0, .slice none 0 0, .int .i64 0, .int .i64 0] 30)).alloc (.cells #[.string ⟨#[120]⟩, .string ⟨#[121, 121]⟩] 9)).drew (wr.heap.size + 1) 9 [.string ⟨#[120]⟩, .string ⟨#[121, 121]⟩] := by
          have h := (Blk.fresh (wr.alloc (.cells #[.string ⟨#[]⟩, .int .i64 0, .slice none 0 0, .slice none 0 0, .slice none 0 0, .int .i64 0, .int .i64 0] 30)) 9 [.string ⟨#[120]⟩, .string ⟨#[121, 121]⟩]).drew
          rw [World.size_alloc] at h
          exact h
        have bSY : Blk ((wr.alloc (.cells #[.string ⟨#[120]⟩, .string ⟨#[121, 121]⟩] 9)).alloc (.cells #[.string ⟨#[]⟩, .int .i64 0, .slice none 0 0, .slice none 0 0, .slice none 0 0, .int .i64 0, .int .i64 0] 30)).drew wr.heap.size 9 [.string ⟨#[120]⟩, .string ⟨#[121, 121]⟩] := ((Blk.fresh wr 9 [.string ⟨#[120]⟩, .string ⟨#[121, 121]⟩]).alloc (.cells #[.string ⟨#[]⟩, .int .i64 0, .slice none 0 0, .slice none 0 0, .slice none 0 0, .int .i64 0, .int .i64 0] 30)).drew
        have qYS : Blk ((wr.alloc (.cells #[.string ⟨#[]⟩, .int .i64 0, .slice none 0 0, .slice none 0 0, .slice none 0 0, .int .i64 0, .int .i64 0] 30)).alloc (.cells #[.string ⟨#[120]⟩, .string ⟨#[121, 121]⟩] 9)).drew wr.heap.size 30 [.string ⟨#[]⟩, .int .i64 0, .slice none 0 0, .slice none 0 0, .slice none 0 0, .int .i64 0, .int .i64 0] := ((Blk.fresh wr 30 [.string ⟨#[]⟩, .int .i64 0, .slice none 0 0, .slice none 0 0, .slice none 0 0, .int .i64 0, .int .i64 0]).alloc (.cells #[.string ⟨#[120]⟩, .string ⟨#[121, 121]⟩] 9)).drew
        have qSY : Blk ((wr.alloc (.cells #[.string ⟨#[120]⟩, .string ⟨#[121, 121]⟩] 9)).alloc (.cells #[.string ⟨#[]⟩, .int .i64 0, .slice none 0 0, .slice none 0 0, .slice none 0 0, .int .i64 0, .int .i64 0] 30)).drew (wr.heap.size + 1) 30 [.string ⟨#[]⟩, .int .i64 0, .slice none 0 0, .slice none 0 0, .slice none 0 0, .int .i64 0, .int .i64 0] := by
          have h := (Blk.fresh (wr.alloc (.cells #[.string ⟨#[120]⟩, .string ⟨#[121, 121]⟩] 9)) 30 [.string ⟨#[]⟩, .int .i64 0, .slice none 0 0, .slice none 0 0, .slice none 0 0, .int .i64 0, .int .i64 0]).drew
          rw [World.size_alloc] at h
          exact h
        have hsz : Hid (∀ s ∈ [(⟨#[120]⟩ : ByteArray), ⟨#[121, 121]⟩], s.size ≤ 100) := Lib.hid (by decide)
        have PK1 : Hid (Calls Try.prog 106 #[.pointer (some ⟨g, 0, none⟩), .slice (some ⟨wr.heap.size, 0, none⟩) 2 2] (wr.alloc (.cells #[.string ⟨#[120]⟩, .string ⟨#[121, 121]⟩] 9)).drew fun e w' => ∃ s, s ∈ [(⟨#[120]⟩ : ByteArray), ⟨#[121, 121]⟩] ∧ e = .returned (.string s) ∧ Drw w' B g ∧ World.grownBy (wr.alloc (.cells #[.string ⟨#[120]⟩, .string ⟨#[121, 121]⟩] 9)).drew w' (some g)) := Lib.hid (pick_any B g wr.heap.size [⟨#[120]⟩, ⟨#[121, 121]⟩] _ hsS.drw bS (by decide) (by decide))
        have PK2 : Hid (Calls Try.prog 106 #[.pointer (some ⟨g, 0, none⟩), .slice (some ⟨wr.heap.size + 1, 0, none⟩) 2 2] ((wr.alloc (.cells #[.string ⟨#[]⟩, .int .i64 0, .slice none 0 0, .slice none 0 0, .slice none 0 0, .int .i64 0, .int .i64 0] 30)).alloc (.cells #[.string ⟨#[120]⟩, .string ⟨#[121, 121]⟩] 9)).drew fun e w' => ∃ s, s ∈ [(⟨#[120]⟩ : ByteArray), ⟨#[121, 121]⟩] ∧ e = .returned (.string s) ∧ Drw w' B g ∧ World.grownBy ((wr.alloc (.cells #[.string ⟨#[]⟩, .int .i64 0, .slice none 0 0, .slice none 0 0, .slice none 0 0, .int .i64 0, .int .i64 0] 30)).alloc (.cells #[.string ⟨#[120]⟩, .string ⟨#[121, 121]⟩] 9)).drew w' (some g)) := Lib.hid (pick_any B g (wr.heap.size + 1) [⟨#[120]⟩, ⟨#[121, 121]⟩] _ hsYS.drw bYS (by decide) (by decide))
        have PK3 : Hid (Calls Try.prog 106 #[.pointer (some ⟨g, 0, none⟩), .slice (some ⟨wr.heap.size, 0, none⟩) 2 2] ((wr.alloc (.cells #[.string ⟨#[120]⟩, .string ⟨#[121, 121]⟩] 9)).alloc (.cells #[.string ⟨#[]⟩, .int .i64 0, .slice none 0 0, .slice none 0 0, .slice none 0 0, .int .i64 0, .int .i64 0] 30)).drew fun e w' => ∃ s, s ∈ [(⟨#[120]⟩ : ByteArray), ⟨#[121, 121]⟩] ∧ e = .returned (.string s) ∧ Drw w' B g ∧ World.grownBy ((wr.alloc (.cells #[.string ⟨#[120]⟩, .string ⟨#[121, 121]⟩] 9)).alloc (.cells #[.string ⟨#[]⟩, .int .i64 0, .slice none 0 0, .slice none 0 0, .slice none 0 0, .int .i64 0, .int .i64 0] 30)).drew w' (some g)) := Lib.hid (pick_any B g wr.heap.size [⟨#[120]⟩, ⟨#[121, 121]⟩] _ hsSY.drw bSY (by decide) (by decide))
        clear bS bYS bSY
        go_region_held3 (fun W => W.cell? ⟨p, 0, none⟩ = some (.string t.name) ∧ W.cell? ⟨p, 1, none⟩ = some (.int .i64 t.base) ∧ W.cell? ⟨p, 2, none⟩ = some (.slice A t.held.length a) ∧ W.cell? ⟨p, 3, none⟩ = some (.slice C t.groups.length c))
          (first
            | with_reducible exact hs0.four
            | with_reducible exact hsS.four
            | with_reducible exact hsY.four
            | with_reducible exact hsYS.four
            | with_reducible exact hsSY.four
            | with_reducible exact hsa.four
            | with_reducible exact kaY
            | with_reducible exact kd
            | with_reducible exact kdY
            | with_reducible exact kdS
            | with_reducible exact kdP)
          (first
            | (go_at_call 106; first
                | ((with_reducible refine PK1.out.mono ?_); rintro e wa ⟨s, hsm, rfl, hda, hoa⟩; have hsz1 := hsz.out s hsm; have hsa := hsS.draw hda hoa; have kaY := (hsa.alloc (.cells #[.string ⟨#[]⟩, .int .i64 0, .slice none 0 0, .slice none 0 0, .slice none 0 0, .int .i64 0, .int .i64 0] 30)).four)
                | ((with_reducible refine PK2.out.mono ?_); rintro e wa ⟨s, hsm, rfl, hda, hoa⟩; have hsz1 := hsz.out s hsm; have hsa := hsYS.draw hda hoa; have hYa := qYS.grown hoa (fun e => by have := Option.some.inj e; have := hsYS.lg; omega); have hqa : w.heap.size ≤ wr.heap.size := hqr)
                | ((with_reducible refine PK3.out.mono ?_); rintro e wa ⟨s, hsm, rfl, hda, hoa⟩; have hsz1 := hsz.out s hsm; have hsa := hsSY.draw hda hoa; have hYa := qSY.grown hoa (fun e => by have := Option.some.inj e; have := hsSY.lg; omega); have hqa : w.heap.size ≤ wr.heap.size + 1 := Nat.le_succ_of_le hqr))
            | (go_at_call 14; first
                | (obtain ⟨R, hR, CA⟩ := PU.out wa hsa s hsz1; (with_reducible refine CA.mono ?_); clear CA; rintro e wd ⟨A2, a2, C2, c2, T, x, rfl, hh, hg, hbd⟩; have hsd := hsa.below hbd; have hVd : w.heap.size ≤ wa.heap.size := hsa.gr.size; have kd := hsd.four; have kdY := (hsd.alloc (.cells #[.string ⟨#[]⟩, .int .i64 0, .slice none 0 0, .slice none 0 0, .slice none 0 0, .int .i64 0, .int .i64 0] 30)).four; have kdS := (hsd.alloc (.cells #[.string R.o.name, .int .i64 R.o.base, .slice A2 R.o.held.length a2, .slice C2 R.o.groups.length c2, .slice T R.texts.length x, .int .i64 R.n, .int .i64 R.code] 30)).four; try (have hYd := hYa.below hbd hYa.lt; have kdP := (yt_put (R := R) (T := T) (x := x) hsd hYd rfl hqa (hh.low hVd) (hg.low hVd)).dt.four; obtain ⟨⟨y0, y1, y2, y3, y4, y5, y6⟩, f0, f1, f2, f3, f4, f5, f6⟩ := seven hYd; have hqd := hqa))
                | (obtain ⟨R, hR, CA⟩ := PU.out (wa.alloc (.cells #[.string ⟨#[]⟩, .int .i64 0, .slice none 0 0, .slice none 0 0, .slice none 0 0, .int .i64 0, .int .i64 0] 30)) (hsa.alloc (.cells #[.string ⟨#[]⟩, .int .i64 0, .slice none 0 0, .slice none 0 0, .slice none 0 0, .int .i64 0, .int .i64 0] 30)) s hsz1; (with_reducible refine CA.mono ?_); clear CA; rintro e wd ⟨A2, a2, C2, c2, T, x, rfl, hh, hg, hbd⟩; have hsd := (hsa.alloc (.cells #[.string ⟨#[]⟩, .int .i64 0, .slice none 0 0, .slice none 0 0, .slice none 0 0, .int .i64 0, .int .i64 0] 30)).below hbd; have hVd : w.heap.size ≤ (wa.alloc (.cells #[.string ⟨#[]⟩, .int .i64 0, .slice none 0 0, .slice none 0 0, .slice none 0 0, .int .i64 0, .int .i64 0] 30)).heap.size := (hsa.alloc (.cells #[.string ⟨#[]⟩, .int .i64 0, .slice none 0 0, .slice none 0 0, .slice none 0 0, .int .i64 0, .int .i64 0] 30)).gr.size; have hqd := hsa.gr.size; have kd := hsd.four; have hYa := Blk.fresh wa 30 [.string ⟨#[]⟩, .int .i64 0, .slice none 0 0, .slice none 0 0, .slice none 0 0, .int .i64 0, .int .i64 0]; have hYd := hYa.below hbd hYa.lt; have kdP := (yt_put (R := R) (T := T) (x := x) hsd hYd rfl hqd (hh.low hVd) (hg.low hVd)).dt.four; obtain ⟨⟨y0, y1, y2, y3, y4, y5, y6⟩, f0, f1, f2, f3, f4, f5, f6⟩ := seven hYd)))
        all_goals
          go_wp2_with (fail)
          go_meet
          case rel => first | with_reducible exact yc_new hsd hVd hR hh hg | with_reducible exact yc_put hsd hVd hYd rfl hqd hR hh hg
      case rest =>
        obtain ⟨q, R, A2, a2, C2, c2', T, x, rfl, hy, hR⟩ := hcut
        clear c0 c1 c2 c3 hs PU
        -- REST
        have hb0 := (topEl_iff.1 ht).2.1
        have hb1 : t.base ≤ 1000000000 := by have := (topEl_iff.1 ht).2.2.2.2.2.1; omega
        go_wp2_with (fail)
        refine (n_any B g 6 _ hy.dt.drw (by omega) (by omega)).mono ?_
        rintro e w3 ⟨v, rfl, v0, v1, _, hd3, ho3⟩
        have v2 := v1 (by omega)
        replace hy := hy.draw hd3 ho3
        clear v1 hd3 ho3
        rcases (show v = 0 ∨ v = 1 ∨ v = 2 ∨ v = 3 ∨ v = 4 ∨ v = 5 by omega) with rfl | rfl | rfl | rfl | rfl | rfl
        focus
          go_upto_region 8 with (fail)
          have hy0 := hy.drew
          have k0 := hy0.dt.four
          have hyS := (hy.alloc (.cells #[.string ⟨#[103]⟩, .string ⟨#[104]⟩, .string ⟨#[105]⟩] 9)).drew
          have kS := hyS.dt.four
          have bS : Blk (w3.alloc (.cells #[.string ⟨#[103]⟩, .string ⟨#[104]⟩, .string ⟨#[105]⟩] 9)).drew w3.heap.size 9 [.string ⟨#[103]⟩, .string ⟨#[104]⟩, .string ⟨#[105]⟩] := (Blk.fresh w3 9 [.string ⟨#[103]⟩, .string ⟨#[104]⟩, .string ⟨#[105]⟩]).drew
          have hsz : Hid (∀ s ∈ [(⟨#[103]⟩ : ByteArray), (⟨#[104]⟩ : ByteArray), (⟨#[105]⟩ : ByteArray)], s.size ≤ 100) := Lib.hid (by decide)
          have PK1 : Hid (Calls Try.prog 106 #[.pointer (some ⟨g, 0, none⟩), .slice (some ⟨w3.heap.size, 0, none⟩) 3 3] (w3.alloc (.cells #[.string ⟨#[103]⟩, .string ⟨#[104]⟩, .string ⟨#[105]⟩] 9)).drew fun e w' => ∃ s, s ∈ [(⟨#[103]⟩ : ByteArray), (⟨#[104]⟩ : ByteArray), (⟨#[105]⟩ : ByteArray)] ∧ e = .returned (.string s) ∧ Drw w' B g ∧ World.grownBy (w3.alloc (.cells #[.string ⟨#[103]⟩, .string ⟨#[104]⟩, .string ⟨#[105]⟩] 9)).drew w' (some g)) := Lib.hid (pick_any B g w3.heap.size [⟨#[103]⟩, ⟨#[104]⟩, ⟨#[105]⟩] _ hyS.dt.drw bS (by decide) (by decide))
          clear bS
          go_region_held3 (fun W => W.cell? ⟨p, 0, none⟩ = some (.string t.name) ∧ W.cell? ⟨p, 1, none⟩ = some (.int .i64 t.base) ∧ W.cell? ⟨p, 2, none⟩ = some (.slice A t.held.length a) ∧ W.cell? ⟨p, 3, none⟩ = some (.slice C t.groups.length c))
            (first
              | with_reducible exact k0
              | with_reducible exact kS
              | with_reducible exact ka
              | with_reducible exact kb
              | with_reducible exact kc
              | with_reducible exact kP)
            (first
              | (go_at_call 106; (with_reducible refine PK1.out.mono ?_); rintro e wa ⟨s, hsm, rfl, hda, hoa⟩; have hsz1 := hsz.out s hsm; have hya := hyS.draw hda hoa; have ka := hya.dt.four)
              | (go_at_call 52; have hdr := hya.dt.drw; (with_reducible refine (n_any B g 4 _ hdr (by omega) (by omega)).mono ?_); clear hdr; rintro e wb ⟨z, rfl, z0, z1, _, hdb, hob⟩; have z2 := z1 (by omega); clear z1; have hyb := hya.draw hdb hob; have kb := hyb.dt.four)
              | (go_at_call 27; obtain ⟨R2, hR2, CA⟩ := AK.out wb hyb.dt s hsz1 (IntKind.i64.wrap (t.base + z)); (with_reducible refine CA.mono ?_); clear CA; rintro e wc ⟨A3, a3, C3, c3, T3, x3, rfl, hh, hg, hbd⟩; have hyc := hyb.below hbd; have hVc := hyb.dt.gr.size; have kc := hyc.dt.four; obtain ⟨⟨y0, y1, y2, y3, y4, y5, y6⟩, f0, f1, f2, f3, f4, f5, f6⟩ := seven hyc.yb; have kP := (yt_put (R := R2) (T := T3) (x := x3) hyc.dt hyc.yb rfl hyc.lq (hh.low hVc) (hg.low hVc)).dt.four))
          have hy2 := yt_put (R := R2) (T := T3) (x := x3) hyc.dt hyc.yb rfl hyc.lq (hh.low hVc) (hg.low hVc)
          generalize (((((((wc.setCell ⟨q, 0, none⟩ (.string R2.o.name)).setCell ⟨q, 1, none⟩ (.int .i64 R2.o.base)).setCell ⟨q, 2, none⟩ (.slice A3 R2.o.held.length a3)).setCell ⟨q, 3, none⟩ (.slice C3 R2.o.groups.length c3)).setCell ⟨q, 4, none⟩ (.slice T3 R2.texts.length x3)).setCell ⟨q, 5, none⟩ (.int .i64 R2.n)).setCell ⟨q, 6, none⟩ (.int .i64 R2.code)) = W2 at hy2 ⊢
          clear hy hy0 hyS hya hyb hyc k0 kS ka kb kc kP y0 y1 y2 y3 y4 y5 y6 f0 f1 f2 f3 f4 f5 f6 hR hsz PK1 hh hg hbd hda hoa hdb hob
          have hR := hR2
          clear hR2
        rotate_left
        focus
          go_upto_region 10 with (fail)
          have hy0 := hy.drew
          have k0 := hy0.dt.four
          have hyS := (hy.alloc (.cells #[.string ⟨#[103]⟩, .string ⟨#[104]⟩] 9)).drew
          have kS := hyS.dt.four
          have bS : Blk (w3.alloc (.cells #[.string ⟨#[103]⟩, .string ⟨#[104]⟩] 9)).drew w3.heap.size 9 [.string ⟨#[103]⟩, .string ⟨#[104]⟩] := (Blk.fresh w3 9 [.string ⟨#[103]⟩, .string ⟨#[104]⟩]).drew
          have hsz : Hid (∀ s ∈ [(⟨#[103]⟩ : ByteArray), (⟨#[104]⟩ : ByteArray)], s.size ≤ 100) := Lib.hid (by decide)
          have PK1 : Hid (Calls Try.prog 106 #[.pointer (some ⟨g, 0, none⟩), .slice (some ⟨w3.heap.size, 0, none⟩) 2 2] (w3.alloc (.cells #[.string ⟨#[103]⟩, .string ⟨#[104]⟩] 9)).drew fun e w' => ∃ s, s ∈ [(⟨#[103]⟩ : ByteArray), (⟨#[104]⟩ : ByteArray)] ∧ e = .returned (.string s) ∧ Drw w' B g ∧ World.grownBy (w3.alloc (.cells #[.string ⟨#[103]⟩, .string ⟨#[104]⟩] 9)).drew w' (some g)) := Lib.hid (pick_any B g w3.heap.size [⟨#[103]⟩, ⟨#[104]⟩] _ hyS.dt.drw bS (by decide) (by decide))
          clear bS
          go_region_held3 (fun W => W.cell? ⟨p, 0, none⟩ = some (.string t.name) ∧ W.cell? ⟨p, 1, none⟩ = some (.int .i64 t.base) ∧ W.cell? ⟨p, 2, none⟩ = some (.slice A t.held.length a) ∧ W.cell? ⟨p, 3, none⟩ = some (.slice C t.groups.length c))
            (first
              | with_reducible exact k0
              | with_reducible exact kS
              | with_reducible exact ka
              | with_reducible exact kb
              | with_reducible exact kc
              | with_reducible exact kP)
            (first
              | (go_at_call 106; (with_reducible refine PK1.out.mono ?_); rintro e wa ⟨s, hsm, rfl, hda, hoa⟩; have hsz1 := hsz.out s hsm; have hya := hyS.draw hda hoa; have ka := hya.dt.four)
              | (go_at_call 52; have hdr := hya.dt.drw; (with_reducible refine (n_any B g 4 _ hdr (by omega) (by omega)).mono ?_); clear hdr; rintro e wb ⟨z, rfl, z0, z1, _, hdb, hob⟩; have z2 := z1 (by omega); clear z1; have hyb := hya.draw hdb hob; have kb := hyb.dt.four)
              | (go_at_call 107; obtain ⟨R2, hR2, CA⟩ := SK.out wb hyb.dt s hsz1 (IntKind.i64.wrap (t.base + z)); (with_reducible refine CA.mono ?_); clear CA; rintro e wc ⟨A3, a3, C3, c3, T3, x3, rfl, hh, hg, hbd⟩; have hyc := hyb.below hbd; have hVc := hyb.dt.gr.size; have kc := hyc.dt.four; obtain ⟨⟨y0, y1, y2, y3, y4, y5, y6⟩, f0, f1, f2, f3, f4, f5, f6⟩ := seven hyc.yb; have kP := (yt_put (R := R2) (T := T3) (x := x3) hyc.dt hyc.yb rfl hyc.lq (hh.low hVc) (hg.low hVc)).dt.four))
          have hy2 := yt_put (R := R2) (T := T3) (x := x3) hyc.dt hyc.yb rfl hyc.lq (hh.low hVc) (hg.low hVc)
          generalize (((((((wc.setCell ⟨q, 0, none⟩ (.string R2.o.name)).setCell ⟨q, 1, none⟩ (.int .i64 R2.o.base)).setCell ⟨q, 2, none⟩ (.slice A3 R2.o.held.length a3)).setCell ⟨q, 3, none⟩ (.slice C3 R2.o.groups.length c3)).setCell ⟨q, 4, none⟩ (.slice T3 R2.texts.length x3)).setCell ⟨q, 5, none⟩ (.int .i64 R2.n)).setCell ⟨q, 6, none⟩ (.int .i64 R2.code)) = W2 at hy2 ⊢
          clear hy hy0 hyS hya hyb hyc k0 kS ka kb kc kP y0 y1 y2 y3 y4 y5 y6 f0 f1 f2 f3 f4 f5 f6 hR hsz PK1 hh hg hbd hda hoa hdb hob
          have hR := hR2
          clear hR2
        rotate_left
        focus
          go_upto_region 12 with (fail)
          have hy0 := hy.drew
          have k0 := hy0.dt.four
          go_region_held3 (fun W => W.cell? ⟨p, 0, none⟩ = some (.string t.name) ∧ W.cell? ⟨p, 1, none⟩ = some (.int .i64 t.base) ∧ W.cell? ⟨p, 2, none⟩ = some (.slice A t.held.length a) ∧ W.cell? ⟨p, 3, none⟩ = some (.slice C t.groups.length c))
            (first
              | with_reducible exact k0
              | with_reducible exact kb
              | with_reducible exact kc
              | with_reducible exact kP)
            (first
              | (go_at_call 52; have hdr := hy0.dt.drw; (with_reducible refine (n_any B g 6 _ hdr (by omega) (by omega)).mono ?_); clear hdr; rintro e wb ⟨z, rfl, z0, z1, _, hdb, hob⟩; have z2 := z1 (by omega); clear z1; have hyb := hy0.draw hdb hob; have kb := hyb.dt.four)
              | (go_at_call 108; obtain ⟨R2, hR2, CA⟩ := RT.out wb hyb.dt z z0 (by omega); (with_reducible refine CA.mono ?_); clear CA; rintro e wc ⟨A3, a3, C3, c3, T3, x3, rfl, hh, hg, hbd⟩; have hyc := hyb.below hbd; have hVc := hyb.dt.gr.size; have kc := hyc.dt.four; obtain ⟨⟨y0, y1, y2, y3, y4, y5, y6⟩, f0, f1, f2, f3, f4, f5, f6⟩ := seven hyc.yb; have kP := (yt_put (R := R2) (T := T3) (x := x3) hyc.dt hyc.yb rfl hyc.lq (hh.low hVc) (hg.low hVc)).dt.four))
          have hy2 := yt_put (R := R2) (T := T3) (x := x3) hyc.dt hyc.yb rfl hyc.lq (hh.low hVc) (hg.low hVc)
          generalize (((((((wc.setCell ⟨q, 0, none⟩ (.string R2.o.name)).setCell ⟨q, 1, none⟩ (.int .i64 R2.o.base)).setCell ⟨q, 2, none⟩ (.slice A3 R2.o.held.length a3)).setCell ⟨q, 3, none⟩ (.slice C3 R2.o.groups.length c3)).setCell ⟨q, 4, none⟩ (.slice T3 R2.texts.length x3)).setCell ⟨q, 5, none⟩ (.int .i64 R2.n)).setCell ⟨q, 6, none⟩ (.int .i64 R2.code)) = W2 at hy2 ⊢
          clear hy hy0 hyb hyc k0 kb kc kP y0 y1 y2 y3 y4 y5 y6 f0 f1 f2 f3 f4 f5 f6 hR hh hg hbd hdb hob
          have hR := hR2
          clear hR2
        rotate_left
        iterate 3
          focus
            have hy2 := hy
            clear hy
            generalize w3 = W2 at hy2 ⊢
            generalize hRR : R = R2 at hy2 hR
            clear hRR
          rotate_left
        all_goals
          clear AK SK RT
          have y6 := hy2.yb.cell (i := 6) rfl
          by_cases hc0 : R2.code = 0
          · have hcd : (R2.code == 0) = true := by simp; exact hc0
            have y0 := hy2.yb.cell (i := 0) rfl
            have y1 := hy2.yb.cell (i := 1) rfl
            have y2 := hy2.yb.cell (i := 2) rfl
            have y3 := hy2.yb.cell (i := 3) rfl
            obtain ⟨c0, c1, c2, c3⟩ := hy2.dt.four
            have f0 := hy2.dt.box.froz 0
            have f1 := hy2.dt.box.froz 1
            have f2 := hy2.dt.box.froz 2
            have f3 := hy2.dt.box.froz 3
            have hn := hy2.take
            have ht2 := hR hc0
            have hkm : (k : Int) - 1 = ((k - 1 : Nat) : Int) := by omega
            have HN := Lib.hid hn
            have HKM := Lib.hid hkm
            clear hn hkm hc0
            go_wp2_with (fail)
            exact ⟨⟨k - 1, R2.o, _, _, _, _, by first | (congr 1; done) | (congr 1; exact HKM.out), by omega, HN.out, ht2⟩, by simp [intOf]; omega⟩
          · have hcd : (R2.code == 0) = false := by simp; exact hc0
            have hkm : (k : Int) - 1 = ((k - 1 : Nat) : Int) := by omega
            have HKM := Lib.hid hkm
            clear hkm hc0
            go_wp2_with (fail)
            exact ⟨⟨k - 1, t, A, a, C, c, by first | (congr 1; done) | (congr 1; exact HKM.out), by omega, hy2.dt, ht⟩, by simp [intOf]; omega⟩
    · obtain rfl : k = 0 := by omega
      have hez := easy_of ht
      have hb0 := (topEl_iff.1 ht).2.1
      have hhl := (topEl_iff.1 ht).2.2.1
      have hgl4 := (topEl_iff.1 ht).2.2.2.2.1
      have hb1 : t.base ≤ 1000000000 := by have := (topEl_iff.1 ht).2.2.2.2.2.1; omega
      clear hk hk13 ht
      go_wp2_with (fail)
      refine (one_any B g 15 _ hs.drw (by omega) (by omega)).mono ?_
      rintro e w3 ⟨b9, rfl, hd3, ho3⟩
      replace hs := hs.draw hd3 ho3
      clear hd3 ho3
      cases b9
      focus
        go_upto_region 26 with (fail)
        have hE : ∃ t' A' a' C' c', DT w B g p t' A' a' C' c' w3 ∧ t'.easy := ⟨t, A, a, C, c, hs, hez⟩
        clear hs hez hb0 hb1 hhl hgl4
        generalize w3 = W9 at hE ⊢
        obtain ⟨t9, A9, a9, C9, c9, hs9, he9⟩ := hE
        obtain ⟨p0, p1, p2, p3⟩ := hs9.four
        have r0 := hs9.res.cell (i := 0) rfl
        have r1 := hs9.res.cell (i := 1) rfl
        have r2 := hs9.res.cell (i := 2) rfl
        have r3 := hs9.res.cell (i := 3) rfl
        have s0 := hs9.res.froz 0
        have s1 := hs9.res.froz 1
        have s2 := hs9.res.froz 2
        have s3 := hs9.res.froz 3
        go_wp2
        obtain ⟨hB9, hrh, hrg, hd9, ho9⟩ := hs9.fin
        generalize (((W9.setCell ⟨w.heap.size, 0, none⟩ (.string t9.name)).setCell ⟨w.heap.size, 1, none⟩ (.int .i64 t9.base)).setCell ⟨w.heap.size, 2, none⟩ (.slice A9 t9.held.length a9)).setCell ⟨w.heap.size, 3, none⟩ (.slice C9 t9.groups.length c9) = W10 at hB9 hrh hrg hd9 ho9 ⊢
        have k0 := hB9.cell (i := 0) rfl
        have k1 := hB9.cell (i := 1) rfl
        have k2 := hB9.cell (i := 2) rfl
        have k3 := hB9.cell (i := 3) rfl
        exact bodyPost_ret (v := topV t9.name t9.base (.slice A9 t9.held.length a9) (.slice C9 t9.groups.length c9)) (by simp [results, Try.results50, go_sem, k0, k1, k2, k3]) rfl ⟨t9, A9, a9, C9, c9, rfl, he9.1, he9.2, hrh, hrg, hd9, ho9⟩
      focus
        go_wp2_with (fail)
        refine (n_any B g 4 _ hs.drw (by omega) (by omega)).mono ?_
        rintro e W0 ⟨v, rfl, v0, v1, _, hd4, ho4⟩
        have v2 := v1 (by omega)
        replace hs := hs.draw hd4 ho4
        clear v1 hd4 ho4
        rcases (show v = 0 ∨ v = 1 ∨ v = 2 ∨ v = 3 by omega) with rfl | rfl | rfl | rfl
        focus
          go_upto_region 19 with (fail)
          have hs0 := hs.drew
          have hsT := (hs.alloc (.cells #[.int .i64 (-1), .int .i64 1000000000, .int .i64 1000000001, .int .i64 (IntKind.i64.wrap (1000000000 - (t.held.length : Int))), .int .i64 999999998] 2)).drew
          have x2 := hs0.four.2.2.1
          have x2T := hsT.four.2.2.1
          have dr : -9223372036854775808 ≤ IntKind.i64.wrap (1000000000 - (t.held.length : Int)) ∧ IntKind.i64.wrap (1000000000 - (t.held.length : Int)) ≤ 9223372036854775807 := by rw [IntWalk.i64_in _ (by omega)]; omega
          go_region_law
            (first
              | (go_simp; go_at_call 52; first
                  | (have hdr := hs0.drw; (with_reducible refine (n_any B g 5 _ hdr (by omega) (by omega)).mono ?_); clear hdr; rintro e wb ⟨y, rfl, y0, y1, _, hdb, hob⟩; have y3 := y1 (by omega); clear y1; have hsb := (hs0.draw hdb hob).alloc (.cells #[.int .i64 (-1), .int .i64 1000000000, .int .i64 1000000001, .int .i64 (IntKind.i64.wrap (1000000000 - (t.held.length : Int))), .int .i64 999999998] 2); have hsn := hs0.draw hdb hob; have xb2 := hsn.four.2.2.1; have xb1 := hsb.box.cell (i := 1) rfl; have fb1 := hsb.box.froz 1; obtain ⟨z, hz, hzc⟩ : ∃ z : Int, z ∈ [-1, 1000000000, 1000000001, IntKind.i64.wrap (1000000000 - (t.held.length : Int)), 999999998] ∧ (wb.alloc (.cells #[.int .i64 (-1), .int .i64 1000000000, .int .i64 1000000001, .int .i64 (IntKind.i64.wrap (1000000000 - (t.held.length : Int))), .int .i64 999999998] 2)).cell? ⟨wb.heap.size, y.toNat, none⟩ = some (.int .i64 z) := ⟨([-1, 1000000000, 1000000001, IntKind.i64.wrap (1000000000 - (t.held.length : Int)), 999999998] : List Int)[y.toNat]'(by simp; omega), List.getElem_mem _, (Blk.fresh wb 2 (([-1, 1000000000, 1000000001, IntKind.i64.wrap (1000000000 - (t.held.length : Int)), 999999998] : List Int).map (Value.int .i64))).cell (by rw [List.getElem?_map, List.getElem?_eq_getElem (by simp; omega)]; rfl)⟩)
                  | (have hdr := hsT.drw; (with_reducible refine (n_any B g 5 _ hdr (by omega) (by omega)).mono ?_); clear hdr; rintro e wb ⟨y, rfl, y0, y1, _, hdb, hob⟩; have y3 := y1 (by omega); clear y1; have hsb := hsT.draw hdb hob; have xb1 := hsb.box.cell (i := 1) rfl; have fb1 := hsb.box.froz 1; obtain ⟨z, hz, hzc⟩ : ∃ z : Int, z ∈ [-1, 1000000000, 1000000001, IntKind.i64.wrap (1000000000 - (t.held.length : Int)), 999999998] ∧ wb.cell? ⟨W0.heap.size, y.toNat, none⟩ = some (.int .i64 z) := pick_cell [-1, 1000000000, 1000000001, IntKind.i64.wrap (1000000000 - (t.held.length : Int)), 999999998] 2 (w := W0.drew) hob hs0.drw.lt.2.1 y0 (by show y < ((5 : Nat) : Int); omega))))
          all_goals
            have hzr : -9223372036854775808 ≤ z ∧ z ≤ 9223372036854775807 := by
              simp only [List.mem_cons, List.not_mem_nil, or_false] at hz
              rcases hz with rfl | rfl | rfl | rfl | rfl
              · decide
              · decide
              · decide
              · exact dr
              · decide
            have hs2 := hsb.setBase z
            have hez2 := easy_base hez hzr
            first
              | (generalize (wb.alloc (.cells #[.int .i64 (-1), .int .i64 1000000000, .int .i64 1000000001, .int .i64 (IntKind.i64.wrap (1000000000 - (t.held.length : Int))), .int .i64 999999998] 2)).setCell ⟨p, 1, none⟩ (.int .i64 z) = W5 at hs2 ⊢; have hs5 : DT w B g p _ _ _ _ _ W5 := hs2; clear hs5)
              | (generalize wb.setCell ⟨p, 1, none⟩ (.int .i64 z) = W5 at hs2 ⊢; have hs5 : DT w B g p _ _ _ _ _ W5 := hs2; clear hs5)
            clear hsb xb1 fb1 hzc hdb hob hs hs0 hsT x2 x2T hez hzr dr hz hb0 hb1 hhl hgl4
            have x3 := hs2.box.cell (i := 3) rfl
            have f3 := hs2.box.froz 3
            go_upto_region 26 with (fail)
            have hE : ∃ t' A' a' C' c', DT w B g p t' A' a' C' c' (W5.setCell ⟨p, 3, none⟩ (.slice none 0 0)) ∧ t'.easy := ⟨_, _, _, _, _, hs2.noGroups, hez2⟩
            clear hs2 hez2 x3 f3
            generalize W5.setCell ⟨p, 3, none⟩ (.slice none 0 0) = W9 at hE ⊢
            obtain ⟨t9, A9, a9, C9, c9, hs9, he9⟩ := hE
            obtain ⟨p0, p1, p2, p3⟩ := hs9.four
            have r0 := hs9.res.cell (i := 0) rfl
            have r1 := hs9.res.cell (i := 1) rfl
            have r2 := hs9.res.cell (i := 2) rfl
            have r3 := hs9.res.cell (i := 3) rfl
            have s0 := hs9.res.froz 0
            have s1 := hs9.res.froz 1
            have s2 := hs9.res.froz 2
            have s3 := hs9.res.froz 3
            go_wp2
            obtain ⟨hB9, hrh, hrg, hd9, ho9⟩ := hs9.fin
            generalize (((W9.setCell ⟨w.heap.size, 0, none⟩ (.string t9.name)).setCell ⟨w.heap.size, 1, none⟩ (.int .i64 t9.base)).setCell ⟨w.heap.size, 2, none⟩ (.slice A9 t9.held.length a9)).setCell ⟨w.heap.size, 3, none⟩ (.slice C9 t9.groups.length c9) = W10 at hB9 hrh hrg hd9 ho9 ⊢
            have k0 := hB9.cell (i := 0) rfl
            have k1 := hB9.cell (i := 1) rfl
            have k2 := hB9.cell (i := 2) rfl
            have k3 := hB9.cell (i := 3) rfl
            exact bodyPost_ret (v := topV t9.name t9.base (.slice A9 t9.held.length a9) (.slice C9 t9.groups.length c9)) (by simp [results, Try.results50, go_sem, k0, k1, k2, k3]) rfl ⟨t9, A9, a9, C9, c9, rfl, he9.1, he9.2, hrh, hrg, hd9, ho9⟩
        focus
          obtain ⟨i0, hi0, hz0, hz1, hz2⟩ := info_parts infoGrp
          go_upto_region 22 with (fail)
          have hs0 := hs.drew
          obtain ⟨_, xa1, _, xa3⟩ := hs0.four
          go_region_law
            (first
              | (go_simp; go_at_call 52; have hdr := hs0.drw; (with_reducible refine (n_any B g 30 _ hdr (by omega) (by omega)).mono ?_); clear hdr; rintro e wb ⟨y, rfl, y0, y1, _, hdb, hob⟩; have y3 := y1 (by omega); clear y1; have hsb := hs0.draw hdb hob; have xb1 := hsb.box.cell (i := 1) rfl; have xb3 := hsb.box.cell (i := 3) rfl; have hsE := hsb.alloc (.cells #[.string ⟨#[122, 122]⟩, .int .i64 (IntKind.i64.wrap (IntKind.i64.wrap (t.base + y) - 1))] 94); have xe3 := hsE.box.cell (i := 3) rfl)
              | (refine step_append_lies _ (by rfl) _ _ _ (by rfl) w.heap.size 94 i0 _ 2 24 Try.underlying24 hi0 hz0 hz1 hz2 rfl (by omega) (.slice C t.groups.length c) t.groups.length (gflat t.groups) (by rfl) hsE.rg ⟨wb.heap.size, 0, none⟩ 1 1 [.string ⟨#[122, 122]⟩, .int .i64 (IntKind.i64.wrap (IntKind.i64.wrap (t.base + y) - 1))] (by rfl) (by rfl) (World.news_of_block (cs := #[.string ⟨#[122, 122]⟩, .int .i64 (IntKind.i64.wrap (IntKind.i64.wrap (t.base + y) - 1))]) (t := 94) (fr := (0, 0)) (heap_alloc_new wb _)) (by simp [Value.oneCell']) (by omega) (by unfold maxLen; omega) (by omega) hsE.gr.size (wb.heap.size + 1) (by simp) ?_; intro gg cap w5 hown5 hgrow5 hat5 hlt5; have F5 := (hsE.box.grown hgrow5 (fun e => gx_ne hsE.rg hsE.box (by decide) e.symm)); have y5 := F5.cell (i := 3) rfl; have f5 := F5.froz 3))
          all_goals
            have hdr : -9223372036854775808 ≤ IntKind.i64.wrap (IntKind.i64.wrap (t.base + y) - 1) ∧ IntKind.i64.wrap (IntKind.i64.wrap (t.base + y) - 1) ≤ 9223372036854775807 := by rw [IntWalk.i64_in (t.base + y) (by omega), IntWalk.i64_in _ (by omega)]; omega
            have hs2 := hsb.appG (x := ⟨⟨#[122, 122]⟩, IntKind.i64.wrap (IntKind.i64.wrap (t.base + y) - 1)⟩) hgrow5 hown5
            have hez2 := easy_group hez (x := ⟨⟨#[122, 122]⟩, IntKind.i64.wrap (IntKind.i64.wrap (t.base + y) - 1)⟩) ⟨by show (2 : Nat) ≤ maxLen; unfold maxLen; omega, hdr⟩ (by show (2 : Nat) ≤ 100; omega) (by omega)
            have hE : ∃ t' A' a' C' c', DT w B g p t' A' a' C' c' (w5.setCell ⟨p, 3, none⟩ (.slice (some ⟨gg, 0, none⟩) (t.groups.length + 1) cap)) ∧ t'.easy := ⟨_, _, _, _, _, hs2, hez2⟩
            clear hs2 hez2 hsb hsE hs hs0 xa1 xa3 xb1 xb3 xe3 F5 y5 f5 hown5 hgrow5 hdr hdb hob hez hb0 hb1 hhl hgl4
            go_upto_region 26 with (fail)
            generalize w5.setCell ⟨p, 3, none⟩ (.slice (some ⟨gg, 0, none⟩) (t.groups.length + 1) cap) = W9 at hE ⊢
            obtain ⟨t9, A9, a9, C9, c9, hs9, he9⟩ := hE
            obtain ⟨p0, p1, p2, p3⟩ := hs9.four
            have r0 := hs9.res.cell (i := 0) rfl
            have r1 := hs9.res.cell (i := 1) rfl
            have r2 := hs9.res.cell (i := 2) rfl
            have r3 := hs9.res.cell (i := 3) rfl
            have s0 := hs9.res.froz 0
            have s1 := hs9.res.froz 1
            have s2 := hs9.res.froz 2
            have s3 := hs9.res.froz 3
            go_wp2
            obtain ⟨hB9, hrh, hrg, hd9, ho9⟩ := hs9.fin
            generalize (((W9.setCell ⟨w.heap.size, 0, none⟩ (.string t9.name)).setCell ⟨w.heap.size, 1, none⟩ (.int .i64 t9.base)).setCell ⟨w.heap.size, 2, none⟩ (.slice A9 t9.held.length a9)).setCell ⟨w.heap.size, 3, none⟩ (.slice C9 t9.groups.length c9) = W10 at hB9 hrh hrg hd9 ho9 ⊢
            have k0 := hB9.cell (i := 0) rfl
            have k1 := hB9.cell (i := 1) rfl
            have k2 := hB9.cell (i := 2) rfl
            have k3 := hB9.cell (i := 3) rfl
            exact bodyPost_ret (v := topV t9.name t9.base (.slice A9 t9.held.length a9) (.slice C9 t9.groups.length c9)) (by simp [results, Try.results50, go_sem, k0, k1, k2, k3]) rfl ⟨t9, A9, a9, C9, c9, rfl, he9.1, he9.2, hrh, hrg, hd9, ho9⟩
        focus
          have hl22 : t.held.length ≤ 22 := by omega
          clear hb0 hb1 hhl hgl4
          go_wp2_with (fail)
          go_loopw [101] (fun _ wr => ∃ (t : Tpc) (A : Option Addr) (a : Nat) (C : Option Addr) (c : Nat), DT w B g p t A a C c wr ∧ t.easy ∧ t.held.length ≤ 22) (fun _ wr => 30 - tLen p wr)
          case atStart => exact ⟨t, A, a, C, c, hs, hez, hl22⟩
          case round =>
            clear hs hez hl22
            clear t A a C c
            obtain ⟨t, A, a, C, c, hs, hez, hl22⟩ := hrel
            have hs0 := hs.drew
            have x2 := hs0.four.2.2.1
            have htl := Lib.hid (tLen_of hs.four.2.2.1)
            go_upto_region 24 with (fail)
            go_region_law
              (first
                | (go_simp; go_at_call 52; have hdr := hs0.drw; (with_reducible refine (n_any B g 3 _ hdr (by omega) (by omega)).mono ?_); clear hdr; rintro e wb ⟨y, rfl, y0, y1, _, hdb, hob⟩; have y3 := y1 (by omega); clear y1; have hsb := hs0.draw hdb hob; have xb2 := hsb.four.2.2.1))
            all_goals
              have hw19 : IntKind.i64.wrap (19 + y) = 19 + y := by rw [IntWalk.i64_in _ (by omega)]
              clear hs hs0 x2 xb2 hdb hob
              by_cases hlt : (t.held.length : Int) < 19 + y
              · have hl1000 : t.held.length ≤ 1000 := by omega
                have hsA := hsb.alloc (.cells #[.string ⟨#[104]⟩] 9)
                have hc1 : (wb.alloc (.cells #[.string ⟨#[104]⟩] 9)).cell? ⟨wb.heap.size, 0, none⟩ = some (.string ⟨#[104]⟩) := (Blk.fresh wb 9 [.string ⟨#[104]⟩]).cell (i := 0) rfl
                have x2 := hsb.box.cell (i := 2) rfl
                have HC1 := Lib.hid hc1
                have HSA := Lib.hid hsA
                clear hc1 hsA
                go_wp2_with (at_builtin; refine wpList_app_held rfl _ _ rfl w.heap.size A t.held t.held.length a rfl rfl HSA.out.rh HSA.out.gr.size ⟨wb.heap.size, 0, none⟩ ⟨#[104]⟩ rfl HC1.out hl1000 ?_; intro A' a' W5 hr5 hx5; have hx := ext_alloc ((Below.refl wb.heap.size wb).alloc (Nat.le_refl _) (.cells #[.string ⟨#[104]⟩] 9)) hx5 hsb.gr.size; have hb5 := (hsb.ext hx).2.2.2.1; have y2 := hb5.cell (i := 2) rfl; have g2 := hb5.froz 2; have hlw : (t.held ++ [(⟨#[104]⟩ : ByteArray)]).length = t.held.length + 1 := (by simp))
                have hs2 := hsb.appH hx hr5
                have hez2 := easy_held hez (y := ⟨#[104]⟩) (by decide) hl1000
                have htl2 := Lib.hid (tLen_of hs2.four.2.2.1)
                refine ⟨⟨_, _, _, _, _, hs2, hez2, by have := hlw; simp only at this ⊢; omega⟩, ?_⟩
                have h1 := htl.out
                have h2 := htl2.out
                simp only [hlw] at h2
                rw [h1]
                first | (rw [h2]; omega) | (simp only [hlw]; rw [h2]; omega)
              · go_upto_region 26 with (fail)
                have hE : ∃ t' A' a' C' c', DT w B g p t' A' a' C' c' wb ∧ t'.easy := ⟨_, _, _, _, _, hsb, hez⟩
                clear hsb hez hw19 htl hlt
                generalize wb = W9 at hE ⊢
                obtain ⟨t9, A9, a9, C9, c9, hs9, he9⟩ := hE
                obtain ⟨p0, p1, p2, p3⟩ := hs9.four
                have r0 := hs9.res.cell (i := 0) rfl
                have r1 := hs9.res.cell (i := 1) rfl
                have r2 := hs9.res.cell (i := 2) rfl
                have r3 := hs9.res.cell (i := 3) rfl
                have s0 := hs9.res.froz 0
                have s1 := hs9.res.froz 1
                have s2 := hs9.res.froz 2
                have s3 := hs9.res.froz 3
                go_wp2
                obtain ⟨hB9, hrh, hrg, hd9, ho9⟩ := hs9.fin
                generalize (((W9.setCell ⟨w.heap.size, 0, none⟩ (.string t9.name)).setCell ⟨w.heap.size, 1, none⟩ (.int .i64 t9.base)).setCell ⟨w.heap.size, 2, none⟩ (.slice A9 t9.held.length a9)).setCell ⟨w.heap.size, 3, none⟩ (.slice C9 t9.groups.length c9) = W10 at hB9 hrh hrg hd9 ho9 ⊢
                have k0 := hB9.cell (i := 0) rfl
                have k1 := hB9.cell (i := 1) rfl
                have k2 := hB9.cell (i := 2) rfl
                have k3 := hB9.cell (i := 3) rfl
                exact bodyPost_ret (v := topV t9.name t9.base (.slice A9 t9.held.length a9) (.slice C9 t9.groups.length c9)) (by simp [results, Try.results50, go_sem, k0, k1, k2, k3]) rfl ⟨t9, A9, a9, C9, c9, rfl, he9.1, he9.2, hrh, hrg, hd9, ho9⟩
        focus
          have hl1000 : t.held.length ≤ 1000 := by omega
          clear hb0 hb1 hhl hgl4
          have hsA := hs.alloc (.cells #[.string ⟨#[]⟩] 9)
          have hc1 : (W0.alloc (.cells #[.string ⟨#[]⟩] 9)).cell? ⟨W0.heap.size, 0, none⟩ = some (.string ⟨#[]⟩) := (Blk.fresh W0 9 [.string ⟨#[]⟩]).cell (i := 0) rfl
          have x2 := hs.box.cell (i := 2) rfl
          have HC1 := Lib.hid hc1
          have HSA := Lib.hid hsA
          clear hc1 hsA
          go_upto_region 26 with (at_builtin; refine wpList_app_held rfl _ _ rfl w.heap.size A t.held t.held.length a rfl rfl HSA.out.rh HSA.out.gr.size ⟨W0.heap.size, 0, none⟩ ⟨#[]⟩ rfl HC1.out hl1000 ?_; intro A' a' W5 hr5 hx5; have hx := ext_alloc ((Below.refl W0.heap.size W0).alloc (Nat.le_refl _) (.cells #[.string ⟨#[]⟩] 9)) hx5 hs.gr.size; have hb5 := (hs.ext hx).2.2.2.1; have y2 := hb5.cell (i := 2) rfl; have g2 := hb5.froz 2; have hlw : (t.held ++ [(⟨#[]⟩ : ByteArray)]).length = t.held.length + 1 := (by simp))
          have hs2 := hs.appH hx hr5
          have hez2 := easy_held hez (y := ⟨#[]⟩) (by decide) hl1000
          have hE : ∃ t0 A0 a0 C0 c0, DT w B g p t0 A0 a0 C0 c0 (W5.setCell ⟨p, 2, none⟩ (.slice A' (t.held.length + 1) a')) ∧ t0.easy := ⟨_, _, _, _, _, hs2, hez2⟩
          clear hs2 hez2 hs hez hx hx5 hr5 hb5 y2 g2 HC1 HSA x2
          first
            | generalize W5.setCell ⟨p, 2, none⟩ (.slice A' (t.held.length + 1) a') = W9 at hE ⊢
          obtain ⟨t9, A9, a9, C9, c9, hs9, he9⟩ := hE
          obtain ⟨p0, p1, p2, p3⟩ := hs9.four
          have r0 := hs9.res.cell (i := 0) rfl
          have r1 := hs9.res.cell (i := 1) rfl
          have r2 := hs9.res.cell (i := 2) rfl
          have r3 := hs9.res.cell (i := 3) rfl
          have s0 := hs9.res.froz 0
          have s1 := hs9.res.froz 1
          have s2 := hs9.res.froz 2
          have s3 := hs9.res.froz 3
          go_wp2
          obtain ⟨hB9, hrh, hrg, hd9, ho9⟩ := hs9.fin
          generalize (((W9.setCell ⟨w.heap.size, 0, none⟩ (.string t9.name)).setCell ⟨w.heap.size, 1, none⟩ (.int .i64 t9.base)).setCell ⟨w.heap.size, 2, none⟩ (.slice A9 t9.held.length a9)).setCell ⟨w.heap.size, 3, none⟩ (.slice C9 t9.groups.length c9) = W10 at hB9 hrh hrg hd9 ho9 ⊢
          have k0 := hB9.cell (i := 0) rfl
          have k1 := hB9.cell (i := 1) rfl
          have k2 := hB9.cell (i := 2) rfl
          have k3 := hB9.cell (i := 3) rfl
          exact bodyPost_ret (v := topV t9.name t9.base (.slice A9 t9.held.length a9) (.slice C9 t9.groups.length c9)) (by simp [results, Try.results50, go_sem, k0, k1, k2, k3]) rfl ⟨t9, A9, a9, C9, c9, rfl, he9.1, he9.2, hrh, hrg, hd9, ho9⟩
end Go.Proofs.Ytjnbhppnchmeoaa
