/- The walk of the law FnSeek. What is fetched, and what an ack of it leaves (plain mathematics). More draws of topics. The method publish of topicWork. -/
import Derived.Test.YtjnbhppnchmeoaaTpRunFW
import Derived.Test.YtjnbhppnchmeoaaTpEndW
import Derived.Test.YtjnbhppnchmeoaaTpFetMW
import Derived.Test.YtjnbhppnchmeoaaTpAckW
import Derived.BigQuiet
import Derived.Deep.RegionLaw
import Derived.Deep.DeepCutAuto
import Derived.Deep.OwnRows
import Derived.Test.YtjnbhppnchmeoaaTpWkW
import Derived.Test.YtjnbhppnchmeoaaIs3W
import Derived.Test.YtjnbhppnchmeoaaTpOpFW
import Derived.Deep.AppendLies
namespace Go.Proofs.Ytjnbhppnchmeoaa
open Go.RowKit
set_option linter.unusedVariables false
set_option linter.unusedSimpArgs false
set_option maxRecDepth 1000000

theorem illF (c : Int) : (ill c).o.fits := ⟨by show (0 : Nat) ≤ maxLen; unfold maxLen; omega, ⟨by show (-9223372036854775808 : Int) ≤ 0; omega, by show (0 : Int) ≤ 9223372036854775807; omega⟩, (fun s h => by cases h), fun g h => by cases h⟩
theorem set_fits (t : Tpc) (g : ByteArray) (n : Int) (b : Bool) : (setT t g n b).o.fits := by
  by_cases h0 : (setT t g n b).code = 0
  · exact (set_ok h0).2.2.2.2.2.2.facts.1
  · by_cases hb : begC t g true = 0
    · rw [setT_ok hb] at h0 ⊢
      rcases Bool.eq_false_or_eq_true (inB n (if b = true then t.base else ((hasG t g).getD (posG t.groups g) zeroGrp).acked) (t.base + t.held.length)) with hr | hr
      · rw [hr] at h0; exact absurd rfl h0
      · rw [hr]; exact illF 8
    · rw [setT_ill hb]; exact illF _
theorem fldN (n : ByteArray) (b : Int) (h g t : Value) (m co : Int) (w : World) : (Instr.field 30 (outV n b h g t m co) 2).run Try.prog w = .ok (.int .i64 m) w := by kernel_rfl
theorem fldC (n : ByteArray) (b : Int) (h g t : Value) (m co : Int) (w : World) : (Instr.field 30 (outV n b h g t m co) 3).run Try.prog w = .ok (.int .i64 co) w := by kernel_rfl
theorem four_of {p : Nat} {t : Tpc} {A C : Option Addr} {a c : Nat} {W : World} (h : Blk W p 26 [.string t.name, .int .i64 t.base, .slice A t.held.length a, .slice C t.groups.length c]) : W.cell? ⟨p, 0, none⟩ = some (.string t.name) ∧ W.cell? ⟨p, 1, none⟩ = some (.int .i64 t.base) ∧ W.cell? ⟨p, 2, none⟩ = some (.slice A t.held.length a) ∧ W.cell? ⟨p, 3, none⟩ = some (.slice C t.groups.length c) :=
  ⟨h.cell (i := 0) rfl, h.cell (i := 1) rfl, h.cell (i := 2) rfl, h.cell (i := 3) rfl⟩
theorem seven_of {q : Nat} {R : Ans} {A5 C5 T5 : Option Addr} {a5 c5 x5 : Nat} {W : World} (g : Blk W q 30 [.string R.o.name, .int .i64 R.o.base, .slice A5 R.o.held.length a5, .slice C5 R.o.groups.length c5, .slice T5 R.texts.length x5, .int .i64 R.n, .int .i64 R.code]) : W.cell? ⟨q, 0, none⟩ = some (.string R.o.name) ∧ W.cell? ⟨q, 1, none⟩ = some (.int .i64 R.o.base) ∧ W.cell? ⟨q, 2, none⟩ = some (.slice A5 R.o.held.length a5) ∧ W.cell? ⟨q, 3, none⟩ = some (.slice C5 R.o.groups.length c5) ∧ W.cell? ⟨q, 4, none⟩ = some (.slice T5 R.texts.length x5) ∧ W.cell? ⟨q, 5, none⟩ = some (.int .i64 R.n) ∧ W.cell? ⟨q, 6, none⟩ = some (.int .i64 R.code) :=
  ⟨g.cell (i := 0) rfl, g.cell (i := 1) rfl, g.cell (i := 2) rfl, g.cell (i := 3) rfl, g.cell (i := 4) rfl, g.cell (i := 5) rfl, g.cell (i := 6) rfl⟩

end Go.Proofs.Ytjnbhppnchmeoaa

namespace Go.Proofs.Ytjnbhppnchmeoaa
open Go.RowKit
set_option linter.unusedVariables false
set_option linter.unusedSimpArgs false
theorem fetch_facts {t : Tpc} {g : ByteArray} {n : Int} (h : (fetT t g n).code = 0) :
    topOK t ∧ topOK (withG t g) ∧ (fetT t g n).o = withG t g ∧ (0 ≤ n ∧ n ≤ 20) ∧ ((fetT t g n).texts.length : Int) ≤ n ∧ t.base ≤ (fetT t g n).n ∧ (fetT t g n).n + (fetT t g n).texts.length ≤ t.base + t.held.length ∧
    (fetT t g n).texts = (t.held.drop ((fetT t g n).n - t.base).toNat).take (fetT t g n).texts.length ∧ (((fetT t g n).texts.length : Int) < n → (fetT t g n).n + (fetT t g n).texts.length = t.base + t.held.length) ∧
    (fetT t g n).n = ((hasG t g).getD (posG t.groups g) zeroGrp).acked := by
  obtain ⟨hb, hn, hw, hp, he⟩ := fet_ok h
  have hi := ack_in hw hp
  have ht := beg_top hb
  rw [he]
  unfold fetchA
  simp only at hi ⊢
  generalize ((hasG t g).getD (posG t.groups g) zeroGrp).acked = a at hi ⊢
  have hl : ((t.held.drop (a - t.base).toNat).take n.toNat).length = min n.toNat (t.held.length - (a - t.base).toNat) := by simp [List.length_take, List.length_drop]
  refine ⟨ht, hw, trivial, hn, ?_, hi.1, ?_, ?_, ?_, trivial⟩
  · rw [hl]; omega
  · rw [hl]; omega
  · rw [hl]
    have : min n.toNat (t.held.length - (a - t.base).toNat) = min n.toNat (t.held.drop (a - t.base).toNat).length := by rw [List.length_drop]
    rw [this, List.take_eq_take_min]
  · rw [hl]; intro hlt; omega
/-- A topic that has the group at a place. -/
theorem at_group {v : Tpc} {g : ByteArray} {k : Nat} {a n : Int} (ho : topOK v) (hk : k < v.groups.length) (hat : v.groups[k] = ⟨g, a⟩) (hn : nameB g = true) (hs : ¬ 20000 < g.size) (hb : inB n 0 20 = true) :
    (fetT v g n).code = 0 ∧ (fetT v g n).n = a ∧ lagT v g = v.base + v.held.length - a ∧ begC v g true = 0 ∧ hasG v g = v.groups ∧ posG v.groups g = k := by
  obtain ⟨q1, q2⟩ := isG_at (rising_of ho) hk (by rw [hat])
  have hB : ∀ ok, ok = true → begC v g ok = 0 := by
    intro ok hok
    refine beg_ok hs ?_ ?_
    · rw [topB_true ho, hn, hok]; decide
    · intro hx; rw [q2] at hx; exact absurd hx.1 (by decide)
  have hH : hasG v g = v.groups := by unfold hasG; rw [if_pos q2]
  have hd : v.groups.getD (posG v.groups g) zeroGrp = ⟨g, a⟩ := by rw [← q1, List.getD_eq_getElem?_getD, List.getElem?_eq_getElem hk, hat]; rfl
  refine ⟨?_, ?_, ?_, hB _ rfl, hH, q1.symm⟩
  · unfold fetT forR; rw [if_pos (hB _ hb)]; rfl
  · unfold fetT forR; rw [if_pos (hB _ hb)]
    show ((hasG v g).getD (posG v.groups g) zeroGrp).acked = a
    rw [hH, hd]
  · unfold lagT
    rw [topB_true ho, if_neg (by decide), q2, if_neg (by decide), hd]
/-- An ack of what was fetched goes through; the next fetch begins there; the lag is what is left. -/
theorem fetch_ack {t : Tpc} {g : ByteArray} {n m : Int} (h : (fetT t g n).code = 0) (hm : m = (fetT t g n).n + (fetT t g n).texts.length) :
    (setT (withG t g) g m false).code = 0 ∧ topOK (setT (withG t g) g m false).o ∧ (fetT (setT (withG t g) g m false).o g n).code = 0 ∧ (fetT (setT (withG t g) g m false).o g n).n = m ∧ lagT (setT (withG t g) g m false).o g = t.base + t.held.length - m := by
  obtain ⟨ht, hw, _, hn, f1, f2, f3, _, _, f5⟩ := fetch_facts h
  obtain ⟨hb, _, _, hp, _⟩ := fet_ok h
  obtain ⟨_, hnm, hin, _⟩ := beg_facts hb
  have hs := beg_short hb
  have hd : (hasG t g).getD (posG t.groups g) zeroGrp = (hasG t g)[posG t.groups g] := by rw [List.getD_eq_getElem?_getD, List.getElem?_eq_getElem hp]; rfl
  obtain ⟨_, _, _, b4, b5, b6⟩ := at_group (v := withG t g) (k := posG t.groups g) (a := (fetT t g n).n) (n := 0) hw hp (by rw [f5, hd]; exact (congrArg (fun x => (⟨x, _⟩ : Grp)) (hasG_name t g).symm).symm ▸ rfl) hnm hs (by decide)
  have hge : (fetT t g n).n ≤ m := by omega
  have hle : m ≤ t.base + t.held.length := by omega
  have hr : inB m (fetT t g n).n (t.base + t.held.length) = true := by unfold inB; simp; omega
  have e1 : setT (withG t g) g m false = setA (withG t g) (posG t.groups g) m := by
    rw [setT_ok b4, b5, b6]
    show moveA (withG t g) (posG t.groups g) m (inB m ((hasG t g).getD (posG t.groups g) zeroGrp).acked (t.base + t.held.length)) = _
    rw [← f5, hr]; rfl
  have ho := set_topOK hw hp (by show t.base ≤ m; omega) hle
  rw [e1]
  have hl : posG t.groups g < ((hasG t g).set (posG t.groups g) ⟨((hasG t g).getD (posG t.groups g) zeroGrp).name, m⟩).length := by rw [List.length_set]; exact hp
  obtain ⟨c1, c2, c3, _, _, _⟩ := at_group (v := (setA (withG t g) (posG t.groups g) m).o) (k := posG t.groups g) (a := m) (n := n) ho hl (by show ((hasG t g).set (posG t.groups g) ⟨((hasG t g).getD (posG t.groups g) zeroGrp).name, m⟩)[posG t.groups g] = _; simp only [List.getElem_set_self, hd, hasG_name]) hnm hs hin
  exact ⟨rfl, ho, c1, c2, c3⟩
end Go.Proofs.Ytjnbhppnchmeoaa

namespace Go.Proofs.Ytjnbhppnchmeoaa
open Go.RowKit
set_option linter.unusedVariables false
set_option linter.unusedSimpArgs false
set_option maxRecDepth 1000000

set_option maxHeartbeats 16000000 in
theorem drawTopicEnd_any (A : Option Addr) (n c : Nat) (w : World) (h : Bts w w.heap.size A n) :
    Calls Try.prog 12 #[.slice A n c] w fun e w' => ∃ (t : Tpc) (A0 : Option Addr) (a0 : Nat) (C0 : Option Addr) (c0 : Nat), e = .returned (topV t.name t.base (.slice A0 t.held.length a0) (.slice C0 t.groups.length c0)) ∧ GotT w w' t A0 a0 C0 c0 := by
  have hb0 : Below w.heap.size w (w.alloc (.cells #[.string ⟨#[]⟩, .int .i64 0, .slice none 0 0, .slice none 0 0] 26)) := (Below.refl _ _).alloc (Nat.le_refl _) _
  have hR0 := Blk.fresh w 26 [.string ⟨#[]⟩, .int .i64 0, .slice none 0 0, .slice none 0 0]
  simp only [List.toArray] at hR0
  have hB0 : Bts (w.alloc (.cells #[.string ⟨#[]⟩, .int .i64 0, .slice none 0 0, .slice none 0 0] 26)) w.heap.size A n := h.of_block fun k hk => hb0.block k hk
  have hz0 := hb0.size
  go_enter Try.func12, Try.ntmps12
  go_wp2_with (fail)
  refine (source_any A n c w.heap.size _ hB0 hz0).mono ?_
  rintro e w1 ⟨g, rfl, hg, hd1, hb1⟩
  have lg : w.heap.size < g := by rw [World.size_alloc] at hg; omega
  replace hR0 := hR0.below hb1 hR0.lt
  replace hb0 := hb0.trans (hb1.mono hz0)
  clear hB0 hz0 hg hb1
  go_wp2_with (fail)
  refine (l07Loop w.heap.size g w1 hd1).mono ?_
  rintro e w2 ⟨t, A0, a0, C0, c0, rfl, hf, hsm, hrh, hrg, hd2, ho2⟩
  have hez : t.easy := ⟨hf, hsm⟩
  replace hrh := hrh.low hb0.size
  replace hrg := hrg.low hb0.size
  replace hR0 := hR0.grown ho2 (fun e => by have := Option.some.inj e; omega)
  replace hb0 := hb0.trans (only_below ho2 (by omega) hb0.size)
  clear hd1 ho2 hf hsm
  have r0 := hR0.cell (i := 0) rfl
  have r1 := hR0.cell (i := 1) rfl
  have r2 := hR0.cell (i := 2) rfl
  have r3 := hR0.cell (i := 3) rfl
  have s0 := hR0.froz 0
  have s1 := hR0.froz 1
  have s2 := hR0.froz 2
  have s3 := hR0.froz 3
  clear hd2
  go_wp2
  clear r0 r1 r2 r3 s0 s1 s2 s3
  have hfin := got_put hR0 hrh hrg hb0
  unfold putT at hfin
  obtain ⟨hB9, hrh, hrg, hb9⟩ := hfin
  generalize (((w2.setCell ⟨w.heap.size, 0, none⟩ (.string t.name)).setCell ⟨w.heap.size, 1, none⟩ (.int .i64 t.base)).setCell ⟨w.heap.size, 2, none⟩ (.slice A0 t.held.length a0)).setCell ⟨w.heap.size, 3, none⟩ (.slice C0 t.groups.length c0) = W9 at hB9 hrh hrg hb9 ⊢
  have k0 := hB9.cell (i := 0) rfl
  have k1 := hB9.cell (i := 1) rfl
  have k2 := hB9.cell (i := 2) rfl
  have k3 := hB9.cell (i := 3) rfl
  exact bodyPost_ret (v := topV t.name t.base (.slice A0 t.held.length a0) (.slice C0 t.groups.length c0)) (by simp only [results, Try.results12]; simp [go_sem, k0, k1, k2, k3]) rfl ⟨t, A0, a0, C0, c0, rfl, ⟨hez, hrh, hrg, hb9⟩⟩
theorem mkP_run (q : Nat) (hq : q ≤ 3010) (W : World) : (Instr.makeSlice 22 (.int .i64 (q : Int)) (.int .i64 (q : Int))).run Try.prog W = .ok (.slice (some ⟨W.heap.size, 0, none⟩) q q) (W.alloc (.cells (madeCells #[.int .u8 0] q) 5)) :=
  run_make_row' (P := Try.prog) 22 5 (.int .u8 0) 1 Try.underlying22 infoU8 rfl .i64 .i64 q (by omega) (by omega) W
theorem mkP_own (q : Nat) (hq : q ≤ 3010) (W : World) : (W.alloc (.cells (madeCells #[.int .u8 0] q) 5)).ownsRow W.heap.size 5 1 (.slice (some ⟨W.heap.size, 0, none⟩) q q) q ((List.replicate q (0 : Int)).map (Value.int .u8)) := by
  obtain ⟨u0, hu0, hv0, hv1, hv2⟩ := info_parts infoU8
  obtain ⟨wm, hmk, hownm, hgrm⟩ := run_make_full (P := Try.prog) W W.heap.size 22 5 u0 (.int .u8 0) 1 Try.underlying22 hu0 hv0 hv1 .i64 .i64 q (by rw [hv2]; omega) (by unfold maxLen; omega) (Nat.le_refl _)
  rw [made_zero] at hownm
  rw [mkP_run q hq W] at hmk
  injection hmk with _ e
  rw [e]
  exact hownm
theorem fresh_pick (l : List Int) (T : TypeId) {v : Int} (v0 : 0 ≤ v) (v1 : v < l.length) : ∃ y, y ∈ l ∧ ∀ X : World, (X.alloc (.cells (l.map (Value.int .i64)).toArray T)).cell? ⟨X.heap.size, v.toNat, none⟩ = some (.int .i64 y) := by
  have hv : v.toNat < l.length := by omega
  exact ⟨l[v.toNat], List.getElem_mem hv, fun X => (Blk.fresh X T (l.map (Value.int .i64))).cell (by rw [List.getElem?_map, List.getElem?_eq_getElem hv]; rfl)⟩
theorem blk_pick {W : World} {b : Nat} {l : List Int} {T : TypeId} (h : Blk W b T (l.map (Value.int .i64))) {v : Int} (v0 : 0 ≤ v) (v1 : v < l.length) : ∃ y, y ∈ l ∧ W.cell? ⟨b, v.toNat, none⟩ = some (.int .i64 y) := by
  have hv : v.toNat < l.length := by omega
  exact ⟨l[v.toNat], List.getElem_mem hv, h.cell (by rw [List.getElem?_map, List.getElem?_eq_getElem hv]; rfl)⟩
theorem pick3 {y : Int} (y0 : 0 ≤ y) (y1 : y < 3) : ∃ m : Nat, m ≤ 41 ∧ ∀ h, ([Value.int .i64 0, Value.int .i64 40, Value.int .i64 41] : List Value)[y.toNat]'h = .int .i64 (m : Int) := by
  rcases (show y = 0 ∨ y = 1 ∨ y = 2 by omega) with rfl | rfl | rfl
  · exact ⟨0, by omega, fun _ => rfl⟩
  · exact ⟨40, by omega, fun _ => rfl⟩
  · exact ⟨41, by omega, fun _ => rfl⟩
/-- The string of made bytes, wherever the store of the topic falls. -/
theorem mkP_str {w X : World} {g q : Nat} {t : Tpc} {A C : Option Addr} {a c : Nat} (hs : DQ w g q t A a C c X) (k : Nat) (hk : k ≤ 3010) :
    (convert 22 9 (.slice (some ⟨X.heap.size, 0, none⟩) k k)).run Try.prog (X.alloc (.cells (madeCells #[.int .u8 0] k) 5)) = .ok (.string (strOfNums (List.replicate k 0))) (X.alloc (.cells (madeCells #[.int .u8 0] k) 5)) ∧
    (convert 22 9 (.slice (some ⟨X.heap.size, 0, none⟩) k k)).run Try.prog (putT (X.alloc (.cells (madeCells #[.int .u8 0] k) 5)) w.heap.size t A a C c) = .ok (.string (strOfNums (List.replicate k 0))) (putT (X.alloc (.cells (madeCells #[.int .u8 0] k) 5)) w.heap.size t A a C c) ∧
    (convert 22 9 (.slice (some ⟨X.heap.size, 0, none⟩) k k)).run Try.prog ((putT X w.heap.size t A a C c).alloc (.cells (madeCells #[.int .u8 0] k) 5)) = .ok (.string (strOfNums (List.replicate k 0))) ((putT X w.heap.size t A a C c).alloc (.cells (madeCells #[.int .u8 0] k) 5)) := by
  have o1 := mkP_own k hk X
  have o2 := mkP_own k hk (putT X w.heap.size t A a C c)
  have hlt := hs.res.lt
  simp only [World.size_setCell] at o2
  refine ⟨own_string o1, own_string (row_far (row_far (row_far (row_far o1 ?_ _) ?_ _) ?_ _) ?_ _), own_string o2⟩ <;> simpa using hlt

set_option maxHeartbeats 16000000 in
theorem drawTopicPublish_any (A : Option Addr) (n c : Nat) (w : World) (h : Bts w w.heap.size A n) :
    Calls Try.prog 10 #[.slice A n c] w fun e w' => ∃ (t : Tpc) (A0 : Option Addr) (a0 : Nat) (C0 : Option Addr) (c0 : Nat) (s : ByteArray), e = .returned (.tuple #[topV t.name t.base (.slice A0 t.held.length a0) (.slice C0 t.groups.length c0), .string s]) ∧ GotT w w' t A0 a0 C0 c0 ∧ s.size ≤ 41 := by
  have hb0 : Below w.heap.size w (w.alloc (.cells #[.string ⟨#[]⟩, .int .i64 0, .slice none 0 0, .slice none 0 0] 26)) := (Below.refl _ _).alloc (Nat.le_refl _) _
  have hR0 := Blk.fresh w 26 [.string ⟨#[]⟩, .int .i64 0, .slice none 0 0, .slice none 0 0]
  simp only [List.toArray] at hR0
  have hB0 : Bts (w.alloc (.cells #[.string ⟨#[]⟩, .int .i64 0, .slice none 0 0, .slice none 0 0] 26)) w.heap.size A n := h.of_block fun k hk => hb0.block k hk
  have hz0 := hb0.size
  go_enter Try.func10, Try.ntmps10
  go_wp2_with (fail)
  refine (source_any A n c w.heap.size _ hB0 hz0).mono ?_
  rintro e w1 ⟨g, rfl, hg, hd1, hb1⟩
  have lg : w.heap.size < g := by rw [World.size_alloc] at hg; omega
  replace hR0 := hR0.below hb1 hR0.lt
  replace hb0 := hb0.trans (hb1.mono hz0)
  clear hB0 hz0 hg hb1
  go_wp2_with (fail)
  refine (l07Loop w.heap.size g w1 hd1).mono ?_
  rintro e w2 ⟨t, A0, a0, C0, c0, rfl, hf, hsm, hrh, hrg, hd2, ho2⟩
  have hez : t.easy := ⟨hf, hsm⟩
  replace hrh := hrh.low hb0.size
  replace hrg := hrg.low hb0.size
  replace hR0 := hR0.grown ho2 (fun e => by have := Option.some.inj e; omega)
  replace hb0 := hb0.trans (only_below ho2 (by omega) hb0.size)
  clear hd1 ho2 hf hsm
  have hs := dq_new hd2 hb0 hR0 hrh hrg lg
  clear hd2 hb0 hR0 hrh hrg
  go_wp2_with (fail)
  generalize w2.alloc (.cells #[.string t.name, .int .i64 t.base, .slice A0 t.held.length a0, .slice C0 t.groups.length c0] 26) = W2 at hs ⊢
  generalize w2.heap.size = q at hs ⊢
  refine (one_any w.heap.size g 10 _ hs.drw (by omega) (by omega)).mono ?_
  rintro e W4 ⟨b, rfl, hdw, how⟩
  replace hs := hs.draw hdw how
  clear hdw how W2
  cases b
  · obtain ⟨x0, x1, x2, x3⟩ := hs.four
    obtain ⟨⟨r0, r1, r2, r3⟩, s0, s1, s2, s3⟩ := hs.resC
    go_wp2
    clear x0 x1 x2 x3 r0 r1 r2 r3 s0 s1 s2 s3
    have hfin := hs.fin
    unfold putT at hfin
    obtain ⟨hB9, _, hrh, hrg, hb9⟩ := hfin
    generalize (((W4.setCell ⟨w.heap.size, 0, none⟩ (.string t.name)).setCell ⟨w.heap.size, 1, none⟩ (.int .i64 t.base)).setCell ⟨w.heap.size, 2, none⟩ (.slice A0 t.held.length a0)).setCell ⟨w.heap.size, 3, none⟩ (.slice C0 t.groups.length c0) = W9 at hB9 hrh hrg hb9 ⊢
    have k0 := hB9.cell (i := 0) rfl
    have k1 := hB9.cell (i := 1) rfl
    have k2 := hB9.cell (i := 2) rfl
    have k3 := hB9.cell (i := 3) rfl
    exact bodyPost_ret (v := .tuple #[.agg #[.string t.name, .int .i64 t.base, .slice A0 t.held.length a0, .slice C0 t.groups.length c0], .string ⟨#[110, 101, 119]⟩]) (by simp only [results, Try.results10]; simp [go_sem, k0, k1, k2, k3]) rfl ⟨t, A0, a0, C0, c0, _, rfl, ⟨hez, hrh, hrg, hb9⟩, by decide⟩
  · go_upto_region 4 with (fail)
    have hs0 := hs.drew
    have hs1 := (hs.alloc (.cells #[.int .i64 0, .int .i64 40, .int .i64 41] 3)).drew
    have hB1 := (Blk.fresh W4 3 ([0, 40, 41].map (Value.int .i64))).below (below_drew (Below.refl _ _)) (Blk.fresh W4 3 ([0, 40, 41].map (Value.int .i64))).lt
    have hgl := hs.drw.lt.2.1
    obtain ⟨x0, x1, x2, x3⟩ := hs0.four
    obtain ⟨u0, u1, u2, u3⟩ := hs1.four
    go_region_law
      (first
        | (go_simp; go_at_call 52; (with_reducible refine (n_any w.heap.size g 3 _ hs1.drw (by omega) (by omega)).mono ?_); rintro e wa ⟨y, rfl, y0, y1, _, hda, hoa⟩; have y2 := y1 (by omega); clear y1; have hsa := hs1.draw hda hoa; obtain ⟨z, hz, hzc⟩ := blk_pick (hB1.grown hoa (fun e => by have := Option.some.inj e; omega)) y0 (by show y < ((3 : Nat) : Int); omega); obtain ⟨m, hm⟩ : ∃ m : Nat, z = (m : Int) ∧ m ≤ 41 := ⟨z.toNat, by simp at hz; omega, by simp at hz; omega⟩; obtain ⟨rfl, hm2⟩ := hm; obtain ⟨f0, f1, f2, f3⟩ := hsa.four; obtain ⟨⟨r0, r1, r2, r3⟩, s0, s1, s2, s3⟩ := hsa.resC; have hmk := mkP_run m (by omega); have hlt := hsa.res.lt; obtain ⟨c1, c2, c3⟩ := mkP_str hsa m (by omega); unfold putT at c2 c3; obtain ⟨zz, HZ⟩ : ∃ z, Hid (madeCells #[.int .u8 0] m = z) := ⟨_, Lib.hid rfl⟩; rw [HZ.out] at c1 c2 c3; simp only [HZ.out] at hmk; (try simp only [World.size_alloc] at c1 c2 c3); obtain ⟨kaf0, kaf1, kaf2, kaf3⟩ := (hsa.alloc (.cells zz 5)).four; obtain ⟨⟨kar0, kar1, kar2, kar3⟩, kas0, kas1, kas2, kas3⟩ := (hsa.alloc (.cells zz 5)).resC)
        | (go_simp; go_at_call 52; (with_reducible refine (n_any w.heap.size g 3 _ hs0.drw (by omega) (by omega)).mono ?_); rintro e wa ⟨y, rfl, y0, y1, _, hda, hoa⟩; have y2 := y1 (by omega); clear y1; have hsa := hs0.draw hda hoa; obtain ⟨m, hm2, hzl⟩ := pick3 y0 (show y < 3 by omega); obtain ⟨f0, f1, f2, f3⟩ := hsa.four; obtain ⟨⟨r0, r1, r2, r3⟩, s0, s1, s2, s3⟩ := hsa.resC; have hmk := mkP_run m (by omega); have hlt := hsa.res.lt; obtain ⟨c1, c2, c3⟩ := mkP_str (hsa.alloc (.cells #[.int .i64 0, .int .i64 40, .int .i64 41] 3)) m (by omega); have c4 := own_string (mkP_own m (by omega) ((putT wa w.heap.size t A0 a0 C0 c0).alloc (.cells #[.int .i64 0, .int .i64 40, .int .i64 41] 3))); unfold putT at c2 c3 c4; obtain ⟨zz, HZ⟩ : ∃ z, Hid (madeCells #[.int .u8 0] m = z) := ⟨_, Lib.hid rfl⟩; rw [HZ.out] at c1 c2 c3 c4; simp only [World.size_alloc, World.size_setCell] at c4; simp only [HZ.out] at hmk; (try simp only [World.size_alloc] at c1 c2 c3); obtain ⟨kaf0, kaf1, kaf2, kaf3⟩ := (hsa.alloc (.cells #[.int .i64 0, .int .i64 40, .int .i64 41] 3)).four; obtain ⟨⟨kar0, kar1, kar2, kar3⟩, kas0, kas1, kas2, kas3⟩ := (hsa.alloc (.cells #[.int .i64 0, .int .i64 40, .int .i64 41] 3)).resC; obtain ⟨kbf0, kbf1, kbf2, kbf3⟩ := ((hsa.alloc (.cells #[.int .i64 0, .int .i64 40, .int .i64 41] 3)).alloc (.cells zz 5)).four; obtain ⟨⟨kbr0, kbr1, kbr2, kbr3⟩, kbs0, kbs1, kbs2, kbs3⟩ := ((hsa.alloc (.cells #[.int .i64 0, .int .i64 40, .int .i64 41] 3)).alloc (.cells zz 5)).resC))
    all_goals
      clear c1 c2 c3 hmk x0 x1 x2 x3 u0 u1 u2 u3 f0 f1 f2 f3 r0 r1 r2 r3 s0 s1 s2 s3 kaf0 kaf1 kaf2 kaf3 kar0 kar1 kar2 kar3 kas0 kas1 kas2 kas3
      have hfin := hsa.fin
      unfold putT at hfin
      obtain ⟨hB9, _, hrh, hrg, hb9⟩ := hfin
      generalize (((wa.setCell ⟨w.heap.size, 0, none⟩ (.string t.name)).setCell ⟨w.heap.size, 1, none⟩ (.int .i64 t.base)).setCell ⟨w.heap.size, 2, none⟩ (.slice A0 t.held.length a0)).setCell ⟨w.heap.size, 3, none⟩ (.slice C0 t.groups.length c0) = W9 at hB9 hrh hrg hb9 ⊢
      go_wp2
      first
        | (have hby := (Below.refl W9.heap.size W9).alloc (Nat.le_refl _) (.cells zz 5)
           have k0 := (hB9.below hby hB9.lt).cell (i := 0) rfl
           have k1 := (hB9.below hby hB9.lt).cell (i := 1) rfl
           have k2 := (hB9.below hby hB9.lt).cell (i := 2) rfl
           have k3 := (hB9.below hby hB9.lt).cell (i := 3) rfl
           exact bodyPost_ret (v := .tuple #[.agg #[.string t.name, .int .i64 t.base, .slice A0 t.held.length a0, .slice C0 t.groups.length c0], .string (strOfNums (List.replicate m 0))]) (by simp only [results, Try.results10]; simp [go_sem, k0, k1, k2, k3]) rfl ⟨t, A0, a0, C0, c0, _, rfl, ⟨hez, hrh.below hby, hrg.below hby, hb9.trans (hby.mono hb9.size)⟩, by rw [strOfNums_size, List.length_replicate]; exact hm2⟩)
        | (have hby := ((Below.refl W9.heap.size W9).alloc (Nat.le_refl _) (.cells #[.int .i64 0, .int .i64 40, .int .i64 41] 3)).alloc (by simp) (.cells zz 5)
           have k0 := (hB9.below hby hB9.lt).cell (i := 0) rfl
           have k1 := (hB9.below hby hB9.lt).cell (i := 1) rfl
           have k2 := (hB9.below hby hB9.lt).cell (i := 2) rfl
           have k3 := (hB9.below hby hB9.lt).cell (i := 3) rfl
           exact bodyPost_ret (v := .tuple #[.agg #[.string t.name, .int .i64 t.base, .slice A0 t.held.length a0, .slice C0 t.groups.length c0], .string (strOfNums (List.replicate m 0))]) (by simp only [results, Try.results10]; simp [go_sem, k0, k1, k2, k3]) rfl ⟨t, A0, a0, C0, c0, _, rfl, ⟨hez, hrh.below hby, hrg.below hby, hb9.trans (hby.mono hb9.size)⟩, by rw [strOfNums_size, List.length_replicate]; exact hm2⟩)
end Go.Proofs.Ytjnbhppnchmeoaa

namespace Go.Proofs.Ytjnbhppnchmeoaa
open Go.RowKit Go.Deep
set_option linter.unusedVariables false
set_option maxRecDepth 1000000
/-- Whether a topic is full. -/
noncomputable def fullB (t : Tpc) : Bool := @decide (t.held.length = 20 ∨ t.base + t.held.length = 1000000000) (Classical.propDecidable _)
theorem fullB_true {t : Tpc} (h : t.held.length = 20 ∨ t.base + t.held.length = 1000000000) : fullB t = true := by unfold fullB; exact @decide_eq_true _ (Classical.propDecidable _) h
theorem fullB_false {t : Tpc} (h : ¬ (t.held.length = 20 ∨ t.base + t.held.length = 1000000000)) : fullB t = false := by unfold fullB; exact @decide_eq_false _ (Classical.propDecidable _) h
/-- What publish leaves. -/
def PubPost (w : World) (lo p : Nat) (t : Tpc) (s : ByteArray) (n : Int) (B : Option Addr) (b : Nat) (e : Ending) (w' : World) : Prop :=
  Below lo w w' ∧ (∀ g cs, g ≠ p → Blk w g 30 cs → Blk w' g 30 cs) ∧ if fullB t = true then e = .returned (.int .i64 9) else e = .returned (.int .i64 0) ∧ ∃ E c, Blk w' p 83 [.string t.name, .int .i64 t.base, .slice E (t.held ++ [s]).length c, .slice B t.groups.length b, .string s, .int .i64 n, .slice none 0 0, .int .i64 (t.base + t.held.length)] ∧ OwnS w' lo (.slice E (t.held ++ [s]).length c) (t.held ++ [s]) ∧ OwnG w' lo (.slice B t.groups.length b) t.groups
set_option maxHeartbeats 8000000 in
theorem publish_any (t : Tpc) (s : ByteArray) (n : Int) (lo p : Nat) (A : Option Addr) (a : Nat) (B : Option Addr) (b : Nat) (w : World) (h : Wk w lo p t s n A a B b) (hl : lo ≤ p) (hs : s.size ≤ 1048576) (hH : t.held.length ≤ 20) (h0 : 0 ≤ t.base) (h1 : t.base + t.held.length ≤ 1000000000) :
    Calls Try.prog 56 #[.pointer (some ⟨p, 0, none⟩)] w (PubPost w lo p t s n B b) := by
  obtain ⟨K, oS, oG⟩ := h
  obtain ⟨nm, bs, H, G⟩ := t
  simp only at K oS oG hH h0 h1
  have hlow : lo ≤ w.heap.size := Nat.le_trans hl (Nat.le_of_lt K.lt)
  have EN := Lib.hid (endOf_any nm bs A H.length a (.slice B G.length b) (by omega) h0 (by omega) rfl)
  have CL := Lib.hid (fun W => clone_any s W hs)
  have FT := Lib.hid (fun h => fullB_true (t := ⟨nm, bs, H, G⟩) h)
  have FF := Lib.hid (fun h => fullB_false (t := ⟨nm, bs, H, G⟩) h)
  have ZM : Hid (Below lo w w) := Lib.hid (Below.refl _ _)
  have k0 := K.cell (i := 0) rfl
  have k1 := K.cell (i := 1) rfl
  have k2 := K.cell (i := 2) rfl
  have k3 := K.cell (i := 3) rfl
  go_enter Try.func56, Try.ntmps56
  go_wp2_with (fail)
  refine (EN.out _).mono ?_
  rintro e w1 ⟨rfl, hb1⟩
  have K1 := K.below hb1 K.lt
  have S1 : w1.ownsRow lo 9 1 (.slice A H.length a) H.length (H.map Value.string) := row_below oS hb1 (Nat.le_refl _)
  have G1 : w1.ownsRow lo 94 2 (.slice B G.length b) G.length (gflat G) := row_below oG hb1 (Nat.le_refl _)
  have hb : Below lo w w1 := hb1.mono hlow
  have hl1 : lo ≤ w1.heap.size := Nat.le_trans hlow hb1.size
  have KP : Hid (∀ g cs, g ≠ p → Blk w g 30 cs → Blk w1 g 30 cs) := Lib.hid fun g cs _ h => h.below hb1 h.lt
  clear k0 k1 k2 k3 K oS oG hb1
  have j2 := K1.cell (i := 2) rfl
  by_cases h20 : H.length = 20
  · have HF := Lib.hid (FT.out (.inl h20))
    have hd : ((H.length : Int) == 20) = true := by rw [h20]; rfl
    clear h20
    go_wp2
    go_ret
    exact ⟨hb, KP.out, by rw [if_pos HF.out]; rfl⟩
  have hd : ((H.length : Int) == 20) = false := by rw [beq_eq_false_iff_ne]; omega
  by_cases hmx : bs + (H.length : Int) = 1000000000
  · have HF := Lib.hid (FT.out (.inr hmx))
    have hd2 : (bs + (H.length : Int) == 1000000000) = true := by rw [hmx]; rfl
    clear hmx h20
    go_wp2
    go_ret
    exact ⟨hb, KP.out, by rw [if_pos HF.out]; rfl⟩
  have HF := Lib.hid (FF.out (fun h => h.elim h20 hmx))
  have hd2 : (bs + (H.length : Int) == 1000000000) = false := by rw [beq_eq_false_iff_ne]; exact hmx
  go_wp2_with (fail)
  clear j2 FT FF
  obtain ⟨i0, hi, hz0, hz1, hz2⟩ := info_parts infoStr
  have nO := own_not S1 K1 (by decide)
  have y2 := K1.drew.cell (i := 2) rfl
  have y4 := K1.drew.cell (i := 4) rfl
  have Kd := K1.drew
  have Sd := S1.drew
  have LK : Hid ((H.map Value.string).length = H.length) := Lib.hid (by simp)
  go_region_law
    (first
      | (go_simp; go_at_call 110; (with_reducible refine (CL.out _).mono ?_); rintro e w4 ⟨rfl, hb4⟩; have y24 := kept_cell hb4 y2; have y44 := kept_cell hb4 y4; have y24a := kept_cell (show Below w4.heap.size w4 (w4.alloc (.cells #[.string s] 9)) from (Below.refl _ _).alloc (Nat.le_refl _) _) y24)
      | (refine step_append_lies _ (by rfl) _ _ _ (by rfl) lo 9 i0 _ 1 16 Try.underlying23 hi hz0 hz1 hz2 rfl (by omega) (.slice A H.length a) H.length _ (by rfl) (World.ownsRow.alloc (row_below Sd hb4 (Nat.le_refl _)) _)
              ⟨w4.heap.size, 0, none⟩ 1 1 [.string s] (by rfl) (by rfl) (World.news_of_block (cs := #[.string s]) (t := 9) (fr := (0, 0)) (heap_alloc_new w4 _)) (by simp [Value.oneCell'])
              (by omega) (by unfold maxLen; omega) (by omega) (by have h := hb4.size; simp only [World.size_drew, World.size_alloc] at h ⊢; omega) (w4.heap.size + 1) (by simp) ?_; intro gg cap' w5 hown5 hgrow5 hat5 hlt5; have q4 : Below w4.heap.size w4 (w4.alloc (.cells #[.string s] 9)) := (Below.refl _ _).alloc (Nat.le_refl _) _; have O5 := ((Kd.below hb4 Kd.lt).below q4 (Kd.below hb4 Kd.lt).lt).grown hgrow5 (Ne.symm nO); have y5 := O5.cell (i := 2) rfl; have f5 := O5.froz 2))
  all_goals
    have hb4' : Below w1.heap.size w1 w4 := (below_drew (Below.refl _ w1)).trans hb4
    have hw4 := hb.trans (hb4'.mono hl1)
    have hl4 : lo ≤ w4.heap.size := Nat.le_trans hl1 hb4'.size
    have hw5 := hw4.alloc hl4 (.cells #[.string s] 9)
    have hb5 := below_row hw5 hlow hgrow5 (fun k e => (S1.lt _ e).1)
    have G4 := World.ownsRow.alloc (row_below G1 hb4' (Nat.le_refl _)) (.cells #[.string s] 9)
    have G5 := World.ownsRow.kept G4 hgrow5 (own_apart G4 (World.ownsRow.alloc (row_below S1 hb4' (Nat.le_refl _)) (.cells #[.string s] 9)) (by decide))
    have KP6 := Lib.hid (fun g cs (hg : g ≠ p) (h : Blk w g 30 cs) => ((((KP.out g cs hg h).below hb4' (KP.out g cs hg h).lt).alloc (.cells #[.string s] 9)).grown hgrow5 (Ne.symm (own_not S1 (KP.out g cs hg h) (by decide)))).far (p := ⟨p, 2, none⟩) hg (.slice (some ⟨gg, 0, none⟩) (H.length + 1) cap'))
    have O6 := O5.put 2 (.slice (some ⟨gg, 0, none⟩) (H.length + 1) cap')
    have G6 := row_off G5 (p := ⟨p, 2, none⟩) (own_not G5 O5 (by decide)) (.slice (some ⟨gg, 0, none⟩) (H.length + 1) cap')
    have o6 := row_off hown5 (p := ⟨p, 2, none⟩) (own_not hown5 O5 (by decide)) (.slice (some ⟨gg, 0, none⟩) (H.length + 1) cap')
    have hb6 := hb5.setCell (p := ⟨p, 2, none⟩) (by simp; omega) (.slice (some ⟨gg, 0, none⟩) (H.length + 1) cap')
    simp only [List.set_cons_succ, List.set_cons_zero] at O6
    clear y2 y4 y24 y44 y24a y5 f5
    generalize w5.setCell ⟨p, 2, none⟩ (.slice (some ⟨gg, 0, none⟩) (H.length + 1) cap') = w6 at O6 G6 o6 hb6 KP6 ⊢
    have z7 := O6.cell (i := 7) rfl
    have f7 := O6.froz 7
    go_wp2
    go_ret
    refine ⟨hb6.setCell (p := ⟨p, 7, none⟩) (by simp; omega) _, fun g cs hg h => (KP6.out g cs hg h).far (p := ⟨p, 7, none⟩) hg _, ?_⟩
    rw [if_neg (by rw [HF.out]; simp)]
    refine ⟨rfl, some ⟨gg, 0, none⟩, cap', ?_, ?_, ?_⟩
    · have := O6.put 7 (.int .i64 (bs + H.length))
      simpa using this
    · have := row_off o6 (p := ⟨p, 7, none⟩) (own_not o6 O6 (by decide)) (.int .i64 (bs + H.length))
      unfold OwnS
      simpa using this
    · exact row_off G6 (p := ⟨p, 7, none⟩) (own_not G6 O6 (by decide)) _
end Go.Proofs.Ytjnbhppnchmeoaa
