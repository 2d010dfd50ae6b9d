/- The contract of impl.groupPlace: a search by halves. The closure of runFor: a group is found or added, then an operation runs. The contract of tooLong. The method runFor of topicWork. -/
import Derived.Test.YtkimieeabmjfgaaTpSetMW
import Derived.Test.YtkimieeabmjfgaaShelf
import Derived.Test.YtkimieeabmjfgaaTpOpFW
import Derived.Test.YtkimieeabmjfgaaTpInsW
import Derived.Test.YtkimieeabmjfgaaTpRunDW
import Derived.Deep.DeepCutAuto
import Derived.Deep.RegionHeld3
import Derived.Test.YtkimieeabmjfgaaRwkW
namespace Go.Proofs.Ytkimieeabmjfgaa
open Go.RowKit
set_option linter.unusedVariables false
set_option maxRecDepth 1000000
theorem compare_any (a b : ByteArray) (w : World) : Calls Try.prog 109 #[.string a, .string b] w fun e w' => e = .returned (.int .i64 (cmpG a b)) ∧ w' = w := Try.strings_Compare a b w
theorem place1_any (g : Grp) (s : ByteArray) (w : World) : Calls Try.prog 119 #[.agg #[.string g.name, .int .i64 g.acked], .string s] w fun e w' => e = .returned (.int .i64 (cmpG g.name s)) ∧ Below w.heap.size w w' := by
  have hK := Blk.fresh w 68 [.string g.name, .int .i64 g.acked]
  have hb := below_box w (.cells #[.string g.name, .int .i64 g.acked] 68)
  have c0 := hK.cell (i := 0) rfl
  simp only [List.toArray] at c0
  go_enter Try.func119, Try.ntmps119
  go_wp2_with (go_at_call 109; refine (compare_any _ _ _).mono ?_; rintro e w' ⟨rfl, rfl⟩)
  go_ret
  exact ⟨rfl, hb⟩
/-- What a search answers. -/
def Plc (w : World) (k : Nat) (r : Bool) (e : Ending) (w' : World) : Prop := e = .returned (.tuple #[.int .i64 k, .bool r]) ∧ Below w.heap.size w w'
set_option maxHeartbeats 4000000 in
theorem bsearch_any (B : Option Addr) (G : List Grp) (d : Nat) (s : ByteArray) (w : World) (hB : Grs w w.heap.size B G) (hr : RisingG G) (hG : G.length ≤ 100000) :
    Calls Try.prog 118 #[.slice B G.length d, .string s, .func (.func 119) #[] #[]] w (Plc w (posG G s) (isG G s)) := by
  have HB := Lib.hid (fun W (h : Below w.heap.size w W) => hB.on h)
  have HP := Lib.hid (fun i (h : i < G.length) => posG_iff (s := s) hr h)
  have hle := posG_le G s
  obtain ⟨p, HPp⟩ : ∃ p, Hid (posG G s = p) := ⟨_, Lib.hid rfl⟩
  rw [HPp.out] at hle HP ⊢
  obtain ⟨r, HR⟩ : ∃ r, Hid (isG G s = r) := ⟨_, Lib.hid rfl⟩
  rw [HR.out]
  go_enter Try.func118, Try.ntmps118
  go_wp2
  go_loopw [9, 10, 11] (fun i j _ wr => ∃ k m : Nat, k ≤ p ∧ p ≤ m ∧ m ≤ G.length ∧ i = .int .i64 k ∧ j = .int .i64 m ∧ Below w.heap.size w wr) (fun i j _ _ => (intOf j).toNat - (intOf i).toNat)
  case atStart => exact ⟨0, G.length, by omega, hle, by omega, rfl, rfl, Below.refl _ _⟩
  case round =>
    obtain ⟨k, m, h1, h2, h3, rfl, rfl, hb⟩ := hrel
    by_cases hlt : k < m
    · have hlt' : (k : Int) < (m : Int) := by omega
      have hq : (k + m) / 2 < G.length := by omega
      have hs1 : ((k : Int) + (m : Int)) / 2 = (((k + m) / 2 : Nat) : Int) := by omega
      obtain ⟨q, HQ⟩ : ∃ q, Hid ((k + m) / 2 = q) := ⟨_, Lib.hid rfl⟩
      rw [HQ.out] at hq
      obtain ⟨a, rfl, hab, c0, c1⟩ := (HB.out _ hb).at q hq
      have hq' : (q : Int) < (G.length : Int) := by omega
      have hsh : Op.shift .shr .u64 ((k : Int) + (m : Int)) .u64 1 = pure (.int .u64 (q : Int)) := by
        rw [shift_shr .u64 .u64 _ 1 (by decide) (by decide)]
        have e : ((k : Int) + (m : Int)) / 2 ^ (1 : Int).toNat = (q : Int) := by have := HQ.out; show ((k : Int) + (m : Int)) / 2 = _; omega
        rw [e]
      clear hs1
      have hm2 : q < m ∧ k ≤ q := by have := HQ.out; omega
      have hq2 : (q : Int) + 1 ≤ 100000 := by omega
      by_cases hl : lessB G[q].name s = true
      · have hz : cmpG G[q].name s < 0 := (cmpG_neg _ _).2 hl
        have hp1 : q < p := (HP.out q hq).1 hl
        have hd : decide (cmpG G[q].name s < 0) = true := by simpa using hz
        clear hl
        go_wp2_with (go_at_call 119; (with_reducible refine (place1_any G[q] s _).mono ?_); rintro e w1 ⟨rfl, hb1⟩)
        refine ⟨⟨q + 1, m, by omega, h2, h3, by go_num, rfl, hb.trans (hb1.mono hb.size)⟩, by simp [intOf]; omega⟩
      · have hz : ¬ cmpG G[q].name s < 0 := fun h => hl ((cmpG_neg _ _).1 h)
        have hp1 : ¬ q < p := fun h => hl ((HP.out q hq).2 h)
        have hd : decide (cmpG G[q].name s < 0) = false := by simpa using hz
        clear hl
        go_wp2_with (go_at_call 119; (with_reducible refine (place1_any G[q] s _).mono ?_); rintro e w1 ⟨rfl, hb1⟩)
        refine ⟨⟨k, q, h1, by omega, by omega, rfl, rfl, hb.trans (hb1.mono hb.size)⟩, by simp [intOf]; omega⟩
    · obtain rfl : k = m := by omega
      obtain rfl : k = p := by omega
      by_cases hp : k < G.length
      · have hp' : (k : Int) < (G.length : Int) := by omega
        have hd : decide ((k : Int) < (G.length : Int)) = true := by simpa using hp
        obtain ⟨a, rfl, hab, c0, c1⟩ := (HB.out _ hb).at k hp
        by_cases hn : G[k].name = s
        · have hz : (cmpG G[k].name s == 0) = true := by rw [(cmpG_zero _ _).2 hn]; rfl
          have hr : r = true := by rw [← HR.out]; exact isG_iff.2 ⟨by rw [HPp.out]; exact hp, by simp only [HPp.out]; exact hn⟩
          have HR2 := Lib.hid hr
          clear hr hn HR HPp
          go_wp2_with (go_at_call 119; (with_reducible refine (place1_any G[k] s _).mono ?_); rintro e w1 ⟨rfl, hb1⟩)
          exact bodyPost_ret (v := .tuple #[.int .i64 k, .bool true]) (by simp [results, Try.results118, go_sem]) rfl ⟨by rw [HR2.out], hb.trans (hb1.mono hb.size)⟩
        · have hz : (cmpG G[k].name s == 0) = false := by rw [beq_eq_false_iff_ne]; exact fun h => hn ((cmpG_zero _ _).1 h)
          have hr : r = false := by rw [← HR.out]; exact isG_not fun ⟨_, h⟩ => hn (by simp only [HPp.out] at h; exact h)
          have HR2 := Lib.hid hr
          clear hr hn HR HPp
          go_wp2_with (go_at_call 119; (with_reducible refine (place1_any G[k] s _).mono ?_); rintro e w1 ⟨rfl, hb1⟩)
          exact bodyPost_ret (v := .tuple #[.int .i64 k, .bool false]) (by simp [results, Try.results118, go_sem]) rfl ⟨by rw [HR2.out], hb.trans (hb1.mono hb.size)⟩
      · obtain rfl : k = G.length := by omega
        have hr : r = false := by rw [← HR.out]; exact isG_not fun ⟨h, _⟩ => hp (by rw [HPp.out] at h; exact h)
        have HR2 := Lib.hid hr
        clear hr HR HPp hp
        go_wp2
        exact bodyPost_ret (v := .tuple #[.int .i64 G.length, .bool false]) (by simp [results, Try.results118, go_sem]) rfl ⟨by rw [HR2.out], hb⟩
theorem groupPlace_any (B : Option Addr) (G : List Grp) (d : Nat) (s : ByteArray) (w : World) (hB : Grs w w.heap.size B G) (hr : RisingG G) (hG : G.length ≤ 100000) :
    Calls Try.prog 89 #[.slice B G.length d, .string s] w (Plc w (posG G s) (isG G s)) := by
  have BS := Lib.hid (bsearch_any B G d s w hB hr hG)
  generalize posG G s = p at BS ⊢
  generalize isG G s = r at BS ⊢
  go_enter Try.func89, Try.ntmps89
  go_wp2_with (go_at_call 118; (with_reducible refine BS.out.mono ?_); rintro e w1 ⟨rfl, hb1⟩)
  exact bodyPost_ret (v := .tuple #[.int .i64 p, .bool r]) (by simp [results, Try.results89, go_sem]) rfl ⟨rfl, hb1⟩
end Go.Proofs.Ytkimieeabmjfgaa

namespace Go.Proofs.Ytkimieeabmjfgaa
open Go.RowKit Go.Deep
set_option linter.unusedVariables false
set_option maxRecDepth 1000000
/-- What an operation of a group answers. -/
noncomputable def forA (t : Tpc) (s : ByteArray) (R : Ans) : Ans := if isG t.groups s = false ∧ 4 ≤ t.groups.length then ill 9 else R
theorem OpPost.after {lo p : Nat} {s : ByteArray} {n : Int} {R : Ans} {w W w' : World} {e : Ending} (hb : Below lo w W) (hk : ∀ g cs, g ≠ p → Blk w g 31 cs → Blk W g 31 cs) (h : OpPost lo p s n R W e w') (hl : lo ≤ w.heap.size) : OpPost lo p s n R w e w' :=
  ⟨hb.trans h.1, fun g cs hg q => h.2.1 g cs hg (hk g cs hg q), h.2.2⟩
theorem blk_ne {w : World} {g h : Nat} {t t' : TypeId} {cs ds : List Value} (h1 : Blk w g t cs) (h2 : Blk w h t' ds) (ht : t ≠ t') : g ≠ h := by
  intro e
  subst e
  unfold Blk at h1 h2
  rw [h1] at h2
  injection h2 with h2
  injection h2 with _ h5 _
  exact ht h5
theorem far2 {W : World} {b c i : Nat} {u0 u1 v : Value} (hne : c ≠ b) (h : W.cell? ⟨c, i, none⟩ = some v) : ((W.setCell ⟨b, 0, none⟩ u0).setCell ⟨b, 1, none⟩ u1).cell? ⟨c, i, none⟩ = some v :=
  cell_put_far (cell_put_far h hne _) hne _
/-- What lies there once the new group is made. -/
def AdCut (w : World) (nm : ByteArray) (bs : Int) (y : Value) (wx : World) : Prop := ∃ W b, W = wx ∧ y = .pointer (some ⟨b, 0, none⟩) ∧ w.heap.size ≤ b ∧ Blk wx b 68 [.string nm, .int .i64 bs] ∧ Below w.heap.size w wx
theorem AdCut.of {w W : World} {b : Nat} {nm : ByteArray} {bs : Int} {u0 u1 : Value} (hZ : Blk W b 68 [u0, u1]) (hb : Below w.heap.size w W) (hbb : w.heap.size ≤ b) : AdCut w nm bs (.pointer (some ⟨b, 0, none⟩)) ((W.setCell ⟨b, 0, none⟩ (.string nm)).setCell ⟨b, 1, none⟩ (.int .i64 bs)) :=
  ⟨_, b, rfl, rfl, hbb, (hZ.put 0 (.string nm)).put 1 (.int .i64 bs), (hb.setCell (p := ⟨b, 0, none⟩) hbb _).setCell (p := ⟨b, 1, none⟩) hbb _⟩
theorem AdCut.late {w W : World} {nm : ByteArray} {bs : Int} (hb : Below w.heap.size w W) : AdCut w nm bs (.pointer (some ⟨W.heap.size, 0, none⟩)) (W.alloc (.cells #[.string nm, .int .i64 bs] 68)) :=
  ⟨_, W.heap.size, rfl, rfl, hb.size, Blk.fresh W 68 [.string nm, .int .i64 bs], hb.alloc hb.size _⟩
/-- What lies there once the group is added. -/
def InCut (w : World) (lo p b5 b9 : Nat) (nm : ByteArray) (bs : Int) (H : List ByteArray) (A : Option Addr) (a : Nat) (s : ByteArray) (n : Int) (opf : FuncId) (L : List Grp) (wx : World) : Prop :=
  ∃ W bg b', W = wx ∧ Blk W p 73 [.string nm, .int .i64 bs, .slice A H.length a, .slice (some ⟨bg, 0, none⟩) L.length b', .string s, .int .i64 n, .slice none 0 0, .int .i64 0] ∧ W.ownsRow lo 68 2 (.slice (some ⟨bg, 0, none⟩) L.length b') L.length (gflat L) ∧ OwnS W lo (.slice A H.length a) H ∧
    Blk W b5 109 [.pointer (some ⟨p, 0, none⟩)] ∧ Blk W b9 75 [.func (.func opf) #[.pointer (some ⟨p, 0, none⟩)] #[]] ∧ Below lo w W ∧ ∀ g cs, g ≠ p → Blk w g 31 cs → Blk W g 31 cs
end Go.Proofs.Ytkimieeabmjfgaa

namespace Go.Proofs.Ytkimieeabmjfgaa
open Go.RowKit
set_option linter.unusedVariables false
theorem tooLong_any (s : ByteArray) (w : World) (hs : s.size ≤ maxLen) : Calls Try.prog 85 #[.string s] w fun e w' => e = .returned (.bool (decide (20000 < s.size))) ∧ w' = w := by
  unfold maxLen at hs
  go_enter Try.func85, Try.ntmps85
  go_wp2
  go_ret
  exact ⟨retB (by simp; omega), rfl⟩
end Go.Proofs.Ytkimieeabmjfgaa

namespace Go.Proofs.Ytkimieeabmjfgaa
open Go.RowKit Go.Deep
set_option linter.unusedVariables false
set_option maxRecDepth 1000000
/-- What runFor answers. -/
noncomputable def rfR (t : Tpc) (g : ByteArray) (r : Bool) (R : Ans) : Ans := if 20000 < g.size then ill 2 else runR t (r && nameB g) (forA t g R)
theorem forR_eq (t : Tpc) (g : ByteArray) (r : Bool) (R : Ans) : forR t g r R = rfR t g r R := by
  unfold forR rfR runR forA begC
  by_cases h1 : 20000 < g.size
  · simp [h1]
  · simp only [if_neg h1]
    rw [Bool.and_comm (nameB g) r]
    by_cases h2 : (topB t && (r && nameB g)) = false
    · simp [h2]
    · simp only [if_neg h2]
      by_cases h3 : isG t.groups g = false ∧ 4 ≤ t.groups.length
      · simp [h3]
      · simp only [if_neg h3]; simp
theorem for_out {lo hi : Nat} {w w9 : World} {on : ByteArray} {ob rn co : Int} {oH N : List ByteArray} {oG : List Grp} {A9 B9 T9 : Option Addr} {a9 b9 x9 : Nat} (hsz : hi ≤ w9.heap.size) (rA : Sl w9 lo hi 9 A9 (oH.map Value.string)) (rB : Sl w9 lo hi 68 B9 (gflat oG)) (rT : Sl w9 lo hi 9 T9 (N.map Value.string)) (hap : Apart A9 T9) (cA : Cap A9 oH.length a9) (cB : Cap B9 oG.length b9) (hb : Below lo w w9) :
    RunO lo w w9 (.returned (outV on ob (.slice A9 oH.length a9) (.slice B9 oG.length b9) (.slice T9 N.length x9) rn co)) ⟨⟨on, ob, oH, oG⟩, N, rn, co⟩ :=
  ⟨A9, a9, B9, b9, T9, x9, rfl, rA.wide (Nat.le_refl _) hsz, rB.wide (Nat.le_refl _) hsz, rT.wide (Nat.le_refl _) hsz, hap, cA, cB, hb⟩
theorem rf_long {t : Tpc} {g : ByteArray} {r : Bool} {R : Ans} (h : 20000 < g.size) : rfR t g r R = ill 2 := by unfold rfR; rw [if_pos h]
theorem rf_run {t : Tpc} {g : ByteArray} {r : Bool} {R : Ans} (h : ¬ 20000 < g.size) : rfR t g r R = runR t (r && nameB g) (forA t g R) := by unfold rfR; rw [if_neg h]
set_option maxHeartbeats 8000000 in
theorem runFor2_any (t : Tpc) (gn s : ByteArray) (n : Int) (r : Bool) (R0 : Ans) (opf : FuncId) (lo p : Nat) (A : Option Addr) (c : Nat) (B : Option Addr) (d : Nat) (w : World) (hf : t.fits) (hsm : t.small) (hgs : gn.size ≤ maxLen) (hA : Strs w w.heap.size A t.held) (hB : Grs w w.heap.size B t.groups) (hp : lo ≤ p)
    (CL : ∀ W b5 b7 b9 A2 a2 B2 b2, Wk W lo p t s n A2 a2 B2 b2 → topOK t → r = true → gn.size ≤ 20000 → Blk W b5 109 [.pointer (some ⟨p, 0, none⟩)] → Blk W b7 9 [.string gn] → Blk W b9 75 [.func (.func opf) #[.pointer (some ⟨p, 0, none⟩)] #[]] → Calls Try.prog 88 #[.pointer (some ⟨b5, 0, none⟩), .pointer (some ⟨b7, 0, none⟩), .pointer (some ⟨b9, 0, none⟩)] W (OpPost lo p s n (forA t gn R0) W))
    (P : Blk w p 73 [.string ⟨#[]⟩, .int .i64 0, .slice none 0 0, .slice none 0 0, .string s, .int .i64 n, .slice none 0 0, .int .i64 0]) :
    Calls Try.prog 45 #[.pointer (some ⟨p, 0, none⟩), topV t.name t.base (.slice A t.held.length c) (.slice B t.groups.length d), .string gn, .bool r, .func (.func opf) #[.pointer (some ⟨p, 0, none⟩)] #[]] w fun e w' => RunO lo w w' e (rfR t gn r R0) ∧ Kp w w' p := by
  have hlow : lo ≤ w.heap.size := Nat.le_trans hp (Nat.le_of_lt P.lt)
  have hplt := P.lt
  have TL := fun w => tooLong_any gn w hgs
  have RN0 := Lib.hid (fun (hg : gn.size ≤ 20000) W b5 b7 b9 (h : Below w.heap.size w W) (hP : Blk W p 73 [.string ⟨#[]⟩, .int .i64 0, .slice none 0 0, .slice none 0 0, .string s, .int .i64 n, .slice none 0 0, .int .i64 0]) (h5 : Blk W b5 109 [.pointer (some ⟨p, 0, none⟩)]) (h7 : Blk W b7 9 [.string gn]) (h9 : Blk W b9 75 [.func (.func opf) #[.pointer (some ⟨p, 0, none⟩)] #[]]) (n5 : b5 ≠ p) (n7 : b7 ≠ p) (n9 : b9 ≠ p) =>
    runFor_any t s n (r && nameB gn) (forA t gn R0) lo p A c B d W hf hsm (hA.on h) (hB.on h) hp b5 b7 b9 (fun W' A2 a2 B2 b2 k ho hr hw => CL W' b5 b7 b9 A2 a2 B2 b2 hw ho (by simp at hr; exact hr.1) hg (k.blk h5 n5) (k.blk h7 n7) (k.blk h9 n9)) hP)
  clear CL
  have RL := Lib.hid (rf_long (t := t) (g := gn) (r := r) (R := R0))
  have RR := Lib.hid (rf_run (t := t) (g := gn) (r := r) (R := R0))
  obtain ⟨R, HR0⟩ : ∃ x, Hid (rfR t gn r R0 = x) := ⟨_, Lib.hid rfl⟩
  rw [HR0.out] at RL RR ⊢
  obtain ⟨nm, bs, H, G⟩ := t
  simp only at RN0 hA hB ⊢
  have K5 := ((((Blk.fresh w 109 [.pointer (some ⟨p, 0, none⟩)]).alloc (.cells #[.string nm, .int .i64 bs, .slice A H.length c, .slice B G.length d] 29)).alloc (.cells #[.string gn] 9)).alloc (.cells #[.func (.func opf) #[.pointer (some ⟨p, 0, none⟩)] #[]] 75)).alloc (.cells #[.string ⟨#[]⟩, .int .i64 0, .slice none 0 0, .slice none 0 0, .slice none 0 0, .int .i64 0, .int .i64 0] 31)
  have K6 := (((Blk.fresh (w.alloc (.cells #[.pointer (some ⟨p, 0, none⟩)] 109)) 29 [.string nm, .int .i64 bs, .slice A H.length c, .slice B G.length d]).alloc (.cells #[.string gn] 9)).alloc (.cells #[.func (.func opf) #[.pointer (some ⟨p, 0, none⟩)] #[]] 75)).alloc (.cells #[.string ⟨#[]⟩, .int .i64 0, .slice none 0 0, .slice none 0 0, .slice none 0 0, .int .i64 0, .int .i64 0] 31)
  have K7 := ((Blk.fresh ((w.alloc (.cells #[.pointer (some ⟨p, 0, none⟩)] 109)).alloc (.cells #[.string nm, .int .i64 bs, .slice A H.length c, .slice B G.length d] 29)) 9 [.string gn]).alloc (.cells #[.func (.func opf) #[.pointer (some ⟨p, 0, none⟩)] #[]] 75)).alloc (.cells #[.string ⟨#[]⟩, .int .i64 0, .slice none 0 0, .slice none 0 0, .slice none 0 0, .int .i64 0, .int .i64 0] 31)
  have K9 := (Blk.fresh (((w.alloc (.cells #[.pointer (some ⟨p, 0, none⟩)] 109)).alloc (.cells #[.string nm, .int .i64 bs, .slice A H.length c, .slice B G.length d] 29)).alloc (.cells #[.string gn] 9)) 75 [.func (.func opf) #[.pointer (some ⟨p, 0, none⟩)] #[]]).alloc (.cells #[.string ⟨#[]⟩, .int .i64 0, .slice none 0 0, .slice none 0 0, .slice none 0 0, .int .i64 0, .int .i64 0] 31)
  have O := Blk.fresh ((((w.alloc (.cells #[.pointer (some ⟨p, 0, none⟩)] 109)).alloc (.cells #[.string nm, .int .i64 bs, .slice A H.length c, .slice B G.length d] 29)).alloc (.cells #[.string gn] 9)).alloc (.cells #[.func (.func opf) #[.pointer (some ⟨p, 0, none⟩)] #[]] 75)) 31 [.string ⟨#[]⟩, .int .i64 0, .slice none 0 0, .slice none 0 0, .slice none 0 0, .int .i64 0, .int .i64 0]
  have hbw : Below w.heap.size w (((((w.alloc (.cells #[.pointer (some ⟨p, 0, none⟩)] 109)).alloc (.cells #[.string nm, .int .i64 bs, .slice A H.length c, .slice B G.length d] 29)).alloc (.cells #[.string gn] 9)).alloc (.cells #[.func (.func opf) #[.pointer (some ⟨p, 0, none⟩)] #[]] 75)).alloc (.cells #[.string ⟨#[]⟩, .int .i64 0, .slice none 0 0, .slice none 0 0, .slice none 0 0, .int .i64 0, .int .i64 0] 31)) := ((((((Below.refl w.heap.size w).alloc (by simp <;> omega) (.cells #[.pointer (some ⟨p, 0, none⟩)] 109)).alloc (by simp <;> omega) (.cells #[.string nm, .int .i64 bs, .slice A H.length c, .slice B G.length d] 29)).alloc (by simp <;> omega) (.cells #[.string gn] 9)).alloc (by simp <;> omega) (.cells #[.func (.func opf) #[.pointer (some ⟨p, 0, none⟩)] #[]] 75)).alloc (by simp <;> omega) (.cells #[.string ⟨#[]⟩, .int .i64 0, .slice none 0 0, .slice none 0 0, .slice none 0 0, .int .i64 0, .int .i64 0] 31))
  have kp := ((((((Kp.refl w p).alloc (.cells #[.pointer (some ⟨p, 0, none⟩)] 109)).alloc (.cells #[.string nm, .int .i64 bs, .slice A H.length c, .slice B G.length d] 29)).alloc (.cells #[.string gn] 9)).alloc (.cells #[.func (.func opf) #[.pointer (some ⟨p, 0, none⟩)] #[]] 75)).alloc (.cells #[.string ⟨#[]⟩, .int .i64 0, .slice none 0 0, .slice none 0 0, .slice none 0 0, .int .i64 0, .int .i64 0] 31))
  replace P := (((((P.alloc (.cells #[.pointer (some ⟨p, 0, none⟩)] 109)).alloc (.cells #[.string nm, .int .i64 bs, .slice A H.length c, .slice B G.length d] 29)).alloc (.cells #[.string gn] 9)).alloc (.cells #[.func (.func opf) #[.pointer (some ⟨p, 0, none⟩)] #[]] 75)).alloc (.cells #[.string ⟨#[]⟩, .int .i64 0, .slice none 0 0, .slice none 0 0, .slice none 0 0, .int .i64 0, .int .i64 0] 31))
  simp only [World.size_alloc] at K5 K6 K7 K9 O
  replace K5 : Blk (((((w.alloc (.cells #[.pointer (some ⟨p, 0, none⟩)] 109)).alloc (.cells #[.string nm, .int .i64 bs, .slice A H.length c, .slice B G.length d] 29)).alloc (.cells #[.string gn] 9)).alloc (.cells #[.func (.func opf) #[.pointer (some ⟨p, 0, none⟩)] #[]] 75)).alloc (.cells #[.string ⟨#[]⟩, .int .i64 0, .slice none 0 0, .slice none 0 0, .slice none 0 0, .int .i64 0, .int .i64 0] 31)) (w.heap.size) 109 [.pointer (some ⟨p, 0, none⟩)] := K5
  replace K6 : Blk (((((w.alloc (.cells #[.pointer (some ⟨p, 0, none⟩)] 109)).alloc (.cells #[.string nm, .int .i64 bs, .slice A H.length c, .slice B G.length d] 29)).alloc (.cells #[.string gn] 9)).alloc (.cells #[.func (.func opf) #[.pointer (some ⟨p, 0, none⟩)] #[]] 75)).alloc (.cells #[.string ⟨#[]⟩, .int .i64 0, .slice none 0 0, .slice none 0 0, .slice none 0 0, .int .i64 0, .int .i64 0] 31)) (w.heap.size + 1) 29 [.string nm, .int .i64 bs, .slice A H.length c, .slice B G.length d] := K6
  replace K7 : Blk (((((w.alloc (.cells #[.pointer (some ⟨p, 0, none⟩)] 109)).alloc (.cells #[.string nm, .int .i64 bs, .slice A H.length c, .slice B G.length d] 29)).alloc (.cells #[.string gn] 9)).alloc (.cells #[.func (.func opf) #[.pointer (some ⟨p, 0, none⟩)] #[]] 75)).alloc (.cells #[.string ⟨#[]⟩, .int .i64 0, .slice none 0 0, .slice none 0 0, .slice none 0 0, .int .i64 0, .int .i64 0] 31)) (w.heap.size + 1 + 1) 9 [.string gn] := K7
  replace K9 : Blk (((((w.alloc (.cells #[.pointer (some ⟨p, 0, none⟩)] 109)).alloc (.cells #[.string nm, .int .i64 bs, .slice A H.length c, .slice B G.length d] 29)).alloc (.cells #[.string gn] 9)).alloc (.cells #[.func (.func opf) #[.pointer (some ⟨p, 0, none⟩)] #[]] 75)).alloc (.cells #[.string ⟨#[]⟩, .int .i64 0, .slice none 0 0, .slice none 0 0, .slice none 0 0, .int .i64 0, .int .i64 0] 31)) (w.heap.size + 1 + 1 + 1) 75 [.func (.func opf) #[.pointer (some ⟨p, 0, none⟩)] #[]] := K9
  replace O : Blk (((((w.alloc (.cells #[.pointer (some ⟨p, 0, none⟩)] 109)).alloc (.cells #[.string nm, .int .i64 bs, .slice A H.length c, .slice B G.length d] 29)).alloc (.cells #[.string gn] 9)).alloc (.cells #[.func (.func opf) #[.pointer (some ⟨p, 0, none⟩)] #[]] 75)).alloc (.cells #[.string ⟨#[]⟩, .int .i64 0, .slice none 0 0, .slice none 0 0, .slice none 0 0, .int .i64 0, .int .i64 0] 31)) (w.heap.size + 1 + 1 + 1 + 1) 31 [.string ⟨#[]⟩, .int .i64 0, .slice none 0 0, .slice none 0 0, .slice none 0 0, .int .i64 0, .int .i64 0] := O
  have hz : w.heap.size + 1 + 1 + 1 + 1 < (((((w.alloc (.cells #[.pointer (some ⟨p, 0, none⟩)] 109)).alloc (.cells #[.string nm, .int .i64 bs, .slice A H.length c, .slice B G.length d] 29)).alloc (.cells #[.string gn] 9)).alloc (.cells #[.func (.func opf) #[.pointer (some ⟨p, 0, none⟩)] #[]] 75)).alloc (.cells #[.string ⟨#[]⟩, .int .i64 0, .slice none 0 0, .slice none 0 0, .slice none 0 0, .int .i64 0, .int .i64 0] 31)).heap.size := O.lt
  have hb := hbw.mono hlow
  by_cases h1 : 20000 < gn.size
  · have HR := Lib.hid (RL.out h1)
    have hd : decide (20000 < gn.size) = true := by simpa using h1
    rw [hd] at TL
    clear h1 hd
    go_enter Try.func45, Try.ntmps45
    go_wp2_with (fail)
    generalize ((((w.alloc (.cells #[.pointer (some ⟨p, 0, none⟩)] 109)).alloc (.cells #[.string nm, .int .i64 bs, .slice A H.length c, .slice B G.length d] 29)).alloc (.cells #[.string gn] 9)).alloc (.cells #[.func (.func opf) #[.pointer (some ⟨p, 0, none⟩)] #[]] 75)).alloc (.cells #[.string ⟨#[]⟩, .int .i64 0, .slice none 0 0, .slice none 0 0, .slice none 0 0, .int .i64 0, .int .i64 0] 31) = v0 at K5 K6 K7 K9 O P hbw hb kp hz ⊢
    have kq0 := K7.cell (i := 0) rfl
    go_wp2_with (fail)
    refine (TL _).mono ?_
    rintro e w1 ⟨rfl, rfl⟩
    clear kq0
    have qc0 := O.cell (i := 0) rfl
    have qf0 := O.froz 0
    have qc1 := O.cell (i := 1) rfl
    have qf1 := O.froz 1
    have qc2 := O.cell (i := 2) rfl
    have qf2 := O.froz 2
    have qc3 := O.cell (i := 3) rfl
    have qf3 := O.froz 3
    have qc4 := O.cell (i := 4) rfl
    have qf4 := O.froz 4
    have qc5 := O.cell (i := 5) rfl
    have qf5 := O.froz 5
    have qc6 := O.cell (i := 6) rfl
    have qf6 := O.froz 6
    go_wp2
    clear qc0 qf0 qc1 qf1 qc2 qf2 qc3 qf3 qc4 qf4 qc5 qf5 qc6 qf6
    have O9 := (((((((O.put 0 (.string ⟨#[]⟩)).put 1 (.int .i64 0)).put 2 (.slice none 0 0)).put 3 (.slice none 0 0)).put 4 (.slice none 0 0)).put 5 (.int .i64 0)).put 6 (.int .i64 2))
    have hb9 := (((((((hb.setCell (p := ⟨w.heap.size + 1 + 1 + 1 + 1, 0, none⟩) (by simp <;> omega) (.string ⟨#[]⟩)).setCell (p := ⟨w.heap.size + 1 + 1 + 1 + 1, 1, none⟩) (by simp <;> omega) (.int .i64 0)).setCell (p := ⟨w.heap.size + 1 + 1 + 1 + 1, 2, none⟩) (by simp <;> omega) (.slice none 0 0)).setCell (p := ⟨w.heap.size + 1 + 1 + 1 + 1, 3, none⟩) (by simp <;> omega) (.slice none 0 0)).setCell (p := ⟨w.heap.size + 1 + 1 + 1 + 1, 4, none⟩) (by simp <;> omega) (.slice none 0 0)).setCell (p := ⟨w.heap.size + 1 + 1 + 1 + 1, 5, none⟩) (by simp <;> omega) (.int .i64 0)).setCell (p := ⟨w.heap.size + 1 + 1 + 1 + 1, 6, none⟩) (by simp <;> omega) (.int .i64 2))
    have kp9 := (((((((kp.put ⟨w.heap.size + 1 + 1 + 1 + 1, 0, none⟩ (.inr (by simp <;> omega)) (.string ⟨#[]⟩)).put ⟨w.heap.size + 1 + 1 + 1 + 1, 1, none⟩ (.inr (by simp <;> omega)) (.int .i64 0)).put ⟨w.heap.size + 1 + 1 + 1 + 1, 2, none⟩ (.inr (by simp <;> omega)) (.slice none 0 0)).put ⟨w.heap.size + 1 + 1 + 1 + 1, 3, none⟩ (.inr (by simp <;> omega)) (.slice none 0 0)).put ⟨w.heap.size + 1 + 1 + 1 + 1, 4, none⟩ (.inr (by simp <;> omega)) (.slice none 0 0)).put ⟨w.heap.size + 1 + 1 + 1 + 1, 5, none⟩ (.inr (by simp <;> omega)) (.int .i64 0)).put ⟨w.heap.size + 1 + 1 + 1 + 1, 6, none⟩ (.inr (by simp <;> omega)) (.int .i64 2))
    simp only [List.set_cons_succ, List.set_cons_zero] at O9
    generalize ((((((w1.setCell ⟨w.heap.size + 1 + 1 + 1 + 1, 0, none⟩ (.string ⟨#[]⟩)).setCell ⟨w.heap.size + 1 + 1 + 1 + 1, 1, none⟩ (.int .i64 0)).setCell ⟨w.heap.size + 1 + 1 + 1 + 1, 2, none⟩ (.slice none 0 0)).setCell ⟨w.heap.size + 1 + 1 + 1 + 1, 3, none⟩ (.slice none 0 0)).setCell ⟨w.heap.size + 1 + 1 + 1 + 1, 4, none⟩ (.slice none 0 0)).setCell ⟨w.heap.size + 1 + 1 + 1 + 1, 5, none⟩ (.int .i64 0)).setCell ⟨w.heap.size + 1 + 1 + 1 + 1, 6, none⟩ (.int .i64 2) = w9 at O9 hb9 kp9  ⊢
    have oc0 := O9.cell (i := 0) rfl
    have oc1 := O9.cell (i := 1) rfl
    have oc2 := O9.cell (i := 2) rfl
    have oc3 := O9.cell (i := 3) rfl
    have oc4 := O9.cell (i := 4) rfl
    have oc5 := O9.cell (i := 5) rfl
    have oc6 := O9.cell (i := 6) rfl
    exact bodyPost_ret (v := .agg #[.string ⟨#[]⟩, .int .i64 0, .slice none 0 0, .slice none 0 0, .slice none 0 0, .int .i64 0, .int .i64 2]) (by simp [results, Try.results45, go_sem, oc0, oc1, oc2, oc3, oc4, oc5, oc6]) rfl (⟨by rw [HR.out]; exact RunO.ill hb9, kp9⟩)
  have hd : decide (20000 < gn.size) = false := by simpa using h1
  rw [hd] at TL
  have RN := Lib.hid (RN0.out (by omega))
  have HR := Lib.hid (RR.out h1)
  clear RN0 RL RR h1 hd
  have NR := Lib.hid (fun W => bl (implName_b (rfl : nameB gn = nameB gn) hgs W))
  cases r with
  | false =>
    go_enter Try.func45, Try.ntmps45
    go_wp2_with (fail)
    generalize ((((w.alloc (.cells #[.pointer (some ⟨p, 0, none⟩)] 109)).alloc (.cells #[.string nm, .int .i64 bs, .slice A H.length c, .slice B G.length d] 29)).alloc (.cells #[.string gn] 9)).alloc (.cells #[.func (.func opf) #[.pointer (some ⟨p, 0, none⟩)] #[]] 75)).alloc (.cells #[.string ⟨#[]⟩, .int .i64 0, .slice none 0 0, .slice none 0 0, .slice none 0 0, .int .i64 0, .int .i64 0] 31) = v0 at K5 K6 K7 K9 O P hbw hb kp hz ⊢
    have kq0 := K7.cell (i := 0) rfl
    go_wp2_with (fail)
    refine (TL _).mono ?_
    rintro e w1 ⟨rfl, rfl⟩
    clear kq0
    go_wp2_with (fail)
    obtain ⟨I, fw, hI, g5', h6, g6', g7'⟩ := class_grown w1
    have x5 := fun q => kept_cell (h6 q) (K5.cell (i := 0) rfl)
    have x7 := fun q => kept_cell (h6 q) (K7.cell (i := 0) rfl)
    have y0 := fun q => kept_cell (h6 q) (K6.cell (i := 0) rfl)
    have y1 := fun q => kept_cell (h6 q) (K6.cell (i := 1) rfl)
    have y2 := fun q => kept_cell (h6 q) (K6.cell (i := 2) rfl)
    have y3 := fun q => kept_cell (h6 q) (K6.cell (i := 3) rfl)
    have G7 := Lib.hid g7'
    have G6 := Lib.hid g6'
    clear h6 g7' g6'
    refine wp_region_class_tail (C := fun w' => ∃ q, w' = fw q) 8 (by kernel_rfl) (by kernel_rfl) g5' ?_
    simp only [List.take_succ_cons, List.take_zero, List.drop_succ_cons, List.drop_zero]
    repeat (first
      | go_big_quiet_skip
      | (go_big_quiet_want; go_big_quiet_op; go_big_quiet_on))
    refine wpQuiet_nil ?_
    intro w5 h5
    have hb5 := G7.out _ h5
    clear x5 x7 y0 y1 y2 y3 g5' h5
    replace P := P.below hb5 P.lt
    replace K5 := K5.below hb5 K5.lt
    replace K7 := K7.below hb5 K7.lt
    replace K9 := K9.below hb5 K9.lt
    replace O := O.below hb5 O.lt
    replace hb := hb.trans (hb5.mono (Nat.le_trans hlow hbw.size))
    replace hbw := hbw.trans (hb5.mono hbw.size)
    replace kp := kp.below hb5
    have RN5 := RN.out w5 _ _ _ hbw P K5 K7 K9 (by omega) (by omega) (by omega)
    rw [← HR.out] at RN5
    clear hb5 hz RN HR
    obtain ⟨⟨on, ob, oH, oG⟩, N, rn, co⟩ := R
    go_wp2_with (fail)
    refine RN5.mono ?_
    rintro e w6 ⟨⟨A1, a1, B1, b1, T1, x1, rfl, sA, sB, sT, hap, cA, cB, hb6⟩, hk⟩
    simp only at sA sB sT cA cB
    replace O := hk _ _ (by omega) O
    replace hb := hb.trans hb6
    replace kp := kp.then hk
    clear RN5 hk P K5 K6 K7 K9 hb6 hbw
    have qc0 := O.cell (i := 0) rfl
    have qf0 := O.froz 0
    have qc1 := O.cell (i := 1) rfl
    have qf1 := O.froz 1
    have qc2 := O.cell (i := 2) rfl
    have qf2 := O.froz 2
    have qc3 := O.cell (i := 3) rfl
    have qf3 := O.froz 3
    have qc4 := O.cell (i := 4) rfl
    have qf4 := O.froz 4
    have qc5 := O.cell (i := 5) rfl
    have qf5 := O.froz 5
    have qc6 := O.cell (i := 6) rfl
    have qf6 := O.froz 6
    go_wp2
    clear qc0 qf0 qc1 qf1 qc2 qf2 qc3 qf3 qc4 qf4 qc5 qf5 qc6 qf6
    have hsz : w6.heap.size ≤ (((((((w6.setCell ⟨w.heap.size + 1 + 1 + 1 + 1, 0, none⟩ (.string on)).setCell ⟨w.heap.size + 1 + 1 + 1 + 1, 1, none⟩ (.int .i64 ob)).setCell ⟨w.heap.size + 1 + 1 + 1 + 1, 2, none⟩ (.slice A1 oH.length a1)).setCell ⟨w.heap.size + 1 + 1 + 1 + 1, 3, none⟩ (.slice B1 oG.length b1)).setCell ⟨w.heap.size + 1 + 1 + 1 + 1, 4, none⟩ (.slice T1 N.length x1)).setCell ⟨w.heap.size + 1 + 1 + 1 + 1, 5, none⟩ (.int .i64 rn)).setCell ⟨w.heap.size + 1 + 1 + 1 + 1, 6, none⟩ (.int .i64 co)).heap.size := by simp [World.setCell]
    have rA := (((((((sA.off O (by decide) 0 (.string on)).off (O.put 0 (.string on)) (by decide) 1 (.int .i64 ob)).off ((O.put 0 (.string on)).put 1 (.int .i64 ob)) (by decide) 2 (.slice A1 oH.length a1)).off (((O.put 0 (.string on)).put 1 (.int .i64 ob)).put 2 (.slice A1 oH.length a1)) (by decide) 3 (.slice B1 oG.length b1)).off ((((O.put 0 (.string on)).put 1 (.int .i64 ob)).put 2 (.slice A1 oH.length a1)).put 3 (.slice B1 oG.length b1)) (by decide) 4 (.slice T1 N.length x1)).off (((((O.put 0 (.string on)).put 1 (.int .i64 ob)).put 2 (.slice A1 oH.length a1)).put 3 (.slice B1 oG.length b1)).put 4 (.slice T1 N.length x1)) (by decide) 5 (.int .i64 rn)).off ((((((O.put 0 (.string on)).put 1 (.int .i64 ob)).put 2 (.slice A1 oH.length a1)).put 3 (.slice B1 oG.length b1)).put 4 (.slice T1 N.length x1)).put 5 (.int .i64 rn)) (by decide) 6 (.int .i64 co))
    have rB := (((((((sB.off O (by decide) 0 (.string on)).off (O.put 0 (.string on)) (by decide) 1 (.int .i64 ob)).off ((O.put 0 (.string on)).put 1 (.int .i64 ob)) (by decide) 2 (.slice A1 oH.length a1)).off (((O.put 0 (.string on)).put 1 (.int .i64 ob)).put 2 (.slice A1 oH.length a1)) (by decide) 3 (.slice B1 oG.length b1)).off ((((O.put 0 (.string on)).put 1 (.int .i64 ob)).put 2 (.slice A1 oH.length a1)).put 3 (.slice B1 oG.length b1)) (by decide) 4 (.slice T1 N.length x1)).off (((((O.put 0 (.string on)).put 1 (.int .i64 ob)).put 2 (.slice A1 oH.length a1)).put 3 (.slice B1 oG.length b1)).put 4 (.slice T1 N.length x1)) (by decide) 5 (.int .i64 rn)).off ((((((O.put 0 (.string on)).put 1 (.int .i64 ob)).put 2 (.slice A1 oH.length a1)).put 3 (.slice B1 oG.length b1)).put 4 (.slice T1 N.length x1)).put 5 (.int .i64 rn)) (by decide) 6 (.int .i64 co))
    have rT := (((((((sT.off O (by decide) 0 (.string on)).off (O.put 0 (.string on)) (by decide) 1 (.int .i64 ob)).off ((O.put 0 (.string on)).put 1 (.int .i64 ob)) (by decide) 2 (.slice A1 oH.length a1)).off (((O.put 0 (.string on)).put 1 (.int .i64 ob)).put 2 (.slice A1 oH.length a1)) (by decide) 3 (.slice B1 oG.length b1)).off ((((O.put 0 (.string on)).put 1 (.int .i64 ob)).put 2 (.slice A1 oH.length a1)).put 3 (.slice B1 oG.length b1)) (by decide) 4 (.slice T1 N.length x1)).off (((((O.put 0 (.string on)).put 1 (.int .i64 ob)).put 2 (.slice A1 oH.length a1)).put 3 (.slice B1 oG.length b1)).put 4 (.slice T1 N.length x1)) (by decide) 5 (.int .i64 rn)).off ((((((O.put 0 (.string on)).put 1 (.int .i64 ob)).put 2 (.slice A1 oH.length a1)).put 3 (.slice B1 oG.length b1)).put 4 (.slice T1 N.length x1)).put 5 (.int .i64 rn)) (by decide) 6 (.int .i64 co))
    have O9 := (((((((O.put 0 (.string on)).put 1 (.int .i64 ob)).put 2 (.slice A1 oH.length a1)).put 3 (.slice B1 oG.length b1)).put 4 (.slice T1 N.length x1)).put 5 (.int .i64 rn)).put 6 (.int .i64 co))
    have hb9 := (((((((hb.setCell (p := ⟨w.heap.size + 1 + 1 + 1 + 1, 0, none⟩) (by simp <;> omega) (.string on)).setCell (p := ⟨w.heap.size + 1 + 1 + 1 + 1, 1, none⟩) (by simp <;> omega) (.int .i64 ob)).setCell (p := ⟨w.heap.size + 1 + 1 + 1 + 1, 2, none⟩) (by simp <;> omega) (.slice A1 oH.length a1)).setCell (p := ⟨w.heap.size + 1 + 1 + 1 + 1, 3, none⟩) (by simp <;> omega) (.slice B1 oG.length b1)).setCell (p := ⟨w.heap.size + 1 + 1 + 1 + 1, 4, none⟩) (by simp <;> omega) (.slice T1 N.length x1)).setCell (p := ⟨w.heap.size + 1 + 1 + 1 + 1, 5, none⟩) (by simp <;> omega) (.int .i64 rn)).setCell (p := ⟨w.heap.size + 1 + 1 + 1 + 1, 6, none⟩) (by simp <;> omega) (.int .i64 co))
    have kp9 := (((((((kp.put ⟨w.heap.size + 1 + 1 + 1 + 1, 0, none⟩ (.inr (by simp <;> omega)) (.string on)).put ⟨w.heap.size + 1 + 1 + 1 + 1, 1, none⟩ (.inr (by simp <;> omega)) (.int .i64 ob)).put ⟨w.heap.size + 1 + 1 + 1 + 1, 2, none⟩ (.inr (by simp <;> omega)) (.slice A1 oH.length a1)).put ⟨w.heap.size + 1 + 1 + 1 + 1, 3, none⟩ (.inr (by simp <;> omega)) (.slice B1 oG.length b1)).put ⟨w.heap.size + 1 + 1 + 1 + 1, 4, none⟩ (.inr (by simp <;> omega)) (.slice T1 N.length x1)).put ⟨w.heap.size + 1 + 1 + 1 + 1, 5, none⟩ (.inr (by simp <;> omega)) (.int .i64 rn)).put ⟨w.heap.size + 1 + 1 + 1 + 1, 6, none⟩ (.inr (by simp <;> omega)) (.int .i64 co))
    simp only [List.set_cons_succ, List.set_cons_zero] at O9
    generalize ((((((w6.setCell ⟨w.heap.size + 1 + 1 + 1 + 1, 0, none⟩ (.string on)).setCell ⟨w.heap.size + 1 + 1 + 1 + 1, 1, none⟩ (.int .i64 ob)).setCell ⟨w.heap.size + 1 + 1 + 1 + 1, 2, none⟩ (.slice A1 oH.length a1)).setCell ⟨w.heap.size + 1 + 1 + 1 + 1, 3, none⟩ (.slice B1 oG.length b1)).setCell ⟨w.heap.size + 1 + 1 + 1 + 1, 4, none⟩ (.slice T1 N.length x1)).setCell ⟨w.heap.size + 1 + 1 + 1 + 1, 5, none⟩ (.int .i64 rn)).setCell ⟨w.heap.size + 1 + 1 + 1 + 1, 6, none⟩ (.int .i64 co) = w9 at O9 hb9 kp9 hsz rA rB rT  ⊢
    have oc0 := O9.cell (i := 0) rfl
    have oc1 := O9.cell (i := 1) rfl
    have oc2 := O9.cell (i := 2) rfl
    have oc3 := O9.cell (i := 3) rfl
    have oc4 := O9.cell (i := 4) rfl
    have oc5 := O9.cell (i := 5) rfl
    have oc6 := O9.cell (i := 6) rfl
    exact bodyPost_ret (v := .agg #[.string on, .int .i64 ob, .slice A1 oH.length a1, .slice B1 oG.length b1, .slice T1 N.length x1, .int .i64 rn, .int .i64 co]) (by simp [results, Try.results45, go_sem, oc0, oc1, oc2, oc3, oc4, oc5, oc6]) rfl (⟨for_out hsz rA rB rT hap cA cB hb9, kp9⟩)
  | true =>
    go_enter Try.func45, Try.ntmps45
    go_wp2_with (fail)
    generalize ((((w.alloc (.cells #[.pointer (some ⟨p, 0, none⟩)] 109)).alloc (.cells #[.string nm, .int .i64 bs, .slice A H.length c, .slice B G.length d] 29)).alloc (.cells #[.string gn] 9)).alloc (.cells #[.func (.func opf) #[.pointer (some ⟨p, 0, none⟩)] #[]] 75)).alloc (.cells #[.string ⟨#[]⟩, .int .i64 0, .slice none 0 0, .slice none 0 0, .slice none 0 0, .int .i64 0, .int .i64 0] 31) = v0 at K5 K6 K7 K9 O P hbw hb kp hz ⊢
    have kq0 := K7.cell (i := 0) rfl
    go_wp2_with (fail)
    refine (TL _).mono ?_
    rintro e w1 ⟨rfl, rfl⟩
    clear kq0
    go_wp2_with (fail)
    obtain ⟨I, fw, hI, g5', h6, g6', g7'⟩ := class_grown w1
    have x5 := fun q => kept_cell (h6 q) (K5.cell (i := 0) rfl)
    have x7 := fun q => kept_cell (h6 q) (K7.cell (i := 0) rfl)
    have y0 := fun q => kept_cell (h6 q) (K6.cell (i := 0) rfl)
    have y1 := fun q => kept_cell (h6 q) (K6.cell (i := 1) rfl)
    have y2 := fun q => kept_cell (h6 q) (K6.cell (i := 2) rfl)
    have y3 := fun q => kept_cell (h6 q) (K6.cell (i := 3) rfl)
    have G7 := Lib.hid g7'
    have G6 := Lib.hid g6'
    clear h6 g7' g6'
    refine wp_region_class_tail (C := fun w' => ∃ q, w' = fw q) 8 (by kernel_rfl) (by kernel_rfl) g5' ?_
    simp only [List.take_succ_cons, List.take_zero, List.drop_succ_cons, List.drop_zero]
    repeat (first
      | go_big_quiet_skip
      | (go_big_quiet_want; go_big_quiet_op; first | go_big_quiet_on | (apply Exists.intro; refine ⟨fun q => ?_, ?_⟩; (go_at_call 87; (with_reducible refine (NR.out _).mono ?_); rintro e w9 ⟨rfl, hb9'⟩; exact ⟨rfl, G6.out _ _ hb9'⟩); go_big_quiet_on)))
    refine wpQuiet_nil ?_
    intro w5 h5
    have hb5 := G7.out _ h5
    clear x5 x7 y0 y1 y2 y3 g5' h5
    replace P := P.below hb5 P.lt
    replace K5 := K5.below hb5 K5.lt
    replace K7 := K7.below hb5 K7.lt
    replace K9 := K9.below hb5 K9.lt
    replace O := O.below hb5 O.lt
    replace hb := hb.trans (hb5.mono (Nat.le_trans hlow hbw.size))
    replace hbw := hbw.trans (hb5.mono hbw.size)
    replace kp := kp.below hb5
    have RN5 := RN.out w5 _ _ _ hbw P K5 K7 K9 (by omega) (by omega) (by omega)
    rw [← HR.out] at RN5
    clear hb5 hz RN HR
    obtain ⟨⟨on, ob, oH, oG⟩, N, rn, co⟩ := R
    go_wp2_with (fail)
    refine RN5.mono ?_
    rintro e w6 ⟨⟨A1, a1, B1, b1, T1, x1, rfl, sA, sB, sT, hap, cA, cB, hb6⟩, hk⟩
    simp only at sA sB sT cA cB
    replace O := hk _ _ (by omega) O
    replace hb := hb.trans hb6
    replace kp := kp.then hk
    clear RN5 hk P K5 K6 K7 K9 hb6 hbw
    have qc0 := O.cell (i := 0) rfl
    have qf0 := O.froz 0
    have qc1 := O.cell (i := 1) rfl
    have qf1 := O.froz 1
    have qc2 := O.cell (i := 2) rfl
    have qf2 := O.froz 2
    have qc3 := O.cell (i := 3) rfl
    have qf3 := O.froz 3
    have qc4 := O.cell (i := 4) rfl
    have qf4 := O.froz 4
    have qc5 := O.cell (i := 5) rfl
    have qf5 := O.froz 5
    have qc6 := O.cell (i := 6) rfl
    have qf6 := O.froz 6
    go_wp2
    clear qc0 qf0 qc1 qf1 qc2 qf2 qc3 qf3 qc4 qf4 qc5 qf5 qc6 qf6
    have hsz : w6.heap.size ≤ (((((((w6.setCell ⟨w.heap.size + 1 + 1 + 1 + 1, 0, none⟩ (.string on)).setCell ⟨w.heap.size + 1 + 1 + 1 + 1, 1, none⟩ (.int .i64 ob)).setCell ⟨w.heap.size + 1 + 1 + 1 + 1, 2, none⟩ (.slice A1 oH.length a1)).setCell ⟨w.heap.size + 1 + 1 + 1 + 1, 3, none⟩ (.slice B1 oG.length b1)).setCell ⟨w.heap.size + 1 + 1 + 1 + 1, 4, none⟩ (.slice T1 N.length x1)).setCell ⟨w.heap.size + 1 + 1 + 1 + 1, 5, none⟩ (.int .i64 rn)).setCell ⟨w.heap.size + 1 + 1 + 1 + 1, 6, none⟩ (.int .i64 co)).heap.size := by simp [World.setCell]
    have rA := (((((((sA.off O (by decide) 0 (.string on)).off (O.put 0 (.string on)) (by decide) 1 (.int .i64 ob)).off ((O.put 0 (.string on)).put 1 (.int .i64 ob)) (by decide) 2 (.slice A1 oH.length a1)).off (((O.put 0 (.string on)).put 1 (.int .i64 ob)).put 2 (.slice A1 oH.length a1)) (by decide) 3 (.slice B1 oG.length b1)).off ((((O.put 0 (.string on)).put 1 (.int .i64 ob)).put 2 (.slice A1 oH.length a1)).put 3 (.slice B1 oG.length b1)) (by decide) 4 (.slice T1 N.length x1)).off (((((O.put 0 (.string on)).put 1 (.int .i64 ob)).put 2 (.slice A1 oH.length a1)).put 3 (.slice B1 oG.length b1)).put 4 (.slice T1 N.length x1)) (by decide) 5 (.int .i64 rn)).off ((((((O.put 0 (.string on)).put 1 (.int .i64 ob)).put 2 (.slice A1 oH.length a1)).put 3 (.slice B1 oG.length b1)).put 4 (.slice T1 N.length x1)).put 5 (.int .i64 rn)) (by decide) 6 (.int .i64 co))
    have rB := (((((((sB.off O (by decide) 0 (.string on)).off (O.put 0 (.string on)) (by decide) 1 (.int .i64 ob)).off ((O.put 0 (.string on)).put 1 (.int .i64 ob)) (by decide) 2 (.slice A1 oH.length a1)).off (((O.put 0 (.string on)).put 1 (.int .i64 ob)).put 2 (.slice A1 oH.length a1)) (by decide) 3 (.slice B1 oG.length b1)).off ((((O.put 0 (.string on)).put 1 (.int .i64 ob)).put 2 (.slice A1 oH.length a1)).put 3 (.slice B1 oG.length b1)) (by decide) 4 (.slice T1 N.length x1)).off (((((O.put 0 (.string on)).put 1 (.int .i64 ob)).put 2 (.slice A1 oH.length a1)).put 3 (.slice B1 oG.length b1)).put 4 (.slice T1 N.length x1)) (by decide) 5 (.int .i64 rn)).off ((((((O.put 0 (.string on)).put 1 (.int .i64 ob)).put 2 (.slice A1 oH.length a1)).put 3 (.slice B1 oG.length b1)).put 4 (.slice T1 N.length x1)).put 5 (.int .i64 rn)) (by decide) 6 (.int .i64 co))
    have rT := (((((((sT.off O (by decide) 0 (.string on)).off (O.put 0 (.string on)) (by decide) 1 (.int .i64 ob)).off ((O.put 0 (.string on)).put 1 (.int .i64 ob)) (by decide) 2 (.slice A1 oH.length a1)).off (((O.put 0 (.string on)).put 1 (.int .i64 ob)).put 2 (.slice A1 oH.length a1)) (by decide) 3 (.slice B1 oG.length b1)).off ((((O.put 0 (.string on)).put 1 (.int .i64 ob)).put 2 (.slice A1 oH.length a1)).put 3 (.slice B1 oG.length b1)) (by decide) 4 (.slice T1 N.length x1)).off (((((O.put 0 (.string on)).put 1 (.int .i64 ob)).put 2 (.slice A1 oH.length a1)).put 3 (.slice B1 oG.length b1)).put 4 (.slice T1 N.length x1)) (by decide) 5 (.int .i64 rn)).off ((((((O.put 0 (.string on)).put 1 (.int .i64 ob)).put 2 (.slice A1 oH.length a1)).put 3 (.slice B1 oG.length b1)).put 4 (.slice T1 N.length x1)).put 5 (.int .i64 rn)) (by decide) 6 (.int .i64 co))
    have O9 := (((((((O.put 0 (.string on)).put 1 (.int .i64 ob)).put 2 (.slice A1 oH.length a1)).put 3 (.slice B1 oG.length b1)).put 4 (.slice T1 N.length x1)).put 5 (.int .i64 rn)).put 6 (.int .i64 co))
    have hb9 := (((((((hb.setCell (p := ⟨w.heap.size + 1 + 1 + 1 + 1, 0, none⟩) (by simp <;> omega) (.string on)).setCell (p := ⟨w.heap.size + 1 + 1 + 1 + 1, 1, none⟩) (by simp <;> omega) (.int .i64 ob)).setCell (p := ⟨w.heap.size + 1 + 1 + 1 + 1, 2, none⟩) (by simp <;> omega) (.slice A1 oH.length a1)).setCell (p := ⟨w.heap.size + 1 + 1 + 1 + 1, 3, none⟩) (by simp <;> omega) (.slice B1 oG.length b1)).setCell (p := ⟨w.heap.size + 1 + 1 + 1 + 1, 4, none⟩) (by simp <;> omega) (.slice T1 N.length x1)).setCell (p := ⟨w.heap.size + 1 + 1 + 1 + 1, 5, none⟩) (by simp <;> omega) (.int .i64 rn)).setCell (p := ⟨w.heap.size + 1 + 1 + 1 + 1, 6, none⟩) (by simp <;> omega) (.int .i64 co))
    have kp9 := (((((((kp.put ⟨w.heap.size + 1 + 1 + 1 + 1, 0, none⟩ (.inr (by simp <;> omega)) (.string on)).put ⟨w.heap.size + 1 + 1 + 1 + 1, 1, none⟩ (.inr (by simp <;> omega)) (.int .i64 ob)).put ⟨w.heap.size + 1 + 1 + 1 + 1, 2, none⟩ (.inr (by simp <;> omega)) (.slice A1 oH.length a1)).put ⟨w.heap.size + 1 + 1 + 1 + 1, 3, none⟩ (.inr (by simp <;> omega)) (.slice B1 oG.length b1)).put ⟨w.heap.size + 1 + 1 + 1 + 1, 4, none⟩ (.inr (by simp <;> omega)) (.slice T1 N.length x1)).put ⟨w.heap.size + 1 + 1 + 1 + 1, 5, none⟩ (.inr (by simp <;> omega)) (.int .i64 rn)).put ⟨w.heap.size + 1 + 1 + 1 + 1, 6, none⟩ (.inr (by simp <;> omega)) (.int .i64 co))
    simp only [List.set_cons_succ, List.set_cons_zero] at O9
    generalize ((((((w6.setCell ⟨w.heap.size + 1 + 1 + 1 + 1, 0, none⟩ (.string on)).setCell ⟨w.heap.size + 1 + 1 + 1 + 1, 1, none⟩ (.int .i64 ob)).setCell ⟨w.heap.size + 1 + 1 + 1 + 1, 2, none⟩ (.slice A1 oH.length a1)).setCell ⟨w.heap.size + 1 + 1 + 1 + 1, 3, none⟩ (.slice B1 oG.length b1)).setCell ⟨w.heap.size + 1 + 1 + 1 + 1, 4, none⟩ (.slice T1 N.length x1)).setCell ⟨w.heap.size + 1 + 1 + 1 + 1, 5, none⟩ (.int .i64 rn)).setCell ⟨w.heap.size + 1 + 1 + 1 + 1, 6, none⟩ (.int .i64 co) = w9 at O9 hb9 kp9 hsz rA rB rT  ⊢
    have oc0 := O9.cell (i := 0) rfl
    have oc1 := O9.cell (i := 1) rfl
    have oc2 := O9.cell (i := 2) rfl
    have oc3 := O9.cell (i := 3) rfl
    have oc4 := O9.cell (i := 4) rfl
    have oc5 := O9.cell (i := 5) rfl
    have oc6 := O9.cell (i := 6) rfl
    exact bodyPost_ret (v := .agg #[.string on, .int .i64 ob, .slice A1 oH.length a1, .slice B1 oG.length b1, .slice T1 N.length x1, .int .i64 rn, .int .i64 co]) (by simp [results, Try.results45, go_sem, oc0, oc1, oc2, oc3, oc4, oc5, oc6]) rfl (⟨for_out hsz rA rB rT hap cA cB hb9, kp9⟩)
end Go.Proofs.Ytkimieeabmjfgaa
