/- The contract of strings.Clone. The place of a reply: plain mathematics, and a search by halves. The contracts of BrokerReply. The contracts of impl.BrokerReply; both answer alike. -/
import Derived.Test.YtkimieeabmjfgaaRowW
import Derived.Lib.UnsafeStr
import Derived.Test.YtkimieeabmjfgaaBrToW
import Derived.Deep.RegionHeld3
namespace Go.Proofs.Ytkimieeabmjfgaa
open Go.RowKit
set_option linter.unusedVariables false

theorem cellsU8 : Try.prog.cellsOf 5 = 1 := by kernel_rfl
theorem splice_one {α : Type} (Z X : List α) (hZ : Z.length = X.length) : splice Z 0 X = X := by simp [splice, hZ]

/-- The string over the whole of a new row of bytes. -/
theorem run_clone {w : World} {g : Nat} {Z : List Value} {s : ByteArray} (hp : 0 < s.size) (hs : s.size ≤ 1048576)
    (h : Hid (w.heap[g]? = some (.cells (splice Z 0 (Lib.byteCells s.data.toList)).toArray 5 (0, 0)))) (hZ : Hid (Z.length = s.size)) :
    (Builtin.unsafeString_ #[144, 3] 9 #[.pointer (some ⟨g, 0, none⟩), .int .i64 s.size]).run Try.prog w = .ok (.string s) (w.freeze ⟨g, 0, none⟩ s.size) := by
  have e : splice Z 0 (Lib.byteCells s.data.toList) = Lib.byteCells s.data.toList := splice_one _ _ (by rw [bc_len]; exact hZ.out)
  have h' := h.out
  rw [e] at h'
  have hl : s.data.toList.length = s.size := by simp
  have := Lib.run_unsafeString_row (P := Try.prog) w 144 3 9 5 Try.underlying144 cellsU8 g s.size (by simp [World.shape?, h', bc_len]) s.data.toList
    (by intro e; rw [e] at hl; simp at hl; omega) (by omega) (by omega) (by
      intro j x hj
      have hjl : j < s.data.toList.length := (List.getElem?_eq_some_iff.1 hj).1
      have hadd : (⟨g, 0, none⟩ : Addr).add j = ⟨g, j, none⟩ := by unfold Addr.add; split <;> simp_all
      rw [hadd]
      simp [World.cell?, h', Lib.byteCells, hj])
  rw [hl] at this
  exact this

set_option maxHeartbeats 1600000 in
set_option maxRecDepth 1000000 in
theorem slClone_any (s : ByteArray) (w : World) (hs : s.size ≤ 1048576) :
    Calls Try.prog 120 #[.string s] w fun e w' => e = .returned (.string s) ∧ Below w.heap.size w w' := by
  obtain ⟨i0, hi, hz0, hz1, hz2⟩ := info_parts infoU8
  by_cases hz : s.size = 0
  · have he : s = ByteArray.empty := ByteArray.size_eq_zero_iff.1 hz
    subst he
    go_enter Try.func120, Try.ntmps120
    go_wp2
    go_ret
    exact ⟨rfl, Below.refl _ _⟩
  · have hp : 0 < s.size := by omega
    have hne : ((s.size : Int) == 0) = false := by simpa using ne_empty hp
    clear hz
    go_enter Try.func120, Try.ntmps120
    go_wp2_with (first
    | (at_make; refine wpList_make_full _ rfl _ _ 135 rfl w.heap.size 5 i0 (.int .u8 0) 1 Try.underlying135 hi hz0 hz1 _ _ _ _ s.size rfl rfl rfl rfl (by rw [hz2]; omega) (by unfold maxLen; omega) (Nat.le_refl _) ?_; intro w1 hown1 hgrow1; obtain ⟨Z, HG1, hZ⟩ := own_heap' hown1; have HZ := Lib.hid hZ; clear hZ; have hb1 := (Below.refl w.heap.size w).grown hgrow1 (Nat.le_refl _) (fun k e => by cases e); clear hown1 hgrow1)
    | ((with_reducible refine wpList_copy_str rfl (.tmp 10) (.tmp 11) 135 9 rfl 5 Try.underlying135 sizeU8 _ _ _ s rfl rfl w.heap.size 0 _ 5 HG1.out (by omega) (fun _ => rfl) (by rw [HZ.out]; omega) w.heap.size w hb1 (Nat.le_refl _) ?_); intro w2 HG2 hb2; clear HG1 hb1; have hcl := run_clone hp hs HG2 HZ))
    go_ret
    exact ⟨rfl, Lib.below_freeze hb2 (p := ⟨w.heap.size, 0, none⟩) (Nat.le_refl _) _⟩

theorem clone_any (s : ByteArray) (w : World) (hs : s.size ≤ 1048576) :
    Calls Try.prog 90 #[.string s] w fun e w' => e = .returned (.string s) ∧ Below w.heap.size w w' := by
  go_enter Try.func90, Try.ntmps90
  go_wp2_with (go_at_call 120; refine (slClone_any _ _ hs).mono ?_; rintro e w1 ⟨rfl, hb1⟩)
  go_ret
  exact ⟨rfl, hb1⟩


end Go.Proofs.Ytkimieeabmjfgaa

namespace Go.Proofs.Ytkimieeabmjfgaa
open Go.RowKit
set_option linter.unusedVariables false
set_option maxRecDepth 1000000

/-- How the program compares two numbers. -/
def cmpI (a b : Int) : Int := if a < b then -1 else if b < a then 1 else 0
theorem cmpI_neg (a b : Int) : cmpI a b < 0 ↔ a < b := by unfold cmpI; split <;> (try split) <;> simp <;> omega
theorem cmpI_zero (a b : Int) : cmpI a b = 0 ↔ a = b := by unfold cmpI; split <;> (try split) <;> simp <;> omega
theorem cmpI_rng (a b : Int) : -1 ≤ cmpI a b ∧ cmpI a b ≤ 1 := by unfold cmpI; split <;> (try split) <;> simp
/-- Replies that rise by client. -/
def RisingR (G : List Rep) : Prop := ∀ i j (hi : i < j) (hj : j < G.length), (G[i]'(by omega)).client < G[j].client
theorem risingR_of {R : List Rep} (h : repsOK R) : RisingR R := by
  have step : ∀ i (hi : i + 1 < R.length), (R[i]'(by omega)).client < R[i + 1].client := fun i hi => (h.2 (i + 1) hi).2 (by omega)
  intro i j hij hj
  induction j with
  | zero => omega
  | succ j ih =>
    by_cases e : i = j
    · subst e; exact step i hj
    · exact Int.lt_trans (ih (by omega) (by omega)) (step j hj)
/-- Where a reply is, or would have to be. -/
def posR : List Rep → Int → Nat
  | [], _ => 0
  | g :: G, s => if g.client < s then posR G s + 1 else 0
theorem posR_le : ∀ (G : List Rep) (s : Int), posR G s ≤ G.length
  | [], _ => Nat.le_refl _
  | g :: G, s => by unfold posR; have := posR_le G s; split <;> simp <;> omega
theorem posR_lt : ∀ (G : List Rep) (s : Int) (i : Nat) (h : i < G.length), i < posR G s → G[i].client < s
  | [], _, i, h, _ => by simp at h
  | g :: G, s, i, h, hi => by
    unfold posR at hi
    split at hi
    · cases i with
      | zero => assumption
      | succ i => exact posR_lt G s i (by simpa using h) (by omega)
    · omega
theorem posR_at : ∀ (G : List Rep) (s : Int) (h : posR G s < G.length), ¬ (G[posR G s]).client < s
  | [], _, h => by simp at h
  | g :: G, s, h => by
    by_cases hl : g.client < s
    · have e : posR (g :: G) s = posR G s + 1 := by simp [posR, hl]
      simp only [e, List.getElem_cons_succ]
      exact posR_at G s (by rw [e] at h; simpa using h)
    · have e : posR (g :: G) s = 0 := by simp [posR, hl]
      simp only [e, List.getElem_cons_zero]
      exact hl
theorem posR_iff {G : List Rep} {s : Int} (hr : RisingR G) {i : Nat} (h : i < G.length) : G[i].client < s ↔ i < posR G s := by
  refine ⟨fun hl => ?_, posR_lt G s i h⟩
  rcases Nat.lt_or_ge i (posR G s) with h1 | h1
  · exact h1
  · have h2 := posR_at G s (by omega)
    rcases Nat.eq_or_lt_of_le h1 with e | h3
    · simp only [e] at h2; exact absurd hl h2
    · exact absurd (Int.lt_trans (hr _ _ h3 h) hl) h2
/-- Whether a reply is there. -/
noncomputable def isR (G : List Rep) (s : Int) : Bool := @decide (∃ h : posR G s < G.length, (G[posR G s]).client = s) (Classical.propDecidable _)
theorem isR_iff {G : List Rep} {s : Int} : isR G s = true ↔ ∃ h : posR G s < G.length, (G[posR G s]).client = s :=
  ⟨fun h => by unfold isR at h; exact @of_decide_eq_true _ (Classical.propDecidable _) h, fun h => by unfold isR; exact @decide_eq_true _ (Classical.propDecidable _) h⟩
theorem isR_not {G : List Rep} {s : Int} (h : ¬ ∃ h : posR G s < G.length, (G[posR G s]).client = s) : isR G s = false := by
  unfold isR; exact @decide_eq_false _ (Classical.propDecidable _) h
theorem isR_at {G : List Rep} {s : Int} (hr : RisingR G) {i : Nat} (h : i < G.length) (e : G[i].client = s) : i = posR G s ∧ isR G s = true := by
  have hi : ¬ i < posR G s := fun hl => by have := posR_lt G s i h hl; omega
  have hp : ¬ posR G s < i := fun hl => by
    have h2 := hr _ _ hl h
    have := posR_at G s (by omega)
    omega
  obtain rfl : i = posR G s := by omega
  exact ⟨rfl, isR_iff.2 ⟨h, e⟩⟩
theorem isR_none {G : List Rep} {s : Int} (h : ∀ i (hi : i < G.length), G[i].client ≠ s) : isR G s = false := isR_not fun ⟨hi, e⟩ => h _ hi e
/-- BrokerReply. -/
noncomputable def repOf (b : Bro) (s : Int) : Rep :=
  if broB b = false then zeroRep else if isR b.replies s = false then zeroRep else b.replies.getD (posR b.replies s) zeroRep
theorem rep_bad {b : Bro} {s : Int} (h : broB b = false) : repOf b s = zeroRep := by unfold repOf; rw [if_pos h]
theorem rep_none {b : Bro} {s : Int} (h2 : isR b.replies s = false) : repOf b s = zeroRep := by
  unfold repOf; simp [h2]
theorem rep_at {b : Bro} {s : Int} {k : Nat} (h : broB b = true) (hk : k < b.replies.length) (e : b.replies[k].client = s) : repOf b s = b.replies[k] := by
  obtain ⟨rfl, hi⟩ := isR_at (risingR_of (broB_iff.1 h).2) hk e
  unfold repOf
  rw [if_neg (by rw [h]; simp), if_neg (by rw [hi]; simp), List.getD_eq_getElem?_getD, List.getElem?_eq_getElem hk]
  rfl
theorem cmpI_any (a b : Int) (w : World) : Calls Try.prog 106 #[.int .i64 a, .int .i64 b] w fun e w' => e = .returned (.int .i64 (cmpI a b)) ∧ w' = w := by
  have NA : ∀ x W, Calls Try.prog 126 #[.int .i64 x] W fun e w' => e = .returned (.bool false) ∧ w' = W := by
    intro x W
    go_enter Try.func126, Try.ntmps126
    go_wp2
    go_ret
    exact ⟨by simp, rfl⟩
  have HN := Lib.hid NA
  clear NA
  unfold cmpI
  by_cases h : a < b
  · rw [if_pos h]
    have hd : decide (a < b) = true := by simpa using h
    clear h
    go_enter Try.func106, Try.ntmps106
    go_wp2_with (go_at_call 126; (with_reducible refine (HN.out _ _).mono ?_); rintro e w' ⟨rfl, rfl⟩)
    go_ret
    exact ⟨rfl, rfl⟩
  · rw [if_neg h]
    have hd : decide (a < b) = false := by simpa using h
    by_cases h2 : b < a
    · rw [if_pos h2]
      have hd2 : decide (b < a) = true := by simpa using h2
      clear h h2
      go_enter Try.func106, Try.ntmps106
      go_wp2_with (go_at_call 126; (with_reducible refine (HN.out _ _).mono ?_); rintro e w' ⟨rfl, rfl⟩)
      go_ret
      exact ⟨rfl, rfl⟩
    · rw [if_neg h2]
      have hd2 : decide (b < a) = false := by simpa using h2
      clear h h2
      go_enter Try.func106, Try.ntmps106
      go_wp2_with (go_at_call 126; (with_reducible refine (HN.out _ _).mono ?_); rintro e w' ⟨rfl, rfl⟩)
      go_ret
      exact ⟨rfl, rfl⟩
theorem placeR1_any (g : Rep) (s : Int) (w : World) : Calls Try.prog 105 #[.agg #[.int .i64 g.client, .int .i64 g.number, .string g.text], .int .i64 s] w fun e w' => e = .returned (.int .i64 (cmpI g.client s)) ∧ Below w.heap.size w w' := by
  have hK := Blk.fresh w 53 [.int .i64 g.client, .int .i64 g.number, .string g.text]
  have hb := below_box w (.cells #[.int .i64 g.client, .int .i64 g.number, .string g.text] 53)
  have c0 := hK.cell (i := 0) rfl
  simp only [List.toArray] at c0
  go_enter Try.func105, Try.ntmps105
  go_wp2_with (go_at_call 106; refine (cmpI_any _ _ _).mono ?_; rintro e w' ⟨rfl, rfl⟩)
  go_ret
  exact ⟨rfl, hb⟩
/-- What a search answers. -/
def PlcR (w : World) (k : Nat) (r : Bool) (e : Ending) (w' : World) : Prop := e = .returned (.tuple #[.int .i64 k, .bool r]) ∧ Below w.heap.size w w'
set_option maxHeartbeats 4000000 in
theorem bsearchR_any (B : Option Addr) (G : List Rep) (d : Nat) (s : Int) (w : World) (hB : Rps w w.heap.size B G) (hr : RisingR G) (hG : G.length ≤ 100000) :
    Calls Try.prog 104 #[.slice B G.length d, .int .i64 s, .func (.func 105) #[] #[]] w (PlcR w (posR G s) (isR G s)) := by
  have HB := Lib.hid (fun W (h : Below w.heap.size w W) => hB.on h)
  have HP := Lib.hid (fun i (h : i < G.length) => posR_iff (s := s) hr h)
  have hle := posR_le G s
  obtain ⟨p, HPp⟩ : ∃ p, Hid (posR G s = p) := ⟨_, Lib.hid rfl⟩
  rw [HPp.out] at hle HP ⊢
  obtain ⟨r, HR⟩ : ∃ r, Hid (isR G s = r) := ⟨_, Lib.hid rfl⟩
  rw [HR.out]
  go_enter Try.func104, Try.ntmps104
  go_wp2
  go_loopw [9, 10, 11] (fun i j _ wr => ∃ k m : Nat, k ≤ p ∧ p ≤ m ∧ m ≤ G.length ∧ i = .int .i64 k ∧ j = .int .i64 m ∧ Below w.heap.size w wr) (fun i j _ _ => (intOf j).toNat - (intOf i).toNat)
  case atStart => exact ⟨0, G.length, by omega, hle, by omega, rfl, rfl, Below.refl _ _⟩
  case round =>
    obtain ⟨k, m, h1, h2, h3, rfl, rfl, hb⟩ := hrel
    by_cases hlt : k < m
    · have hlt' : (k : Int) < (m : Int) := by omega
      have hq : (k + m) / 2 < G.length := by omega
      have hs1 : ((k : Int) + (m : Int)) / 2 = (((k + m) / 2 : Nat) : Int) := by omega
      obtain ⟨q, HQ⟩ : ∃ q, Hid ((k + m) / 2 = q) := ⟨_, Lib.hid rfl⟩
      rw [HQ.out] at hq
      obtain ⟨a, rfl, hab, c0, c1, c2⟩ := (HB.out _ hb).at q hq
      have hq' : (q : Int) < (G.length : Int) := by omega
      have hsh : Op.shift .shr .u64 ((k : Int) + (m : Int)) .u64 1 = pure (.int .u64 (q : Int)) := by
        rw [shift_shr .u64 .u64 _ 1 (by decide) (by decide)]
        have e : ((k : Int) + (m : Int)) / 2 ^ (1 : Int).toNat = (q : Int) := by have := HQ.out; show ((k : Int) + (m : Int)) / 2 = _; omega
        rw [e]
      clear hs1
      have hm2 : q < m ∧ k ≤ q := by have := HQ.out; omega
      have hq2 : (q : Int) + 1 ≤ 100000 := by omega
      by_cases hl : G[q].client < s
      · have hz : cmpI G[q].client s < 0 := (cmpI_neg _ _).2 hl
        have hp1 : q < p := (HP.out q hq).1 hl
        have hd : decide (cmpI G[q].client s < 0) = true := by simpa using hz
        clear hl
        go_wp2_with (go_at_call 105; (with_reducible refine (placeR1_any G[q] s _).mono ?_); rintro e w1 ⟨rfl, hb1⟩)
        refine ⟨⟨q + 1, m, by omega, h2, h3, by go_num, rfl, hb.trans (hb1.mono hb.size)⟩, by simp [intOf]; omega⟩
      · have hz : ¬ cmpI G[q].client s < 0 := fun h => hl ((cmpI_neg _ _).1 h)
        have hp1 : ¬ q < p := fun h => hl ((HP.out q hq).2 h)
        have hd : decide (cmpI G[q].client s < 0) = false := by simpa using hz
        clear hl
        go_wp2_with (go_at_call 105; (with_reducible refine (placeR1_any G[q] s _).mono ?_); rintro e w1 ⟨rfl, hb1⟩)
        refine ⟨⟨k, q, h1, by omega, by omega, rfl, rfl, hb.trans (hb1.mono hb.size)⟩, by simp [intOf]; omega⟩
    · obtain rfl : k = m := by omega
      obtain rfl : k = p := by omega
      by_cases hp : k < G.length
      · have hp' : (k : Int) < (G.length : Int) := by omega
        have hd : decide ((k : Int) < (G.length : Int)) = true := by simpa using hp
        obtain ⟨a, rfl, hab, c0, c1, c2⟩ := (HB.out _ hb).at k hp
        by_cases hn : G[k].client = s
        · have hz : (cmpI G[k].client s == 0) = true := by rw [(cmpI_zero _ _).2 hn]; rfl
          have hr : r = true := by rw [← HR.out]; exact isR_iff.2 ⟨by rw [HPp.out]; exact hp, by simp only [HPp.out]; exact hn⟩
          have HR2 := Lib.hid hr
          clear hr hn HR HPp
          go_wp2_with (go_at_call 105; (with_reducible refine (placeR1_any G[k] s _).mono ?_); rintro e w1 ⟨rfl, hb1⟩)
          exact bodyPost_ret (v := .tuple #[.int .i64 k, .bool true]) (by simp [results, Try.results104, go_sem]) rfl ⟨by rw [HR2.out], hb.trans (hb1.mono hb.size)⟩
        · have hz : (cmpI G[k].client s == 0) = false := by rw [beq_eq_false_iff_ne]; exact fun h => hn ((cmpI_zero _ _).1 h)
          have hr : r = false := by rw [← HR.out]; exact isR_not fun ⟨_, h⟩ => hn (by simp only [HPp.out] at h; exact h)
          have HR2 := Lib.hid hr
          clear hr hn HR HPp
          go_wp2_with (go_at_call 105; (with_reducible refine (placeR1_any G[k] s _).mono ?_); rintro e w1 ⟨rfl, hb1⟩)
          exact bodyPost_ret (v := .tuple #[.int .i64 k, .bool false]) (by simp [results, Try.results104, go_sem]) rfl ⟨by rw [HR2.out], hb.trans (hb1.mono hb.size)⟩
      · obtain rfl : k = G.length := by omega
        have hr : r = false := by rw [← HR.out]; exact isR_not fun ⟨h, _⟩ => hp (by rw [HPp.out] at h; exact h)
        have HR2 := Lib.hid hr
        clear hr HR HPp hp
        go_wp2
        exact bodyPost_ret (v := .tuple #[.int .i64 G.length, .bool false]) (by simp [results, Try.results104, go_sem]) rfl ⟨by rw [HR2.out], hb⟩
theorem replyPlace_any (B : Option Addr) (G : List Rep) (d : Nat) (s : Int) (w : World) (hB : Rps w w.heap.size B G) (hr : RisingR G) (hG : G.length ≤ 100000) :
    Calls Try.prog 66 #[.slice B G.length d, .int .i64 s] w (PlcR w (posR G s) (isR G s)) := by
  have BS := Lib.hid (bsearchR_any B G d s w hB hr hG)
  generalize posR G s = p at BS ⊢
  generalize isR G s = r at BS ⊢
  go_enter Try.func66, Try.ntmps66
  go_wp2_with (go_at_call 104; (with_reducible refine BS.out.mono ?_); rintro e w1 ⟨rfl, hb1⟩)
  exact bodyPost_ret (v := .tuple #[.int .i64 p, .bool r]) (by simp [results, Try.results66, go_sem]) rfl ⟨rfl, hb1⟩
end Go.Proofs.Ytkimieeabmjfgaa

namespace Go.Proofs.Ytkimieeabmjfgaa
open Go.RowKit Go.Deep
set_option linter.unusedVariables false
set_option maxRecDepth 1000000

theorem far3 {W : World} {b c i : Nat} {u0 u1 u2 v : Value} (hne : c ≠ b) (h : W.cell? ⟨c, i, none⟩ = some v) : (((W.setCell ⟨b, 0, none⟩ u0).setCell ⟨b, 1, none⟩ u1).setCell ⟨b, 2, none⟩ u2).cell? ⟨c, i, none⟩ = some v :=
  cell_put_far (cell_put_far (cell_put_far h hne _) hne _) hne _
set_option maxHeartbeats 2000000 in
theorem freshReply_any (r : Rep) (w : World) (hs : r.text.size ≤ 1048576) :
    Calls Try.prog 67 #[r.val] w fun e w' => e = .returned r.val ∧ Below w.heap.size w w' := by
  obtain ⟨a, n, s⟩ := r
  simp only at hs
  unfold Rep.val
  simp only
  have K := (Blk.fresh w 53 [.int .i64 a, .int .i64 n, .string s]).alloc (.cells #[.int .i64 0, .int .i64 0, .string ⟨#[]⟩] 53)
  have R := Blk.fresh (w.alloc (.cells #[.int .i64 a, .int .i64 n, .string s] 53)) 53 [.int .i64 0, .int .i64 0, .string ⟨#[]⟩]
  have hb : Below w.heap.size w ((w.alloc (.cells #[.int .i64 a, .int .i64 n, .string s] 53)).alloc (.cells #[.int .i64 0, .int .i64 0, .string ⟨#[]⟩] 53)) := ((Below.refl _ _).alloc (Nat.le_refl _) _).alloc (by simp) _
  simp only [World.size_alloc] at K R
  replace K : Blk ((w.alloc (.cells #[.int .i64 a, .int .i64 n, .string s] 53)).alloc (.cells #[.int .i64 0, .int .i64 0, .string ⟨#[]⟩] 53)) w.heap.size 53 [.int .i64 a, .int .i64 n, .string s] := K
  replace R : Blk ((w.alloc (.cells #[.int .i64 a, .int .i64 n, .string s] 53)).alloc (.cells #[.int .i64 0, .int .i64 0, .string ⟨#[]⟩] 53)) (w.heap.size + 1) 53 [.int .i64 0, .int .i64 0, .string ⟨#[]⟩] := R
  have CL := Lib.hid (fun W => clone_any s W hs)
  go_enter Try.func67, Try.ntmps67
  go_wp2_with (fail)
  generalize (w.alloc (.cells #[.int .i64 a, .int .i64 n, .string s] 53)).alloc (.cells #[.int .i64 0, .int .i64 0, .string ⟨#[]⟩] 53) = v0 at K R hb ⊢
  have x0 : v0.drew.cell? ⟨w.heap.size, 0, none⟩ = some (.int .i64 a) := K.drew.cell (i := 0) rfl
  have x1 : v0.drew.cell? ⟨w.heap.size, 1, none⟩ = some (.int .i64 n) := K.drew.cell (i := 1) rfl
  have x2 : v0.drew.cell? ⟨w.heap.size, 2, none⟩ = some (.string s) := K.drew.cell (i := 2) rfl
  have R' := R.drew
  have n0 : w.heap.size ≠ w.heap.size + 1 := by omega
  go_region_held3 (fun W => W.cell? ⟨w.heap.size, 0, none⟩ = some (.int .i64 a) ∧ W.cell? ⟨w.heap.size, 1, none⟩ = some (.int .i64 n) ∧ W.cell? ⟨w.heap.size, 2, none⟩ = some (.string s))
    (first
      | with_reducible exact ⟨x0, x1, x2⟩
      | with_reducible exact ⟨kept_cell hb1 x0, kept_cell hb1 x1, kept_cell hb1 x2⟩
      | with_reducible exact ⟨far3 n0 (kept_cell hb1 x0), far3 n0 (kept_cell hb1 x1), far3 n0 (kept_cell hb1 x2)⟩)
    (first
      | (go_at_call 90; (with_reducible refine (CL.out _).mono ?_); rintro e w1 ⟨rfl, hb1⟩; have R1 := R'.below hb1 R'.lt; have o0 := R1.cell (i := 0) rfl; have o1 := R1.cell (i := 1) rfl; have o2 := R1.cell (i := 2) rfl; have p0 := R1.froz 0; have p1 := R1.froz 1; have p2 := R1.froz 2))
  rename_i hHeld
  clear hHeld
  have q1 := ((R1.put 0 (.int .i64 a)).put 1 (.int .i64 n)).put 2 (.string s)
  have q2 := (((hb.trans (((below_drew (Below.refl _ v0)).trans hb1).mono hb.size)).setCell (p := ⟨w.heap.size + 1, 0, none⟩) (by simp) (.int .i64 a)).setCell (p := ⟨w.heap.size + 1, 1, none⟩) (by simp) (.int .i64 n)).setCell (p := ⟨w.heap.size + 1, 2, none⟩) (by simp) (.string s)
  simp only [List.set_cons_succ, List.set_cons_zero] at q1
  clear x0 x1 x2 R' K R o0 o1 o2 p0 p1 p2
  generalize (((w1.setCell ⟨w.heap.size + 1, 0, none⟩ (.int .i64 a)).setCell ⟨w.heap.size + 1, 1, none⟩ (.int .i64 n)).setCell ⟨w.heap.size + 1, 2, none⟩ (.string s)) = w9 at q1 q2 ⊢
  have x0 := q1.cell (i := 0) rfl
  have x1 := q1.cell (i := 1) rfl
  have x2 := q1.cell (i := 2) rfl
  go_wp2
  exact bodyPost_ret (v := .agg #[.int .i64 a, .int .i64 n, .string s]) (by simp [results, Try.results67, go_sem, x0, x1, x2]) rfl ⟨rfl, q2⟩

theorem l08Reply_none (T : Value) (h1 : T.oneCell' = true) (R : List Rep) (B : Option Addr) (d : Nat) (c : Int) (w : World) (hB : Rps w w.heap.size B R) (h : ∀ i (hi : i < R.length), R[i].client ≠ c) :
    Calls Try.prog 65 #[broV T (.slice B R.length d), .int .i64 c] w fun e w' => e = .returned (.int .i64 (-1)) ∧ Below w.heap.size w w' := by
  have hn := hB.1
  unfold maxLen at hn
  have hK := Blk.fresh w 48 [T, .slice B R.length d]
  have hb0 := below_box w (.cells #[T, .slice B R.length d] 48)
  simp only [List.toArray] at hK
  have HN := Lib.hid h
  clear h
  go_enter Try.func65, Try.ntmps65
  go_wp2
  generalize w.alloc (.cells #[T, .slice B R.length d] 48) = w1 at hK hb0 ⊢
  go_loop [5] (fun i => ∃ k : Nat, k ≤ R.length ∧ i = .int .i64 k) (fun i => R.length - (intOf i).toNat)
  case atStart => exact ⟨0, by omega, rfl⟩
  case round =>
    obtain ⟨k, hk, rfl⟩ := hrel
    have c1 := hK.cell (i := 1) rfl
    by_cases hlt : k < R.length
    · obtain ⟨a, rfl, hab, e0, e1, e2⟩ := (hB.on hb0).at k hlt
      have hlt' : (k : Int) < (R.length : Int) := by omega
      have hd : (R[k].client == c) = false := by rw [beq_eq_false_iff_ne]; exact HN.out k hlt
      go_wp2
      exact ⟨⟨k + 1, by omega, by go_num⟩, by simp [intOf]; omega⟩
    · obtain rfl : k = R.length := by omega
      go_wp2
      go_ret
      exact ⟨rfl, hb0⟩
theorem l08Reply_at (T : Value) (h1 : T.oneCell' = true) (R : List Rep) (B : Option Addr) (d : Nat) (c : Int) (p : Nat) (w : World) (hB : Rps w w.heap.size B R) (hp : p < R.length) (he : R[p].client = c) (h : ∀ i (hi : i < p), (R[i]'(by omega)).client ≠ c) :
    Calls Try.prog 65 #[broV T (.slice B R.length d), .int .i64 c] w fun e w' => e = .returned (.int .i64 p) ∧ Below w.heap.size w w' := by
  have hn := hB.1
  unfold maxLen at hn
  have hK := Blk.fresh w 48 [T, .slice B R.length d]
  have hb0 := below_box w (.cells #[T, .slice B R.length d] 48)
  simp only [List.toArray] at hK
  have HN := Lib.hid h
  have HE := Lib.hid he
  clear h he
  go_enter Try.func65, Try.ntmps65
  go_wp2
  generalize w.alloc (.cells #[T, .slice B R.length d] 48) = w1 at hK hb0 ⊢
  go_loop [5] (fun i => ∃ k : Nat, k ≤ p ∧ i = .int .i64 k) (fun i => R.length - (intOf i).toNat)
  case atStart => exact ⟨0, by omega, rfl⟩
  case round =>
    obtain ⟨k, hk, rfl⟩ := hrel
    have c1 := hK.cell (i := 1) rfl
    have hlt : k < R.length := by omega
    obtain ⟨a, rfl, hab, e0, e1, e2⟩ := (hB.on hb0).at k hlt
    have hlt' : (k : Int) < (R.length : Int) := by omega
    by_cases hkp : k = p
    · subst hkp
      have hd : (R[k].client == c) = true := by rw [HE.out]; simp
      clear HN HE
      go_wp2
      go_ret
      exact ⟨rfl, hb0⟩
    · have hd : (R[k].client == c) = false := by rw [beq_eq_false_iff_ne]; exact HN.out k (by omega)
      go_wp2
      exact ⟨⟨k + 1, by omega, by go_num⟩, by simp [intOf]; omega⟩
/-- The first of a kind. -/
theorem first_of {α : Type} (L : List α) (P : α → Prop) (h : ¬ ∀ i (hi : i < L.length), ¬ P L[i]) : ∃ p, ∃ hp : p < L.length, P L[p] ∧ ∀ i (hi : i < p), ¬ P (L[i]'(by omega)) := by
  classical
  have h1 : ∃ i, ∃ hi : i < L.length, P L[i] := by
    refine Classical.byContradiction fun hno => h fun i hi hp => hno ⟨i, hi, hp⟩
  obtain ⟨i, hi, hp⟩ := h1
  induction i using Nat.strongRecOn with
  | _ i ih =>
    by_cases hm : ∃ j, ∃ hj : j < i, P (L[j]'(by omega))
    · obtain ⟨j, hj, hpj⟩ := hm
      exact ih j hj (by omega) hpj
    · exact ⟨i, hi, hp, fun j hj hpj => hm ⟨j, hj, hpj⟩⟩
set_option maxHeartbeats 4000000 in
theorem specBrokerReply_any (b : Bro) (s : Int) (A : Option Addr) (c : Nat) (B : Option Addr) (d : Nat) (w : World) (hf : b.fits) (hA : Tops w w.heap.size A b.topics) (hB : Rps w w.heap.size B b.replies) :
    Calls Try.prog 28 #[broV (.slice A b.topics.length c) (.slice B b.replies.length d), .int .i64 s] w fun e w' => e = .returned (repOf b s).val ∧ Below w.heap.size w w' := by
  have BR := Lib.hid (fun W (h : Below w.heap.size w W) => specBrokerRight_any b A c B d W hf (hA.on h) (hB.on h))
  have F0 : Hid (broB b = false → repOf b s = zeroRep) := Lib.hid rep_bad
  have F1 : Hid (isR b.replies s = false → repOf b s = zeroRep) := Lib.hid rep_none
  have F2 : Hid (∀ k (h : broB b = true) (hk : k < b.replies.length), b.replies[k].client = s → repOf b s = b.replies[k]) := Lib.hid fun k h hk e => rep_at h hk e
  have HN := Lib.hid (isR_none (G := b.replies) (s := s))
  have HB := Lib.hid (fun W (h : Below w.heap.size w W) => hB.on h)
  obtain ⟨T, R⟩ := b
  simp only at BR F0 F1 F2 HN HB hA hB ⊢
  obtain ⟨r, HR⟩ : ∃ r, Hid (repOf ⟨T, R⟩ s = r) := ⟨_, Lib.hid rfl⟩
  rw [HR.out] at F0 F1 F2 ⊢
  have K := (Blk.fresh w 48 [.slice A T.length c, .slice B R.length d]).alloc (.cells #[.int .i64 0, .int .i64 0, .string ⟨#[]⟩] 53)
  have Z := Blk.fresh (w.alloc (.cells #[.slice A T.length c, .slice B R.length d] 48)) 53 [.int .i64 0, .int .i64 0, .string ⟨#[]⟩]
  have hb : Below w.heap.size w ((w.alloc (.cells #[.slice A T.length c, .slice B R.length d] 48)).alloc (.cells #[.int .i64 0, .int .i64 0, .string ⟨#[]⟩] 53)) := ((Below.refl _ _).alloc (Nat.le_refl _) _).alloc (by simp) _
  simp only [World.size_alloc] at K Z
  replace K : Blk ((w.alloc (.cells #[.slice A T.length c, .slice B R.length d] 48)).alloc (.cells #[.int .i64 0, .int .i64 0, .string ⟨#[]⟩] 53)) w.heap.size 48 [.slice A T.length c, .slice B R.length d] := K
  replace Z : Blk ((w.alloc (.cells #[.slice A T.length c, .slice B R.length d] 48)).alloc (.cells #[.int .i64 0, .int .i64 0, .string ⟨#[]⟩] 53)) (w.heap.size + 1) 53 [.int .i64 0, .int .i64 0, .string ⟨#[]⟩] := Z
  by_cases hno : ∀ i (hi : i < R.length), R[i].client ≠ s
  · have H0 := Lib.hid (F1.out (HN.out hno))
    have LR := Lib.hid (fun W (h : Below w.heap.size w W) => l08Reply_none (.slice A T.length c) rfl R B d s W (hB.on h) hno)
    clear hno
    have k0 := K.cell (i := 0) rfl
    have k1 := K.cell (i := 1) rfl
    go_enter Try.func28, Try.ntmps28
    go_wp2_with (fail)
    clear k0 k1
    generalize (w.alloc (.cells #[.slice A T.length c, .slice B R.length d] 48)).alloc (.cells #[.int .i64 0, .int .i64 0, .string ⟨#[]⟩] 53) = v0 at K Z hb ⊢
    refine (LR.out _ hb).mono ?_
    rintro e w1 ⟨rfl, hb1⟩
    have hw1 := hb.trans (hb1.mono hb.size)
    have Z1 := Z.below hb1 Z.lt
    have z0 := Z1.cell (i := 0) rfl
    have z1 := Z1.cell (i := 1) rfl
    have z2 := Z1.cell (i := 2) rfl
    have y0 := Z1.froz 0
    have y1 := Z1.froz 1
    have y2 := Z1.froz 2
    go_wp2
    have q1 := ((Z1.put 0 (.int .i64 0)).put 1 (.int .i64 0)).put 2 (.string ⟨#[]⟩)
    have q2 := ((hw1.setCell (p := ⟨w.heap.size + 1, 0, none⟩) (by simp) (.int .i64 0)).setCell (p := ⟨w.heap.size + 1, 1, none⟩) (by simp) (.int .i64 0)).setCell (p := ⟨w.heap.size + 1, 2, none⟩) (by simp) (.string ⟨#[]⟩)
    simp only [List.set_cons_succ, List.set_cons_zero] at q1
    generalize (((w1.setCell ⟨w.heap.size + 1, 0, none⟩ (.int .i64 0)).setCell ⟨w.heap.size + 1, 1, none⟩ (.int .i64 0)).setCell ⟨w.heap.size + 1, 2, none⟩ (.string ⟨#[]⟩)) = w9 at q1 q2 ⊢
    have x0 := q1.cell (i := 0) rfl
    have x1 := q1.cell (i := 1) rfl
    have x2 := q1.cell (i := 2) rfl
    exact bodyPost_ret (v := .agg #[.int .i64 0, .int .i64 0, .string ⟨#[]⟩]) (by simp [results, Try.results28, go_sem, x0, x1, x2]) rfl ⟨by rw [H0.out]; rfl, q2⟩
  obtain ⟨p, hp, hpe, hpm⟩ := first_of R (fun r => r.client = s) hno
  have LR := Lib.hid (fun W (h : Below w.heap.size w W) => l08Reply_at (.slice A T.length c) rfl R B d s p W (hB.on h) hp hpe hpm)
  rcases Bool.eq_false_or_eq_true (broB ⟨T, R⟩) with hT | hT
  rotate_left
  · have H0 := Lib.hid (F0.out hT)
    rw [hT] at BR
    clear hno hpe hpm
    have hp0 : ((p : Int) < 0) = False := by simp
    have k0 := K.cell (i := 0) rfl
    have k1 := K.cell (i := 1) rfl
    go_enter Try.func28, Try.ntmps28
    go_wp2_with (fail)
    clear k0 k1
    generalize (w.alloc (.cells #[.slice A T.length c, .slice B R.length d] 48)).alloc (.cells #[.int .i64 0, .int .i64 0, .string ⟨#[]⟩] 53) = v0 at K Z hb ⊢
    refine (LR.out _ hb).mono ?_
    rintro e w1 ⟨rfl, hb1⟩
    have hw1 := hb.trans (hb1.mono hb.size)
    have K1 := K.below hb1 K.lt
    have Z1 := Z.below hb1 Z.lt
    have k0 := K1.cell (i := 0) rfl
    have k1 := K1.cell (i := 1) rfl
    go_wp2_with (fail)
    refine (BR.out _ hw1).mono ?_
    rintro e w2 ⟨rfl, hb2⟩
    have hw2 := hw1.trans (hb2.mono hw1.size)
    have Z2 := Z1.below hb2 Z1.lt
    clear k0 k1
    have z0 := Z2.cell (i := 0) rfl
    have z1 := Z2.cell (i := 1) rfl
    have z2 := Z2.cell (i := 2) rfl
    have y0 := Z2.froz 0
    have y1 := Z2.froz 1
    have y2 := Z2.froz 2
    go_wp2
    have q1 := ((Z2.put 0 (.int .i64 0)).put 1 (.int .i64 0)).put 2 (.string ⟨#[]⟩)
    have q2 := ((hw2.setCell (p := ⟨w.heap.size + 1, 0, none⟩) (by simp) (.int .i64 0)).setCell (p := ⟨w.heap.size + 1, 1, none⟩) (by simp) (.int .i64 0)).setCell (p := ⟨w.heap.size + 1, 2, none⟩) (by simp) (.string ⟨#[]⟩)
    simp only [List.set_cons_succ, List.set_cons_zero] at q1
    generalize (((w2.setCell ⟨w.heap.size + 1, 0, none⟩ (.int .i64 0)).setCell ⟨w.heap.size + 1, 1, none⟩ (.int .i64 0)).setCell ⟨w.heap.size + 1, 2, none⟩ (.string ⟨#[]⟩)) = w9 at q1 q2 ⊢
    have x0 := q1.cell (i := 0) rfl
    have x1 := q1.cell (i := 1) rfl
    have x2 := q1.cell (i := 2) rfl
    exact bodyPost_ret (v := .agg #[.int .i64 0, .int .i64 0, .string ⟨#[]⟩]) (by simp [results, Try.results28, go_sem, x0, x1, x2]) rfl ⟨by rw [H0.out]; rfl, q2⟩
  have H0 := Lib.hid (F2.out p hT hp hpe)
  rw [hT] at BR
  clear hno hpe hpm
  have k0 := K.cell (i := 0) rfl
  have k1 := K.cell (i := 1) rfl
  go_enter Try.func28, Try.ntmps28
  go_wp2_with (fail)
  clear k0 k1
  generalize (w.alloc (.cells #[.slice A T.length c, .slice B R.length d] 48)).alloc (.cells #[.int .i64 0, .int .i64 0, .string ⟨#[]⟩] 53) = v0 at K Z hb ⊢
  refine (LR.out _ hb).mono ?_
  rintro e w1 ⟨rfl, hb1⟩
  have hw1 := hb.trans (hb1.mono hb.size)
  have K1 := K.below hb1 K.lt
  have Z1 := Z.below hb1 Z.lt
  have k0 := K1.cell (i := 0) rfl
  have k1 := K1.cell (i := 1) rfl
  go_wp2_with (fail)
  refine (BR.out _ hw1).mono ?_
  rintro e w2 ⟨rfl, hb2⟩
  have hw2 := hw1.trans (hb2.mono hw1.size)
  have K2 := K1.below hb2 K1.lt
  have Z2 := Z1.below hb2 Z1.lt
  clear k0 k1
  have k1 := K2.cell (i := 1) rfl
  have z0 := Z2.cell (i := 0) rfl
  have z1 := Z2.cell (i := 1) rfl
  have z2 := Z2.cell (i := 2) rfl
  have y0 := Z2.froz 0
  have y1 := Z2.froz 1
  have y2 := Z2.froz 2
  obtain ⟨a, rfl, hab, e0, e1, e2⟩ := (HB.out _ hw2).at p hp
  have hp' : (p : Int) < (R.length : Int) := by omega
  go_wp2
  have q1 := ((Z2.put 0 (.int .i64 R[p].client)).put 1 (.int .i64 R[p].number)).put 2 (.string R[p].text)
  have q2 := ((hw2.setCell (p := ⟨w.heap.size + 1, 0, none⟩) (by simp) (.int .i64 R[p].client)).setCell (p := ⟨w.heap.size + 1, 1, none⟩) (by simp) (.int .i64 R[p].number)).setCell (p := ⟨w.heap.size + 1, 2, none⟩) (by simp) (.string R[p].text)
  simp only [List.set_cons_succ, List.set_cons_zero] at q1
  generalize (((w2.setCell ⟨w.heap.size + 1, 0, none⟩ (.int .i64 R[p].client)).setCell ⟨w.heap.size + 1, 1, none⟩ (.int .i64 R[p].number)).setCell ⟨w.heap.size + 1, 2, none⟩ (.string R[p].text)) = w9 at q1 q2 ⊢
  have x0 := q1.cell (i := 0) rfl
  have x1 := q1.cell (i := 1) rfl
  have x2 := q1.cell (i := 2) rfl
  exact bodyPost_ret (v := .agg #[.int .i64 R[p].client, .int .i64 R[p].number, .string R[p].text]) (by simp [results, Try.results28, go_sem, x0, x1, x2]) rfl ⟨by rw [H0.out]; rfl, q2⟩
end Go.Proofs.Ytkimieeabmjfgaa

namespace Go.Proofs.Ytkimieeabmjfgaa
open Go.RowKit Go.Deep
set_option linter.unusedVariables false
set_option maxRecDepth 1000000
set_option maxHeartbeats 4000000 in
theorem implBrokerReply_any (b : Bro) (s : Int) (A : Option Addr) (c : Nat) (B : Option Addr) (d : Nat) (w : World) (hf : b.fits) (hS : b.small) (hA : Tops w w.heap.size A b.topics) (hB : Rps w w.heap.size B b.replies) :
    Calls Try.prog 29 #[broV (.slice A b.topics.length c) (.slice B b.replies.length d), .int .i64 s] w fun e w' => e = .returned (repOf b s).val ∧ Below w.heap.size w w' := by
  have BR := Lib.hid (fun W (h : Below w.heap.size w W) => implBrokerRight_any b A c B d W hf (hA.on h) (hB.on h))
  have F0 : Hid (broB b = false → repOf b s = zeroRep) := Lib.hid rep_bad
  have F1 : Hid (isR b.replies s = false → repOf b s = zeroRep) := Lib.hid rep_none
  have F2 : Hid (∀ k (h : broB b = true) (hk : k < b.replies.length), b.replies[k].client = s → repOf b s = b.replies[k]) := Lib.hid fun k h hk e => rep_at h hk e
  have HI := Lib.hid (isR_iff (G := b.replies) (s := s))
  have HO := Lib.hid (broB_iff (b := b))
  have HB := Lib.hid (fun W (h : Below w.heap.size w W) => hB.on h)
  have hsm := hS.2.2
  obtain ⟨T, R⟩ := b
  simp only at BR F0 F1 F2 HI HO HB hsm hA hB ⊢
  obtain ⟨r, HR⟩ : ∃ r, Hid (repOf ⟨T, R⟩ s = r) := ⟨_, Lib.hid rfl⟩
  rw [HR.out] at F0 F1 F2 ⊢
  have K := (Blk.fresh w 48 [.slice A T.length c, .slice B R.length d]).alloc (.cells #[.int .i64 0, .int .i64 0, .string ⟨#[]⟩] 53)
  have Z := Blk.fresh (w.alloc (.cells #[.slice A T.length c, .slice B R.length d] 48)) 53 [.int .i64 0, .int .i64 0, .string ⟨#[]⟩]
  have hb : Below w.heap.size w ((w.alloc (.cells #[.slice A T.length c, .slice B R.length d] 48)).alloc (.cells #[.int .i64 0, .int .i64 0, .string ⟨#[]⟩] 53)) := ((Below.refl _ _).alloc (Nat.le_refl _) _).alloc (by simp) _
  simp only [World.size_alloc] at K Z
  replace K : Blk ((w.alloc (.cells #[.slice A T.length c, .slice B R.length d] 48)).alloc (.cells #[.int .i64 0, .int .i64 0, .string ⟨#[]⟩] 53)) w.heap.size 48 [.slice A T.length c, .slice B R.length d] := K
  replace Z : Blk ((w.alloc (.cells #[.slice A T.length c, .slice B R.length d] 48)).alloc (.cells #[.int .i64 0, .int .i64 0, .string ⟨#[]⟩] 53)) (w.heap.size + 1) 53 [.int .i64 0, .int .i64 0, .string ⟨#[]⟩] := Z
  rcases Bool.eq_false_or_eq_true (broB ⟨T, R⟩) with hT | hT
  rotate_left
  · have H0 := Lib.hid (F0.out hT)
    rw [hT] at BR
    clear hT
    go_enter Try.func29, Try.ntmps29
    have k0 := K.cell (i := 0) rfl
    have k1 := K.cell (i := 1) rfl
    go_wp2_with (fail)
    clear k0 k1
    generalize (w.alloc (.cells #[.slice A T.length c, .slice B R.length d] 48)).alloc (.cells #[.int .i64 0, .int .i64 0, .string ⟨#[]⟩] 53) = v0 at K Z hb ⊢
    refine (BR.out _ hb).mono ?_
    rintro e w1 ⟨rfl, hb1⟩
    have hw1 := hb.trans (hb1.mono hb.size)
    have K1 := K.below hb1 K.lt
    have Z1 := Z.below hb1 Z.lt
    have z0 := Z1.cell (i := 0) rfl
    have z1 := Z1.cell (i := 1) rfl
    have z2 := Z1.cell (i := 2) rfl
    have y0 := Z1.froz 0
    have y1 := Z1.froz 1
    have y2 := Z1.froz 2
    go_wp2
    have q1 := ((Z1.put 0 (.int .i64 0)).put 1 (.int .i64 0)).put 2 (.string ⟨#[]⟩)
    have q2 := ((hw1.setCell (p := ⟨w.heap.size + 1, 0, none⟩) (by simp) (.int .i64 0)).setCell (p := ⟨w.heap.size + 1, 1, none⟩) (by simp) (.int .i64 0)).setCell (p := ⟨w.heap.size + 1, 2, none⟩) (by simp) (.string ⟨#[]⟩)
    simp only [List.set_cons_succ, List.set_cons_zero] at q1
    generalize (((w1.setCell ⟨w.heap.size + 1, 0, none⟩ (.int .i64 0)).setCell ⟨w.heap.size + 1, 1, none⟩ (.int .i64 0)).setCell ⟨w.heap.size + 1, 2, none⟩ (.string ⟨#[]⟩)) = w9 at q1 q2 ⊢
    have x0 := q1.cell (i := 0) rfl
    have x1 := q1.cell (i := 1) rfl
    have x2 := q1.cell (i := 2) rfl
    exact bodyPost_ret (v := .agg #[.int .i64 0, .int .i64 0, .string ⟨#[]⟩]) (by simp [results, Try.results29, go_sem, x0, x1, x2]) rfl ⟨by rw [H0.out]; rfl, q2⟩
  have ho := (HO.out.1 hT).2
  have hl : R.length ≤ 9 := ho.1
  have RP := Lib.hid (fun W (h : Below w.heap.size w W) => replyPlace_any B R d s W (HB.out W h) (risingR_of ho) (by omega))
  rw [hT] at BR
  have FR := Lib.hid (fun k => F2.out k hT)
  obtain ⟨p, HP⟩ : ∃ p, Hid (posR R s = p) := ⟨_, Lib.hid rfl⟩
  rw [HP.out] at RP
  clear ho hT HO F0 F2
  rcases Bool.eq_false_or_eq_true (isR R s) with hI | hI
  rotate_left
  · have H0 := Lib.hid (F1.out hI)
    rw [hI] at RP
    clear hI
    go_enter Try.func29, Try.ntmps29
    have k0 := K.cell (i := 0) rfl
    have k1 := K.cell (i := 1) rfl
    go_wp2_with (fail)
    clear k0 k1
    generalize (w.alloc (.cells #[.slice A T.length c, .slice B R.length d] 48)).alloc (.cells #[.int .i64 0, .int .i64 0, .string ⟨#[]⟩] 53) = v0 at K Z hb ⊢
    refine (BR.out _ hb).mono ?_
    rintro e w1 ⟨rfl, hb1⟩
    have hw1 := hb.trans (hb1.mono hb.size)
    have K1 := K.below hb1 K.lt
    have Z1 := Z.below hb1 Z.lt
    have k1 := K1.cell (i := 1) rfl
    go_wp2_with (fail)
    refine (RP.out _ hw1).mono ?_
    rintro e w2 ⟨rfl, hb2⟩
    clear k1
    have hw2 := hw1.trans (hb2.mono hw1.size)
    have K2 := K1.below hb2 K1.lt
    have Z2 := Z1.below hb2 Z1.lt
    have z0 := Z2.cell (i := 0) rfl
    have z1 := Z2.cell (i := 1) rfl
    have z2 := Z2.cell (i := 2) rfl
    have y0 := Z2.froz 0
    have y1 := Z2.froz 1
    have y2 := Z2.froz 2
    go_wp2
    have q1 := ((Z2.put 0 (.int .i64 0)).put 1 (.int .i64 0)).put 2 (.string ⟨#[]⟩)
    have q2 := ((hw2.setCell (p := ⟨w.heap.size + 1, 0, none⟩) (by simp) (.int .i64 0)).setCell (p := ⟨w.heap.size + 1, 1, none⟩) (by simp) (.int .i64 0)).setCell (p := ⟨w.heap.size + 1, 2, none⟩) (by simp) (.string ⟨#[]⟩)
    simp only [List.set_cons_succ, List.set_cons_zero] at q1
    generalize (((w2.setCell ⟨w.heap.size + 1, 0, none⟩ (.int .i64 0)).setCell ⟨w.heap.size + 1, 1, none⟩ (.int .i64 0)).setCell ⟨w.heap.size + 1, 2, none⟩ (.string ⟨#[]⟩)) = w9 at q1 q2 ⊢
    have x0 := q1.cell (i := 0) rfl
    have x1 := q1.cell (i := 1) rfl
    have x2 := q1.cell (i := 2) rfl
    exact bodyPost_ret (v := .agg #[.int .i64 0, .int .i64 0, .string ⟨#[]⟩]) (by simp [results, Try.results29, go_sem, x0, x1, x2]) rfl ⟨by rw [H0.out]; rfl, q2⟩
  obtain ⟨hp, hn⟩ := HI.out.1 hI
  simp only [HP.out] at hp hn
  have H0 := Lib.hid (FR.out p hp hn)
  have FRp := Lib.hid (fun W => freshReply_any R[p] W (hsm p hp))
  unfold Rep.val at FRp
  rw [hI] at RP
  clear hn hI
  go_enter Try.func29, Try.ntmps29
  have k0 := K.cell (i := 0) rfl
  have k1 := K.cell (i := 1) rfl
  go_wp2_with (fail)
  clear k0 k1
  generalize (w.alloc (.cells #[.slice A T.length c, .slice B R.length d] 48)).alloc (.cells #[.int .i64 0, .int .i64 0, .string ⟨#[]⟩] 53) = v0 at K Z hb ⊢
  refine (BR.out _ hb).mono ?_
  rintro e w1 ⟨rfl, hb1⟩
  have hw1 := hb.trans (hb1.mono hb.size)
  have K1 := K.below hb1 K.lt
  have Z1 := Z.below hb1 Z.lt
  have k1 := K1.cell (i := 1) rfl
  go_wp2_with (fail)
  refine (RP.out _ hw1).mono ?_
  rintro e w2 ⟨rfl, hb2⟩
  clear k1
  have hw2 := hw1.trans (hb2.mono hw1.size)
  have K2 := K1.below hb2 K1.lt
  have Z2 := Z1.below hb2 Z1.lt
  have k1 := K2.cell (i := 1) rfl
  obtain ⟨a, rfl, hab, e0, e1, e2⟩ := (HB.out _ hw2).at p hp
  have hp' : (p : Int) < (R.length : Int) := by omega
  go_wp2_with (fail)
  refine (FRp.out _).mono ?_
  rintro e w3 ⟨rfl, hb3⟩
  clear k1 e0 e1 e2
  have hw3 := hw2.trans (hb3.mono hw2.size)
  have Z3 := Z2.below hb3 Z2.lt
  have z0 := Z3.cell (i := 0) rfl
  have z1 := Z3.cell (i := 1) rfl
  have z2 := Z3.cell (i := 2) rfl
  have y0 := Z3.froz 0
  have y1 := Z3.froz 1
  have y2 := Z3.froz 2
  go_wp2
  have q1 := ((Z3.put 0 (.int .i64 R[p].client)).put 1 (.int .i64 R[p].number)).put 2 (.string R[p].text)
  have q2 := ((hw3.setCell (p := ⟨w.heap.size + 1, 0, none⟩) (by simp) (.int .i64 R[p].client)).setCell (p := ⟨w.heap.size + 1, 1, none⟩) (by simp) (.int .i64 R[p].number)).setCell (p := ⟨w.heap.size + 1, 2, none⟩) (by simp) (.string R[p].text)
  simp only [List.set_cons_succ, List.set_cons_zero] at q1
  generalize (((w3.setCell ⟨w.heap.size + 1, 0, none⟩ (.int .i64 R[p].client)).setCell ⟨w.heap.size + 1, 1, none⟩ (.int .i64 R[p].number)).setCell ⟨w.heap.size + 1, 2, none⟩ (.string R[p].text)) = w9 at q1 q2 ⊢
  have x0 := q1.cell (i := 0) rfl
  have x1 := q1.cell (i := 1) rfl
  have x2 := q1.cell (i := 2) rfl
  exact bodyPost_ret (v := .agg #[.int .i64 R[p].client, .int .i64 R[p].number, .string R[p].text]) (by simp [results, Try.results29, go_sem, x0, x1, x2]) rfl ⟨by rw [H0.out]; rfl, q2⟩
theorem bothBrokerReply (b : Bro) (s : Int) (hf : b.fits) (hS : b.small) (hs : (Lit.int .i64 s).wf = true) : ∃ r : Rep,
    (∀ A c B d W, Tops W W.heap.size A b.topics → Rps W W.heap.size B b.replies → Calls Try.prog 28 #[broV (.slice A b.topics.length c) (.slice B b.replies.length d), .int .i64 s] W fun e w' => e = .returned r.val ∧ Below W.heap.size W w') ∧
    (∀ A c B d W, Tops W W.heap.size A b.topics → Rps W W.heap.size B b.replies → Calls Try.prog 29 #[broV (.slice A b.topics.length c) (.slice B b.replies.length d), .int .i64 s] W fun e w' => e = .returned r.val ∧ Below W.heap.size W w') :=
  ⟨repOf b s, fun A c B d W h1 h2 => specBrokerReply_any b s A c B d W hf h1 h2, fun A c B d W h1 h2 => implBrokerReply_any b s A c B d W hf hS h1 h2⟩
end Go.Proofs.Ytkimieeabmjfgaa
