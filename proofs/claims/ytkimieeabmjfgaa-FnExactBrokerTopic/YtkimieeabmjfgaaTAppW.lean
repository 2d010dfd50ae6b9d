/- The place of a topic: plain mathematics, and a search by halves. The place of a reply: plain mathematics, and a search by halves. The contracts of BrokerReply. Strings and groups appended to rows of the call's own, out of slices that are read. -/
import Derived.Test.YtkimieeabmjfgaaBrToW
import Derived.Test.YtkimieeabmjfgaaTpPosW
import Derived.Test.YtkimieeabmjfgaaShelf
import Derived.Test.YtkimieeabmjfgaaTextW
import Derived.Deep.RegionHeld3
import Derived.Test.YtkimieeabmjfgaaIs3W
import Derived.Laws.AppendOwnNone
namespace Go.Proofs.Ytkimieeabmjfgaa
open Go.RowKit
set_option linter.unusedVariables false
set_option maxRecDepth 1000000

/-- Topics that rise by name. -/
def RisingT (G : List Tpc) : Prop := ∀ i j (hi : i < j) (hj : j < G.length), lessB (G[i]'(by omega)).name G[j].name = true
theorem risingT_of {T : List Tpc} (h : topsOK T) : RisingT T := by
  have step : ∀ i (hi : i + 1 < T.length), lessB (T[i]'(by omega)).name T[i + 1].name = true := fun i hi => (h.2 (i + 1) hi).2 (by omega)
  intro i j hij hj
  induction j with
  | zero => omega
  | succ j ih =>
    by_cases e : i = j
    · subst e; exact step i hj
    · exact lessG_trans (ih (by omega) (by omega)) (step j hj)
/-- Where a topic is, or would have to be. -/
def posT : List Tpc → ByteArray → Nat
  | [], _ => 0
  | g :: G, s => if lessB g.name s then posT G s + 1 else 0
theorem posT_le : ∀ (G : List Tpc) (s : ByteArray), posT G s ≤ G.length
  | [], _ => Nat.le_refl _
  | g :: G, s => by unfold posT; have := posT_le G s; split <;> simp <;> omega
theorem posT_lt : ∀ (G : List Tpc) (s : ByteArray) (i : Nat) (h : i < G.length), i < posT G s → lessB G[i].name s = true
  | [], _, i, h, _ => by simp at h
  | g :: G, s, i, h, hi => by
    unfold posT at hi
    split at hi
    · cases i with
      | zero => assumption
      | succ i => exact posT_lt G s i (by simpa using h) (by omega)
    · omega
theorem posT_at : ∀ (G : List Tpc) (s : ByteArray) (h : posT G s < G.length), lessB (G[posT G s]).name s = false
  | [], _, h => by simp at h
  | g :: G, s, h => by
    by_cases hl : lessB g.name s = true
    · have e : posT (g :: G) s = posT G s + 1 := by simp [posT, hl]
      simp only [e, List.getElem_cons_succ]
      exact posT_at G s (by rw [e] at h; simpa using h)
    · have e : posT (g :: G) s = 0 := by simp [posT, hl]
      simp only [e, List.getElem_cons_zero]
      simpa using hl
/-- The place of a topic is found by halves. -/
theorem posT_iff {G : List Tpc} {s : ByteArray} (hr : RisingT G) {i : Nat} (h : i < G.length) : lessB G[i].name s = true ↔ i < posT G s := by
  refine ⟨fun hl => ?_, posT_lt G s i h⟩
  rcases Nat.lt_or_ge i (posT G s) with h1 | h1
  · exact h1
  · have h2 := posT_at G s (by omega)
    rcases Nat.eq_or_lt_of_le h1 with e | h3
    · simp only [e] at h2; rw [hl] at h2; cases h2
    · have := lessG_trans (hr _ _ h3 h) hl
      rw [this] at h2; cases h2
/-- Whether a topic is there. -/
noncomputable def isT (G : List Tpc) (s : ByteArray) : Bool := @decide (∃ h : posT G s < G.length, (G[posT G s]).name = s) (Classical.propDecidable _)
theorem isT_iff {G : List Tpc} {s : ByteArray} : isT G s = true ↔ ∃ h : posT G s < G.length, (G[posT G s]).name = s :=
  ⟨fun h => by unfold isT at h; exact @of_decide_eq_true _ (Classical.propDecidable _) h, fun h => by unfold isT; exact @decide_eq_true _ (Classical.propDecidable _) h⟩
theorem isT_not {G : List Tpc} {s : ByteArray} (h : ¬ ∃ h : posT G s < G.length, (G[posT G s]).name = s) : isT G s = false := by
  unfold isT; exact @decide_eq_false _ (Classical.propDecidable _) h
theorem isT_at {G : List Tpc} {s : ByteArray} (hr : RisingT G) {i : Nat} (h : i < G.length) (e : G[i].name = s) : i = posT G s ∧ isT G s = true := by
  have hi : ¬ i < posT G s := fun hl => by have := posT_lt G s i h hl; rw [e, lessG_irrefl] at this; cases this
  have hp : ¬ posT G s < i := fun hl => by
    have h2 := hr _ _ hl h
    rw [e] at h2
    rw [posT_at G s (by omega)] at h2; cases h2
  obtain rfl : i = posT G s := by omega
  exact ⟨rfl, isT_iff.2 ⟨h, e⟩⟩

def zeroTop : Tpc := ⟨⟨#[]⟩, 0, [], []⟩
theorem isT_none {G : List Tpc} {s : ByteArray} (h : ∀ i (hi : i < G.length), G[i].name ≠ s) : isT G s = false := isT_not fun ⟨hi, e⟩ => h _ hi e
/-- BrokerTopic. -/
noncomputable def topOf (b : Bro) (s : ByteArray) : Tpc :=
  if broB b = false then zeroTop else if isT b.topics s = false then zeroTop else b.topics.getD (posT b.topics s) zeroTop
theorem top_bad {b : Bro} {s : ByteArray} (h : broB b = false) : topOf b s = zeroTop := by unfold topOf; rw [if_pos h]
theorem top_none {b : Bro} {s : ByteArray} (h2 : isT b.topics s = false) : topOf b s = zeroTop := by
  unfold topOf; simp [h2]
theorem top_at {b : Bro} {s : ByteArray} {k : Nat} (h : broB b = true) (hk : k < b.topics.length) (e : b.topics[k].name = s) : topOf b s = b.topics[k] := by
  obtain ⟨rfl, hi⟩ := isT_at (risingT_of (broB_iff.1 h).1) hk e
  unfold topOf
  rw [if_neg (by rw [h]; simp), if_neg (by rw [hi]; simp), List.getD_eq_getElem?_getD, List.getElem?_eq_getElem hk]
  rfl
theorem nameB_short {s : ByteArray} (h : nameB s = true) : s.size ≤ 20 := by
  unfold nameB at h
  exact (@of_decide_eq_true _ (Classical.propDecidable _) h).2.1
theorem top_long {b : Bro} {s : ByteArray} (h : 20000 < s.size) : topOf b s = zeroTop := by
  rcases Bool.eq_false_or_eq_true (broB b) with hT | hT
  · refine top_none (isT_none fun i hi e => ?_)
    have := (topB_iff.1 ((broB_iff.1 hT).1.2 i hi).1).1
    rw [e] at this
    have := nameB_short this
    omega
  · exact top_bad hT
theorem compareT_any (a b : ByteArray) (w : World) : Calls Try.prog 109 #[.string a, .string b] w fun e w' => e = .returned (.int .i64 (cmpG a b)) ∧ w' = w := Try.strings_Compare a b w
theorem placeT1_any (g : Tpc) (C : Option Addr) (cc : Nat) (D : Option Addr) (dd : Nat) (s : ByteArray) (w : World) : Calls Try.prog 108 #[.agg #[.string g.name, .int .i64 g.base, .slice C g.held.length cc, .slice D g.groups.length dd], .string s] w fun e w' => e = .returned (.int .i64 (cmpG g.name s)) ∧ Below w.heap.size w w' := by
  have hK := Blk.fresh w 29 [.string g.name, .int .i64 g.base, .slice C g.held.length cc, .slice D g.groups.length dd]
  have hb := below_box w (.cells #[.string g.name, .int .i64 g.base, .slice C g.held.length cc, .slice D g.groups.length dd] 29)
  have c0 := hK.cell (i := 0) rfl
  simp only [List.toArray] at c0
  go_enter Try.func108, Try.ntmps108
  go_wp2_with (go_at_call 109; refine (compareT_any _ _ _).mono ?_; rintro e w' ⟨rfl, rfl⟩)
  go_ret
  exact ⟨rfl, hb⟩
/-- What a search answers. -/
def PlcT (w : World) (k : Nat) (r : Bool) (e : Ending) (w' : World) : Prop := e = .returned (.tuple #[.int .i64 k, .bool r]) ∧ Below w.heap.size w w'
set_option maxHeartbeats 4000000 in
theorem bsearchT_any (B : Option Addr) (G : List Tpc) (d : Nat) (s : ByteArray) (w : World) (hB : Tops w w.heap.size B G) (hr : RisingT G) (hG : G.length ≤ 100000) :
    Calls Try.prog 107 #[.slice B G.length d, .string s, .func (.func 108) #[] #[]] w (PlcT w (posT G s) (isT G s)) := by
  have HB := Lib.hid (fun W (h : Below w.heap.size w W) => hB.on h)
  have HP := Lib.hid (fun i (h : i < G.length) => posT_iff (s := s) hr h)
  have hle := posT_le G s
  obtain ⟨p, HPp⟩ : ∃ p, Hid (posT G s = p) := ⟨_, Lib.hid rfl⟩
  rw [HPp.out] at hle HP ⊢
  obtain ⟨r, HR⟩ : ∃ r, Hid (isT G s = r) := ⟨_, Lib.hid rfl⟩
  rw [HR.out]
  go_enter Try.func107, Try.ntmps107
  go_wp2
  go_loopw [9, 10, 11] (fun i j _ wr => ∃ k m : Nat, k ≤ p ∧ p ≤ m ∧ m ≤ G.length ∧ i = .int .i64 k ∧ j = .int .i64 m ∧ Below w.heap.size w wr) (fun i j _ _ => (intOf j).toNat - (intOf i).toNat)
  case atStart => exact ⟨0, G.length, by omega, hle, by omega, rfl, rfl, Below.refl _ _⟩
  case round =>
    obtain ⟨k, m, h1, h2, h3, rfl, rfl, hb⟩ := hrel
    by_cases hlt : k < m
    · have hlt' : (k : Int) < (m : Int) := by omega
      have hq : (k + m) / 2 < G.length := by omega
      have hs1 : ((k : Int) + (m : Int)) / 2 = (((k + m) / 2 : Nat) : Int) := by omega
      obtain ⟨q, HQ⟩ : ∃ q, Hid ((k + m) / 2 = q) := ⟨_, Lib.hid rfl⟩
      rw [HQ.out] at hq
      obtain ⟨a, rfl, hab, C, cc, D, dd, c0, c1, c2, c3, hC, hD⟩ := (HB.out _ hb).at q hq
      have hq' : (q : Int) < (G.length : Int) := by omega
      have hsh : Op.shift .shr .u64 ((k : Int) + (m : Int)) .u64 1 = pure (.int .u64 (q : Int)) := by
        rw [shift_shr .u64 .u64 _ 1 (by decide) (by decide)]
        have e : ((k : Int) + (m : Int)) / 2 ^ (1 : Int).toNat = (q : Int) := by have := HQ.out; show ((k : Int) + (m : Int)) / 2 = _; omega
        rw [e]
      clear hs1
      have hm2 : q < m ∧ k ≤ q := by have := HQ.out; omega
      have hq2 : (q : Int) + 1 ≤ 100000 := by omega
      by_cases hl : lessB G[q].name s = true
      · have hz : cmpG G[q].name s < 0 := (cmpG_neg _ _).2 hl
        have hp1 : q < p := (HP.out q hq).1 hl
        have hd : decide (cmpG G[q].name s < 0) = true := by simpa using hz
        clear hl
        go_wp2_with (go_at_call 108; (with_reducible refine (placeT1_any G[q] C cc D dd s _).mono ?_); rintro e w1 ⟨rfl, hb1⟩)
        refine ⟨⟨q + 1, m, by omega, h2, h3, by go_num, rfl, hb.trans (hb1.mono hb.size)⟩, by simp [intOf]; omega⟩
      · have hz : ¬ cmpG G[q].name s < 0 := fun h => hl ((cmpG_neg _ _).1 h)
        have hp1 : ¬ q < p := fun h => hl ((HP.out q hq).2 h)
        have hd : decide (cmpG G[q].name s < 0) = false := by simpa using hz
        clear hl
        go_wp2_with (go_at_call 108; (with_reducible refine (placeT1_any G[q] C cc D dd s _).mono ?_); rintro e w1 ⟨rfl, hb1⟩)
        refine ⟨⟨k, q, h1, by omega, by omega, rfl, rfl, hb.trans (hb1.mono hb.size)⟩, by simp [intOf]; omega⟩
    · obtain rfl : k = m := by omega
      obtain rfl : k = p := by omega
      by_cases hp : k < G.length
      · have hp' : (k : Int) < (G.length : Int) := by omega
        have hd : decide ((k : Int) < (G.length : Int)) = true := by simpa using hp
        obtain ⟨a, rfl, hab, C, cc, D, dd, c0, c1, c2, c3, hC, hD⟩ := (HB.out _ hb).at k hp
        by_cases hn : G[k].name = s
        · have hz : (cmpG G[k].name s == 0) = true := by rw [(cmpG_zero _ _).2 hn]; rfl
          have hr : r = true := by rw [← HR.out]; exact isT_iff.2 ⟨by rw [HPp.out]; exact hp, by simp only [HPp.out]; exact hn⟩
          have HR2 := Lib.hid hr
          clear hr hn HR HPp
          go_wp2_with (go_at_call 108; (with_reducible refine (placeT1_any G[k] C cc D dd s _).mono ?_); rintro e w1 ⟨rfl, hb1⟩)
          exact bodyPost_ret (v := .tuple #[.int .i64 k, .bool true]) (by simp [results, Try.results107, go_sem]) rfl ⟨by rw [HR2.out], hb.trans (hb1.mono hb.size)⟩
        · have hz : (cmpG G[k].name s == 0) = false := by rw [beq_eq_false_iff_ne]; exact fun h => hn ((cmpG_zero _ _).1 h)
          have hr : r = false := by rw [← HR.out]; exact isT_not fun ⟨_, h⟩ => hn (by simp only [HPp.out] at h; exact h)
          have HR2 := Lib.hid hr
          clear hr hn HR HPp
          go_wp2_with (go_at_call 108; (with_reducible refine (placeT1_any G[k] C cc D dd s _).mono ?_); rintro e w1 ⟨rfl, hb1⟩)
          exact bodyPost_ret (v := .tuple #[.int .i64 k, .bool false]) (by simp [results, Try.results107, go_sem]) rfl ⟨by rw [HR2.out], hb.trans (hb1.mono hb.size)⟩
      · obtain rfl : k = G.length := by omega
        have hr : r = false := by rw [← HR.out]; exact isT_not fun ⟨h, _⟩ => hp (by rw [HPp.out] at h; exact h)
        have HR2 := Lib.hid hr
        clear hr HR HPp hp
        go_wp2
        exact bodyPost_ret (v := .tuple #[.int .i64 G.length, .bool false]) (by simp [results, Try.results107, go_sem]) rfl ⟨by rw [HR2.out], hb⟩
theorem topicPlace_any (B : Option Addr) (G : List Tpc) (d : Nat) (s : ByteArray) (w : World) (hB : Tops w w.heap.size B G) (hr : RisingT G) (hG : G.length ≤ 100000) :
    Calls Try.prog 70 #[.slice B G.length d, .string s] w (PlcT w (posT G s) (isT G s)) := by
  have BS := Lib.hid (bsearchT_any B G d s w hB hr hG)
  generalize posT G s = p at BS ⊢
  generalize isT G s = r at BS ⊢
  go_enter Try.func70, Try.ntmps70
  go_wp2_with (go_at_call 107; (with_reducible refine BS.out.mono ?_); rintro e w1 ⟨rfl, hb1⟩)
  exact bodyPost_ret (v := .tuple #[.int .i64 p, .bool r]) (by simp [results, Try.results70, go_sem]) rfl ⟨rfl, hb1⟩
end Go.Proofs.Ytkimieeabmjfgaa

namespace Go.Proofs.Ytkimieeabmjfgaa
open Go.RowKit
set_option linter.unusedVariables false
set_option maxRecDepth 1000000

/-- How the program compares two numbers. -/
def cmpI (a b : Int) : Int := if a < b then -1 else if b < a then 1 else 0
theorem cmpI_neg (a b : Int) : cmpI a b < 0 ↔ a < b := by unfold cmpI; split <;> (try split) <;> simp <;> omega
theorem cmpI_zero (a b : Int) : cmpI a b = 0 ↔ a = b := by unfold cmpI; split <;> (try split) <;> simp <;> omega
theorem cmpI_rng (a b : Int) : -1 ≤ cmpI a b ∧ cmpI a b ≤ 1 := by unfold cmpI; split <;> (try split) <;> simp
/-- Replies that rise by client. -/
def RisingR (G : List Rep) : Prop := ∀ i j (hi : i < j) (hj : j < G.length), (G[i]'(by omega)).client < G[j].client
theorem risingR_of {R : List Rep} (h : repsOK R) : RisingR R := by
  have step : ∀ i (hi : i + 1 < R.length), (R[i]'(by omega)).client < R[i + 1].client := fun i hi => (h.2 (i + 1) hi).2 (by omega)
  intro i j hij hj
  induction j with
  | zero => omega
  | succ j ih =>
    by_cases e : i = j
    · subst e; exact step i hj
    · exact Int.lt_trans (ih (by omega) (by omega)) (step j hj)
/-- Where a reply is, or would have to be. -/
def posR : List Rep → Int → Nat
  | [], _ => 0
  | g :: G, s => if g.client < s then posR G s + 1 else 0
theorem posR_le : ∀ (G : List Rep) (s : Int), posR G s ≤ G.length
  | [], _ => Nat.le_refl _
  | g :: G, s => by unfold posR; have := posR_le G s; split <;> simp <;> omega
theorem posR_lt : ∀ (G : List Rep) (s : Int) (i : Nat) (h : i < G.length), i < posR G s → G[i].client < s
  | [], _, i, h, _ => by simp at h
  | g :: G, s, i, h, hi => by
    unfold posR at hi
    split at hi
    · cases i with
      | zero => assumption
      | succ i => exact posR_lt G s i (by simpa using h) (by omega)
    · omega
theorem posR_at : ∀ (G : List Rep) (s : Int) (h : posR G s < G.length), ¬ (G[posR G s]).client < s
  | [], _, h => by simp at h
  | g :: G, s, h => by
    by_cases hl : g.client < s
    · have e : posR (g :: G) s = posR G s + 1 := by simp [posR, hl]
      simp only [e, List.getElem_cons_succ]
      exact posR_at G s (by rw [e] at h; simpa using h)
    · have e : posR (g :: G) s = 0 := by simp [posR, hl]
      simp only [e, List.getElem_cons_zero]
      exact hl
theorem posR_iff {G : List Rep} {s : Int} (hr : RisingR G) {i : Nat} (h : i < G.length) : G[i].client < s ↔ i < posR G s := by
  refine ⟨fun hl => ?_, posR_lt G s i h⟩
  rcases Nat.lt_or_ge i (posR G s) with h1 | h1
  · exact h1
  · have h2 := posR_at G s (by omega)
    rcases Nat.eq_or_lt_of_le h1 with e | h3
    · simp only [e] at h2; exact absurd hl h2
    · exact absurd (Int.lt_trans (hr _ _ h3 h) hl) h2
/-- Whether a reply is there. -/
noncomputable def isR (G : List Rep) (s : Int) : Bool := @decide (∃ h : posR G s < G.length, (G[posR G s]).client = s) (Classical.propDecidable _)
theorem isR_iff {G : List Rep} {s : Int} : isR G s = true ↔ ∃ h : posR G s < G.length, (G[posR G s]).client = s :=
  ⟨fun h => by unfold isR at h; exact @of_decide_eq_true _ (Classical.propDecidable _) h, fun h => by unfold isR; exact @decide_eq_true _ (Classical.propDecidable _) h⟩
theorem isR_not {G : List Rep} {s : Int} (h : ¬ ∃ h : posR G s < G.length, (G[posR G s]).client = s) : isR G s = false := by
  unfold isR; exact @decide_eq_false _ (Classical.propDecidable _) h
theorem isR_at {G : List Rep} {s : Int} (hr : RisingR G) {i : Nat} (h : i < G.length) (e : G[i].client = s) : i = posR G s ∧ isR G s = true := by
  have hi : ¬ i < posR G s := fun hl => by have := posR_lt G s i h hl; omega
  have hp : ¬ posR G s < i := fun hl => by
    have h2 := hr _ _ hl h
    have := posR_at G s (by omega)
    omega
  obtain rfl : i = posR G s := by omega
  exact ⟨rfl, isR_iff.2 ⟨h, e⟩⟩
theorem isR_none {G : List Rep} {s : Int} (h : ∀ i (hi : i < G.length), G[i].client ≠ s) : isR G s = false := isR_not fun ⟨hi, e⟩ => h _ hi e
/-- BrokerReply. -/
noncomputable def repOf (b : Bro) (s : Int) : Rep :=
  if broB b = false then zeroRep else if isR b.replies s = false then zeroRep else b.replies.getD (posR b.replies s) zeroRep
theorem rep_bad {b : Bro} {s : Int} (h : broB b = false) : repOf b s = zeroRep := by unfold repOf; rw [if_pos h]
theorem rep_none {b : Bro} {s : Int} (h2 : isR b.replies s = false) : repOf b s = zeroRep := by
  unfold repOf; simp [h2]
theorem rep_at {b : Bro} {s : Int} {k : Nat} (h : broB b = true) (hk : k < b.replies.length) (e : b.replies[k].client = s) : repOf b s = b.replies[k] := by
  obtain ⟨rfl, hi⟩ := isR_at (risingR_of (broB_iff.1 h).2) hk e
  unfold repOf
  rw [if_neg (by rw [h]; simp), if_neg (by rw [hi]; simp), List.getD_eq_getElem?_getD, List.getElem?_eq_getElem hk]
  rfl
theorem cmpI_any (a b : Int) (w : World) : Calls Try.prog 106 #[.int .i64 a, .int .i64 b] w fun e w' => e = .returned (.int .i64 (cmpI a b)) ∧ w' = w := by
  have NA : ∀ x W, Calls Try.prog 126 #[.int .i64 x] W fun e w' => e = .returned (.bool false) ∧ w' = W := by
    intro x W
    go_enter Try.func126, Try.ntmps126
    go_wp2
    go_ret
    exact ⟨by simp, rfl⟩
  have HN := Lib.hid NA
  clear NA
  unfold cmpI
  by_cases h : a < b
  · rw [if_pos h]
    have hd : decide (a < b) = true := by simpa using h
    clear h
    go_enter Try.func106, Try.ntmps106
    go_wp2_with (go_at_call 126; (with_reducible refine (HN.out _ _).mono ?_); rintro e w' ⟨rfl, rfl⟩)
    go_ret
    exact ⟨rfl, rfl⟩
  · rw [if_neg h]
    have hd : decide (a < b) = false := by simpa using h
    by_cases h2 : b < a
    · rw [if_pos h2]
      have hd2 : decide (b < a) = true := by simpa using h2
      clear h h2
      go_enter Try.func106, Try.ntmps106
      go_wp2_with (go_at_call 126; (with_reducible refine (HN.out _ _).mono ?_); rintro e w' ⟨rfl, rfl⟩)
      go_ret
      exact ⟨rfl, rfl⟩
    · rw [if_neg h2]
      have hd2 : decide (b < a) = false := by simpa using h2
      clear h h2
      go_enter Try.func106, Try.ntmps106
      go_wp2_with (go_at_call 126; (with_reducible refine (HN.out _ _).mono ?_); rintro e w' ⟨rfl, rfl⟩)
      go_ret
      exact ⟨rfl, rfl⟩
theorem placeR1_any (g : Rep) (s : Int) (w : World) : Calls Try.prog 105 #[.agg #[.int .i64 g.client, .int .i64 g.number, .string g.text], .int .i64 s] w fun e w' => e = .returned (.int .i64 (cmpI g.client s)) ∧ Below w.heap.size w w' := by
  have hK := Blk.fresh w 53 [.int .i64 g.client, .int .i64 g.number, .string g.text]
  have hb := below_box w (.cells #[.int .i64 g.client, .int .i64 g.number, .string g.text] 53)
  have c0 := hK.cell (i := 0) rfl
  simp only [List.toArray] at c0
  go_enter Try.func105, Try.ntmps105
  go_wp2_with (go_at_call 106; refine (cmpI_any _ _ _).mono ?_; rintro e w' ⟨rfl, rfl⟩)
  go_ret
  exact ⟨rfl, hb⟩
/-- What a search answers. -/
def PlcR (w : World) (k : Nat) (r : Bool) (e : Ending) (w' : World) : Prop := e = .returned (.tuple #[.int .i64 k, .bool r]) ∧ Below w.heap.size w w'
set_option maxHeartbeats 4000000 in
theorem bsearchR_any (B : Option Addr) (G : List Rep) (d : Nat) (s : Int) (w : World) (hB : Rps w w.heap.size B G) (hr : RisingR G) (hG : G.length ≤ 100000) :
    Calls Try.prog 104 #[.slice B G.length d, .int .i64 s, .func (.func 105) #[] #[]] w (PlcR w (posR G s) (isR G s)) := by
  have HB := Lib.hid (fun W (h : Below w.heap.size w W) => hB.on h)
  have HP := Lib.hid (fun i (h : i < G.length) => posR_iff (s := s) hr h)
  have hle := posR_le G s
  obtain ⟨p, HPp⟩ : ∃ p, Hid (posR G s = p) := ⟨_, Lib.hid rfl⟩
  rw [HPp.out] at hle HP ⊢
  obtain ⟨r, HR⟩ : ∃ r, Hid (isR G s = r) := ⟨_, Lib.hid rfl⟩
  rw [HR.out]
  go_enter Try.func104, Try.ntmps104
  go_wp2
  go_loopw [9, 10, 11] (fun i j _ wr => ∃ k m : Nat, k ≤ p ∧ p ≤ m ∧ m ≤ G.length ∧ i = .int .i64 k ∧ j = .int .i64 m ∧ Below w.heap.size w wr) (fun i j _ _ => (intOf j).toNat - (intOf i).toNat)
  case atStart => exact ⟨0, G.length, by omega, hle, by omega, rfl, rfl, Below.refl _ _⟩
  case round =>
    obtain ⟨k, m, h1, h2, h3, rfl, rfl, hb⟩ := hrel
    by_cases hlt : k < m
    · have hlt' : (k : Int) < (m : Int) := by omega
      have hq : (k + m) / 2 < G.length := by omega
      have hs1 : ((k : Int) + (m : Int)) / 2 = (((k + m) / 2 : Nat) : Int) := by omega
      obtain ⟨q, HQ⟩ : ∃ q, Hid ((k + m) / 2 = q) := ⟨_, Lib.hid rfl⟩
      rw [HQ.out] at hq
      obtain ⟨a, rfl, hab, c0, c1, c2⟩ := (HB.out _ hb).at q hq
      have hq' : (q : Int) < (G.length : Int) := by omega
      have hsh : Op.shift .shr .u64 ((k : Int) + (m : Int)) .u64 1 = pure (.int .u64 (q : Int)) := by
        rw [shift_shr .u64 .u64 _ 1 (by decide) (by decide)]
        have e : ((k : Int) + (m : Int)) / 2 ^ (1 : Int).toNat = (q : Int) := by have := HQ.out; show ((k : Int) + (m : Int)) / 2 = _; omega
        rw [e]
      clear hs1
      have hm2 : q < m ∧ k ≤ q := by have := HQ.out; omega
      have hq2 : (q : Int) + 1 ≤ 100000 := by omega
      by_cases hl : G[q].client < s
      · have hz : cmpI G[q].client s < 0 := (cmpI_neg _ _).2 hl
        have hp1 : q < p := (HP.out q hq).1 hl
        have hd : decide (cmpI G[q].client s < 0) = true := by simpa using hz
        clear hl
        go_wp2_with (go_at_call 105; (with_reducible refine (placeR1_any G[q] s _).mono ?_); rintro e w1 ⟨rfl, hb1⟩)
        refine ⟨⟨q + 1, m, by omega, h2, h3, by go_num, rfl, hb.trans (hb1.mono hb.size)⟩, by simp [intOf]; omega⟩
      · have hz : ¬ cmpI G[q].client s < 0 := fun h => hl ((cmpI_neg _ _).1 h)
        have hp1 : ¬ q < p := fun h => hl ((HP.out q hq).2 h)
        have hd : decide (cmpI G[q].client s < 0) = false := by simpa using hz
        clear hl
        go_wp2_with (go_at_call 105; (with_reducible refine (placeR1_any G[q] s _).mono ?_); rintro e w1 ⟨rfl, hb1⟩)
        refine ⟨⟨k, q, h1, by omega, by omega, rfl, rfl, hb.trans (hb1.mono hb.size)⟩, by simp [intOf]; omega⟩
    · obtain rfl : k = m := by omega
      obtain rfl : k = p := by omega
      by_cases hp : k < G.length
      · have hp' : (k : Int) < (G.length : Int) := by omega
        have hd : decide ((k : Int) < (G.length : Int)) = true := by simpa using hp
        obtain ⟨a, rfl, hab, c0, c1, c2⟩ := (HB.out _ hb).at k hp
        by_cases hn : G[k].client = s
        · have hz : (cmpI G[k].client s == 0) = true := by rw [(cmpI_zero _ _).2 hn]; rfl
          have hr : r = true := by rw [← HR.out]; exact isR_iff.2 ⟨by rw [HPp.out]; exact hp, by simp only [HPp.out]; exact hn⟩
          have HR2 := Lib.hid hr
          clear hr hn HR HPp
          go_wp2_with (go_at_call 105; (with_reducible refine (placeR1_any G[k] s _).mono ?_); rintro e w1 ⟨rfl, hb1⟩)
          exact bodyPost_ret (v := .tuple #[.int .i64 k, .bool true]) (by simp [results, Try.results104, go_sem]) rfl ⟨by rw [HR2.out], hb.trans (hb1.mono hb.size)⟩
        · have hz : (cmpI G[k].client s == 0) = false := by rw [beq_eq_false_iff_ne]; exact fun h => hn ((cmpI_zero _ _).1 h)
          have hr : r = false := by rw [← HR.out]; exact isR_not fun ⟨_, h⟩ => hn (by simp only [HPp.out] at h; exact h)
          have HR2 := Lib.hid hr
          clear hr hn HR HPp
          go_wp2_with (go_at_call 105; (with_reducible refine (placeR1_any G[k] s _).mono ?_); rintro e w1 ⟨rfl, hb1⟩)
          exact bodyPost_ret (v := .tuple #[.int .i64 k, .bool false]) (by simp [results, Try.results104, go_sem]) rfl ⟨by rw [HR2.out], hb.trans (hb1.mono hb.size)⟩
      · obtain rfl : k = G.length := by omega
        have hr : r = false := by rw [← HR.out]; exact isR_not fun ⟨h, _⟩ => hp (by rw [HPp.out] at h; exact h)
        have HR2 := Lib.hid hr
        clear hr HR HPp hp
        go_wp2
        exact bodyPost_ret (v := .tuple #[.int .i64 G.length, .bool false]) (by simp [results, Try.results104, go_sem]) rfl ⟨by rw [HR2.out], hb⟩
theorem replyPlace_any (B : Option Addr) (G : List Rep) (d : Nat) (s : Int) (w : World) (hB : Rps w w.heap.size B G) (hr : RisingR G) (hG : G.length ≤ 100000) :
    Calls Try.prog 66 #[.slice B G.length d, .int .i64 s] w (PlcR w (posR G s) (isR G s)) := by
  have BS := Lib.hid (bsearchR_any B G d s w hB hr hG)
  generalize posR G s = p at BS ⊢
  generalize isR G s = r at BS ⊢
  go_enter Try.func66, Try.ntmps66
  go_wp2_with (go_at_call 104; (with_reducible refine BS.out.mono ?_); rintro e w1 ⟨rfl, hb1⟩)
  exact bodyPost_ret (v := .tuple #[.int .i64 p, .bool r]) (by simp [results, Try.results66, go_sem]) rfl ⟨rfl, hb1⟩
end Go.Proofs.Ytkimieeabmjfgaa

namespace Go.Proofs.Ytkimieeabmjfgaa
open Go.RowKit Go.Deep
set_option linter.unusedVariables false
set_option maxRecDepth 1000000

theorem far3 {W : World} {b c i : Nat} {u0 u1 u2 v : Value} (hne : c ≠ b) (h : W.cell? ⟨c, i, none⟩ = some v) : (((W.setCell ⟨b, 0, none⟩ u0).setCell ⟨b, 1, none⟩ u1).setCell ⟨b, 2, none⟩ u2).cell? ⟨c, i, none⟩ = some v :=
  cell_put_far (cell_put_far (cell_put_far h hne _) hne _) hne _
set_option maxHeartbeats 2000000 in
theorem freshReply_any (r : Rep) (w : World) (hs : r.text.size ≤ 1048576) :
    Calls Try.prog 67 #[r.val] w fun e w' => e = .returned r.val ∧ Below w.heap.size w w' := by
  obtain ⟨a, n, s⟩ := r
  simp only at hs
  unfold Rep.val
  simp only
  have K := (Blk.fresh w 53 [.int .i64 a, .int .i64 n, .string s]).alloc (.cells #[.int .i64 0, .int .i64 0, .string ⟨#[]⟩] 53)
  have R := Blk.fresh (w.alloc (.cells #[.int .i64 a, .int .i64 n, .string s] 53)) 53 [.int .i64 0, .int .i64 0, .string ⟨#[]⟩]
  have hb : Below w.heap.size w ((w.alloc (.cells #[.int .i64 a, .int .i64 n, .string s] 53)).alloc (.cells #[.int .i64 0, .int .i64 0, .string ⟨#[]⟩] 53)) := ((Below.refl _ _).alloc (Nat.le_refl _) _).alloc (by simp) _
  simp only [World.size_alloc] at K R
  replace K : Blk ((w.alloc (.cells #[.int .i64 a, .int .i64 n, .string s] 53)).alloc (.cells #[.int .i64 0, .int .i64 0, .string ⟨#[]⟩] 53)) w.heap.size 53 [.int .i64 a, .int .i64 n, .string s] := K
  replace R : Blk ((w.alloc (.cells #[.int .i64 a, .int .i64 n, .string s] 53)).alloc (.cells #[.int .i64 0, .int .i64 0, .string ⟨#[]⟩] 53)) (w.heap.size + 1) 53 [.int .i64 0, .int .i64 0, .string ⟨#[]⟩] := R
  have CL := Lib.hid (fun W => clone_any s W hs)
  go_enter Try.func67, Try.ntmps67
  go_wp2_with (fail)
  generalize (w.alloc (.cells #[.int .i64 a, .int .i64 n, .string s] 53)).alloc (.cells #[.int .i64 0, .int .i64 0, .string ⟨#[]⟩] 53) = v0 at K R hb ⊢
  have x0 : v0.drew.cell? ⟨w.heap.size, 0, none⟩ = some (.int .i64 a) := K.drew.cell (i := 0) rfl
  have x1 : v0.drew.cell? ⟨w.heap.size, 1, none⟩ = some (.int .i64 n) := K.drew.cell (i := 1) rfl
  have x2 : v0.drew.cell? ⟨w.heap.size, 2, none⟩ = some (.string s) := K.drew.cell (i := 2) rfl
  have R' := R.drew
  have n0 : w.heap.size ≠ w.heap.size + 1 := by omega
  go_region_held3 (fun W => W.cell? ⟨w.heap.size, 0, none⟩ = some (.int .i64 a) ∧ W.cell? ⟨w.heap.size, 1, none⟩ = some (.int .i64 n) ∧ W.cell? ⟨w.heap.size, 2, none⟩ = some (.string s))
    (first
      | with_reducible exact ⟨x0, x1, x2⟩
      | with_reducible exact ⟨kept_cell hb1 x0, kept_cell hb1 x1, kept_cell hb1 x2⟩
      | with_reducible exact ⟨far3 n0 (kept_cell hb1 x0), far3 n0 (kept_cell hb1 x1), far3 n0 (kept_cell hb1 x2)⟩)
    (first
      | (go_at_call 90; (with_reducible refine (CL.out _).mono ?_); rintro e w1 ⟨rfl, hb1⟩; have R1 := R'.below hb1 R'.lt; have o0 := R1.cell (i := 0) rfl; have o1 := R1.cell (i := 1) rfl; have o2 := R1.cell (i := 2) rfl; have p0 := R1.froz 0; have p1 := R1.froz 1; have p2 := R1.froz 2))
  rename_i hHeld
  clear hHeld
  have q1 := ((R1.put 0 (.int .i64 a)).put 1 (.int .i64 n)).put 2 (.string s)
  have q2 := (((hb.trans (((below_drew (Below.refl _ v0)).trans hb1).mono hb.size)).setCell (p := ⟨w.heap.size + 1, 0, none⟩) (by simp) (.int .i64 a)).setCell (p := ⟨w.heap.size + 1, 1, none⟩) (by simp) (.int .i64 n)).setCell (p := ⟨w.heap.size + 1, 2, none⟩) (by simp) (.string s)
  simp only [List.set_cons_succ, List.set_cons_zero] at q1
  clear x0 x1 x2 R' K R o0 o1 o2 p0 p1 p2
  generalize (((w1.setCell ⟨w.heap.size + 1, 0, none⟩ (.int .i64 a)).setCell ⟨w.heap.size + 1, 1, none⟩ (.int .i64 n)).setCell ⟨w.heap.size + 1, 2, none⟩ (.string s)) = w9 at q1 q2 ⊢
  have x0 := q1.cell (i := 0) rfl
  have x1 := q1.cell (i := 1) rfl
  have x2 := q1.cell (i := 2) rfl
  go_wp2
  exact bodyPost_ret (v := .agg #[.int .i64 a, .int .i64 n, .string s]) (by simp [results, Try.results67, go_sem, x0, x1, x2]) rfl ⟨rfl, q2⟩

theorem l08Reply_none (T : Value) (h1 : T.oneCell' = true) (R : List Rep) (B : Option Addr) (d : Nat) (c : Int) (w : World) (hB : Rps w w.heap.size B R) (h : ∀ i (hi : i < R.length), R[i].client ≠ c) :
    Calls Try.prog 65 #[broV T (.slice B R.length d), .int .i64 c] w fun e w' => e = .returned (.int .i64 (-1)) ∧ Below w.heap.size w w' := by
  have hn := hB.1
  unfold maxLen at hn
  have hK := Blk.fresh w 48 [T, .slice B R.length d]
  have hb0 := below_box w (.cells #[T, .slice B R.length d] 48)
  simp only [List.toArray] at hK
  have HN := Lib.hid h
  clear h
  go_enter Try.func65, Try.ntmps65
  go_wp2
  generalize w.alloc (.cells #[T, .slice B R.length d] 48) = w1 at hK hb0 ⊢
  go_loop [5] (fun i => ∃ k : Nat, k ≤ R.length ∧ i = .int .i64 k) (fun i => R.length - (intOf i).toNat)
  case atStart => exact ⟨0, by omega, rfl⟩
  case round =>
    obtain ⟨k, hk, rfl⟩ := hrel
    have c1 := hK.cell (i := 1) rfl
    by_cases hlt : k < R.length
    · obtain ⟨a, rfl, hab, e0, e1, e2⟩ := (hB.on hb0).at k hlt
      have hlt' : (k : Int) < (R.length : Int) := by omega
      have hd : (R[k].client == c) = false := by rw [beq_eq_false_iff_ne]; exact HN.out k hlt
      go_wp2
      exact ⟨⟨k + 1, by omega, by go_num⟩, by simp [intOf]; omega⟩
    · obtain rfl : k = R.length := by omega
      go_wp2
      go_ret
      exact ⟨rfl, hb0⟩
theorem l08Reply_at (T : Value) (h1 : T.oneCell' = true) (R : List Rep) (B : Option Addr) (d : Nat) (c : Int) (p : Nat) (w : World) (hB : Rps w w.heap.size B R) (hp : p < R.length) (he : R[p].client = c) (h : ∀ i (hi : i < p), (R[i]'(by omega)).client ≠ c) :
    Calls Try.prog 65 #[broV T (.slice B R.length d), .int .i64 c] w fun e w' => e = .returned (.int .i64 p) ∧ Below w.heap.size w w' := by
  have hn := hB.1
  unfold maxLen at hn
  have hK := Blk.fresh w 48 [T, .slice B R.length d]
  have hb0 := below_box w (.cells #[T, .slice B R.length d] 48)
  simp only [List.toArray] at hK
  have HN := Lib.hid h
  have HE := Lib.hid he
  clear h he
  go_enter Try.func65, Try.ntmps65
  go_wp2
  generalize w.alloc (.cells #[T, .slice B R.length d] 48) = w1 at hK hb0 ⊢
  go_loop [5] (fun i => ∃ k : Nat, k ≤ p ∧ i = .int .i64 k) (fun i => R.length - (intOf i).toNat)
  case atStart => exact ⟨0, by omega, rfl⟩
  case round =>
    obtain ⟨k, hk, rfl⟩ := hrel
    have c1 := hK.cell (i := 1) rfl
    have hlt : k < R.length := by omega
    obtain ⟨a, rfl, hab, e0, e1, e2⟩ := (hB.on hb0).at k hlt
    have hlt' : (k : Int) < (R.length : Int) := by omega
    by_cases hkp : k = p
    · subst hkp
      have hd : (R[k].client == c) = true := by rw [HE.out]; simp
      clear HN HE
      go_wp2
      go_ret
      exact ⟨rfl, hb0⟩
    · have hd : (R[k].client == c) = false := by rw [beq_eq_false_iff_ne]; exact HN.out k (by omega)
      go_wp2
      exact ⟨⟨k + 1, by omega, by go_num⟩, by simp [intOf]; omega⟩
/-- The first of a kind. -/
theorem first_of {α : Type} (L : List α) (P : α → Prop) (h : ¬ ∀ i (hi : i < L.length), ¬ P L[i]) : ∃ p, ∃ hp : p < L.length, P L[p] ∧ ∀ i (hi : i < p), ¬ P (L[i]'(by omega)) := by
  classical
  have h1 : ∃ i, ∃ hi : i < L.length, P L[i] := by
    refine Classical.byContradiction fun hno => h fun i hi hp => hno ⟨i, hi, hp⟩
  obtain ⟨i, hi, hp⟩ := h1
  induction i using Nat.strongRecOn with
  | _ i ih =>
    by_cases hm : ∃ j, ∃ hj : j < i, P (L[j]'(by omega))
    · obtain ⟨j, hj, hpj⟩ := hm
      exact ih j hj (by omega) hpj
    · exact ⟨i, hi, hp, fun j hj hpj => hm ⟨j, hj, hpj⟩⟩
set_option maxHeartbeats 4000000 in
theorem specBrokerReply_any (b : Bro) (s : Int) (A : Option Addr) (c : Nat) (B : Option Addr) (d : Nat) (w : World) (hf : b.fits) (hA : Tops w w.heap.size A b.topics) (hB : Rps w w.heap.size B b.replies) :
    Calls Try.prog 28 #[broV (.slice A b.topics.length c) (.slice B b.replies.length d), .int .i64 s] w fun e w' => e = .returned (repOf b s).val ∧ Below w.heap.size w w' := by
  have BR := Lib.hid (fun W (h : Below w.heap.size w W) => specBrokerRight_any b A c B d W hf (hA.on h) (hB.on h))
  have F0 : Hid (broB b = false → repOf b s = zeroRep) := Lib.hid rep_bad
  have F1 : Hid (isR b.replies s = false → repOf b s = zeroRep) := Lib.hid rep_none
  have F2 : Hid (∀ k (h : broB b = true) (hk : k < b.replies.length), b.replies[k].client = s → repOf b s = b.replies[k]) := Lib.hid fun k h hk e => rep_at h hk e
  have HN := Lib.hid (isR_none (G := b.replies) (s := s))
  have HB := Lib.hid (fun W (h : Below w.heap.size w W) => hB.on h)
  obtain ⟨T, R⟩ := b
  simp only at BR F0 F1 F2 HN HB hA hB ⊢
  obtain ⟨r, HR⟩ : ∃ r, Hid (repOf ⟨T, R⟩ s = r) := ⟨_, Lib.hid rfl⟩
  rw [HR.out] at F0 F1 F2 ⊢
  have K := (Blk.fresh w 48 [.slice A T.length c, .slice B R.length d]).alloc (.cells #[.int .i64 0, .int .i64 0, .string ⟨#[]⟩] 53)
  have Z := Blk.fresh (w.alloc (.cells #[.slice A T.length c, .slice B R.length d] 48)) 53 [.int .i64 0, .int .i64 0, .string ⟨#[]⟩]
  have hb : Below w.heap.size w ((w.alloc (.cells #[.slice A T.length c, .slice B R.length d] 48)).alloc (.cells #[.int .i64 0, .int .i64 0, .string ⟨#[]⟩] 53)) := ((Below.refl _ _).alloc (Nat.le_refl _) _).alloc (by simp) _
  simp only [World.size_alloc] at K Z
  replace K : Blk ((w.alloc (.cells #[.slice A T.length c, .slice B R.length d] 48)).alloc (.cells #[.int .i64 0, .int .i64 0, .string ⟨#[]⟩] 53)) w.heap.size 48 [.slice A T.length c, .slice B R.length d] := K
  replace Z : Blk ((w.alloc (.cells #[.slice A T.length c, .slice B R.length d] 48)).alloc (.cells #[.int .i64 0, .int .i64 0, .string ⟨#[]⟩] 53)) (w.heap.size + 1) 53 [.int .i64 0, .int .i64 0, .string ⟨#[]⟩] := Z
  by_cases hno : ∀ i (hi : i < R.length), R[i].client ≠ s
  · have H0 := Lib.hid (F1.out (HN.out hno))
    have LR := Lib.hid (fun W (h : Below w.heap.size w W) => l08Reply_none (.slice A T.length c) rfl R B d s W (hB.on h) hno)
    clear hno
    have k0 := K.cell (i := 0) rfl
    have k1 := K.cell (i := 1) rfl
    go_enter Try.func28, Try.ntmps28
    go_wp2_with (fail)
    clear k0 k1
    generalize (w.alloc (.cells #[.slice A T.length c, .slice B R.length d] 48)).alloc (.cells #[.int .i64 0, .int .i64 0, .string ⟨#[]⟩] 53) = v0 at K Z hb ⊢
    refine (LR.out _ hb).mono ?_
    rintro e w1 ⟨rfl, hb1⟩
    have hw1 := hb.trans (hb1.mono hb.size)
    have Z1 := Z.below hb1 Z.lt
    have z0 := Z1.cell (i := 0) rfl
    have z1 := Z1.cell (i := 1) rfl
    have z2 := Z1.cell (i := 2) rfl
    have y0 := Z1.froz 0
    have y1 := Z1.froz 1
    have y2 := Z1.froz 2
    go_wp2
    have q1 := ((Z1.put 0 (.int .i64 0)).put 1 (.int .i64 0)).put 2 (.string ⟨#[]⟩)
    have q2 := ((hw1.setCell (p := ⟨w.heap.size + 1, 0, none⟩) (by simp) (.int .i64 0)).setCell (p := ⟨w.heap.size + 1, 1, none⟩) (by simp) (.int .i64 0)).setCell (p := ⟨w.heap.size + 1, 2, none⟩) (by simp) (.string ⟨#[]⟩)
    simp only [List.set_cons_succ, List.set_cons_zero] at q1
    generalize (((w1.setCell ⟨w.heap.size + 1, 0, none⟩ (.int .i64 0)).setCell ⟨w.heap.size + 1, 1, none⟩ (.int .i64 0)).setCell ⟨w.heap.size + 1, 2, none⟩ (.string ⟨#[]⟩)) = w9 at q1 q2 ⊢
    have x0 := q1.cell (i := 0) rfl
    have x1 := q1.cell (i := 1) rfl
    have x2 := q1.cell (i := 2) rfl
    exact bodyPost_ret (v := .agg #[.int .i64 0, .int .i64 0, .string ⟨#[]⟩]) (by simp [results, Try.results28, go_sem, x0, x1, x2]) rfl ⟨by rw [H0.out]; rfl, q2⟩
  obtain ⟨p, hp, hpe, hpm⟩ := first_of R (fun r => r.client = s) hno
  have LR := Lib.hid (fun W (h : Below w.heap.size w W) => l08Reply_at (.slice A T.length c) rfl R B d s p W (hB.on h) hp hpe hpm)
  rcases Bool.eq_false_or_eq_true (broB ⟨T, R⟩) with hT | hT
  rotate_left
  · have H0 := Lib.hid (F0.out hT)
    rw [hT] at BR
    clear hno hpe hpm
    have hp0 : ((p : Int) < 0) = False := by simp
    have k0 := K.cell (i := 0) rfl
    have k1 := K.cell (i := 1) rfl
    go_enter Try.func28, Try.ntmps28
    go_wp2_with (fail)
    clear k0 k1
    generalize (w.alloc (.cells #[.slice A T.length c, .slice B R.length d] 48)).alloc (.cells #[.int .i64 0, .int .i64 0, .string ⟨#[]⟩] 53) = v0 at K Z hb ⊢
    refine (LR.out _ hb).mono ?_
    rintro e w1 ⟨rfl, hb1⟩
    have hw1 := hb.trans (hb1.mono hb.size)
    have K1 := K.below hb1 K.lt
    have Z1 := Z.below hb1 Z.lt
    have k0 := K1.cell (i := 0) rfl
    have k1 := K1.cell (i := 1) rfl
    go_wp2_with (fail)
    refine (BR.out _ hw1).mono ?_
    rintro e w2 ⟨rfl, hb2⟩
    have hw2 := hw1.trans (hb2.mono hw1.size)
    have Z2 := Z1.below hb2 Z1.lt
    clear k0 k1
    have z0 := Z2.cell (i := 0) rfl
    have z1 := Z2.cell (i := 1) rfl
    have z2 := Z2.cell (i := 2) rfl
    have y0 := Z2.froz 0
    have y1 := Z2.froz 1
    have y2 := Z2.froz 2
    go_wp2
    have q1 := ((Z2.put 0 (.int .i64 0)).put 1 (.int .i64 0)).put 2 (.string ⟨#[]⟩)
    have q2 := ((hw2.setCell (p := ⟨w.heap.size + 1, 0, none⟩) (by simp) (.int .i64 0)).setCell (p := ⟨w.heap.size + 1, 1, none⟩) (by simp) (.int .i64 0)).setCell (p := ⟨w.heap.size + 1, 2, none⟩) (by simp) (.string ⟨#[]⟩)
    simp only [List.set_cons_succ, List.set_cons_zero] at q1
    generalize (((w2.setCell ⟨w.heap.size + 1, 0, none⟩ (.int .i64 0)).setCell ⟨w.heap.size + 1, 1, none⟩ (.int .i64 0)).setCell ⟨w.heap.size + 1, 2, none⟩ (.string ⟨#[]⟩)) = w9 at q1 q2 ⊢
    have x0 := q1.cell (i := 0) rfl
    have x1 := q1.cell (i := 1) rfl
    have x2 := q1.cell (i := 2) rfl
    exact bodyPost_ret (v := .agg #[.int .i64 0, .int .i64 0, .string ⟨#[]⟩]) (by simp [results, Try.results28, go_sem, x0, x1, x2]) rfl ⟨by rw [H0.out]; rfl, q2⟩
  have H0 := Lib.hid (F2.out p hT hp hpe)
  rw [hT] at BR
  clear hno hpe hpm
  have k0 := K.cell (i := 0) rfl
  have k1 := K.cell (i := 1) rfl
  go_enter Try.func28, Try.ntmps28
  go_wp2_with (fail)
  clear k0 k1
  generalize (w.alloc (.cells #[.slice A T.length c, .slice B R.length d] 48)).alloc (.cells #[.int .i64 0, .int .i64 0, .string ⟨#[]⟩] 53) = v0 at K Z hb ⊢
  refine (LR.out _ hb).mono ?_
  rintro e w1 ⟨rfl, hb1⟩
  have hw1 := hb.trans (hb1.mono hb.size)
  have K1 := K.below hb1 K.lt
  have Z1 := Z.below hb1 Z.lt
  have k0 := K1.cell (i := 0) rfl
  have k1 := K1.cell (i := 1) rfl
  go_wp2_with (fail)
  refine (BR.out _ hw1).mono ?_
  rintro e w2 ⟨rfl, hb2⟩
  have hw2 := hw1.trans (hb2.mono hw1.size)
  have K2 := K1.below hb2 K1.lt
  have Z2 := Z1.below hb2 Z1.lt
  clear k0 k1
  have k1 := K2.cell (i := 1) rfl
  have z0 := Z2.cell (i := 0) rfl
  have z1 := Z2.cell (i := 1) rfl
  have z2 := Z2.cell (i := 2) rfl
  have y0 := Z2.froz 0
  have y1 := Z2.froz 1
  have y2 := Z2.froz 2
  obtain ⟨a, rfl, hab, e0, e1, e2⟩ := (HB.out _ hw2).at p hp
  have hp' : (p : Int) < (R.length : Int) := by omega
  go_wp2
  have q1 := ((Z2.put 0 (.int .i64 R[p].client)).put 1 (.int .i64 R[p].number)).put 2 (.string R[p].text)
  have q2 := ((hw2.setCell (p := ⟨w.heap.size + 1, 0, none⟩) (by simp) (.int .i64 R[p].client)).setCell (p := ⟨w.heap.size + 1, 1, none⟩) (by simp) (.int .i64 R[p].number)).setCell (p := ⟨w.heap.size + 1, 2, none⟩) (by simp) (.string R[p].text)
  simp only [List.set_cons_succ, List.set_cons_zero] at q1
  generalize (((w2.setCell ⟨w.heap.size + 1, 0, none⟩ (.int .i64 R[p].client)).setCell ⟨w.heap.size + 1, 1, none⟩ (.int .i64 R[p].number)).setCell ⟨w.heap.size + 1, 2, none⟩ (.string R[p].text)) = w9 at q1 q2 ⊢
  have x0 := q1.cell (i := 0) rfl
  have x1 := q1.cell (i := 1) rfl
  have x2 := q1.cell (i := 2) rfl
  exact bodyPost_ret (v := .agg #[.int .i64 R[p].client, .int .i64 R[p].number, .string R[p].text]) (by simp [results, Try.results28, go_sem, x0, x1, x2]) rfl ⟨by rw [H0.out]; rfl, q2⟩
end Go.Proofs.Ytkimieeabmjfgaa

namespace Go.Proofs.Ytkimieeabmjfgaa
open Go.RowKit
set_option linter.unusedVariables false
set_option maxRecDepth 1000000

/-- What is known of the capacity of a slice. -/
structure Cap (A : Option Addr) (n c : Nat) : Prop where
  nil : A = none → c = 0
  le : n ≤ c
  max : c ≤ maxLen
theorem Cap.own {w : World} {lo n m c size : Nat} {e : TypeId} {A : Option Addr} {xs : List Value} (h : w.ownsRow lo e size (.slice A n c) m xs) : Cap A m c := by
  rcases h.2 with ⟨he, h0⟩ | ⟨g, cap, cur, he, hb, hg, hl, hm, _⟩
  · cases he; exact ⟨fun _ => rfl, by omega, by simp [maxLen]⟩
  · cases he; exact ⟨(fun e => by cases e), hl, hm⟩
theorem grown_same (w : World) (r : Option Nat) : w.grownBy w r := ⟨rfl, rfl, rfl, Nat.le_refl _, fun _ _ _ => rfl⟩
theorem strs_news {w : World} {B : Nat} {a : Addr} {L : List ByteArray} (h : Strs w B (some a) L) : ∀ j u, (L.map Value.string)[j]? = some u → w.cell? (a.add j) = some u := by
  intro j u hj
  have hjl : j < L.length := by have := (List.getElem?_eq_some_iff.1 hj).1; simpa using this
  obtain ⟨a', e, _, c0⟩ := h.2 j hjl
  cases e
  rw [c0, ← hj]
  simp [hjl]
theorem grs_news {w : World} {B : Nat} {a : Addr} {L : List Grp} (h : Grs w B (some a) L) : ∀ j u, (gflat L)[j]? = some u → w.cell? (a.add j) = some u := by
  intro j u hj
  have hjl : j < L.length * 2 := by rw [← gflat_len]; exact (List.getElem?_eq_some_iff.1 hj).1
  have hi : j / 2 < L.length := by omega
  have hg := gflat_get L (j / 2) hi (j % 2) (by omega)
  rw [show j / 2 * 2 + j % 2 = j by omega, hj] at hg
  obtain ⟨a', e, _, c0, c1⟩ := h.2 (j / 2) hi
  cases e
  have : j % 2 = 0 ∨ j % 2 = 1 := by omega
  rcases this with e | e
  · rw [e] at hg
    rw [show j = j / 2 * 2 by omega, c0]
    exact hg.symm
  · rw [e] at hg
    rw [show j = j / 2 * 2 + 1 by omega, c1]
    exact hg.symm
theorem strs_none {w : World} {B : Nat} {L : List ByteArray} (h : Strs w B none L) : L = [] := by
  cases L with
  | nil => rfl
  | cons f L => obtain ⟨a, e, _⟩ := h.2 0 (by simp); cases e
theorem grs_none {w : World} {B : Nat} {L : List Grp} (h : Grs w B none L) : L = [] := by
  cases L with
  | nil => rfl
  | cons f L => obtain ⟨a, e, _⟩ := h.2 0 (by simp); cases e
theorem wpList_app_str {ops : Array Oper} {rest : List Oper} {o : Oper} {a : Act} {w : World} {Q : Exit → Act → World → Prop} (hgd : o.guard = none) (s x : Operand)
    (ho : o.op = .call { callee := .builtin .append, args := #[s, x], argTypes := #[22, 22] })
    (base : Nat) (v : Value) (L : List ByteArray) (hs : a.eval s = v) (hown : OwnS w base v L) (B : Nat) (A : Option Addr) (M : List ByteArray) (c : Nat) (hx : a.eval x = .slice A M.length c) (hc : A = none → c = 0) (hM : Strs w B A M)
    (hlen : L.length + M.length ≤ 1000000) (hbase : base ≤ w.heap.size)
    (h : ∀ A' c' w', OwnS w' base (.slice A' (L ++ M).length c') (L ++ M) → w.grownBy w' v.ownBlock → wpList Try.prog ops Q rest (a.put o.dst (.slice A' (L ++ M).length c')) w') : wpList Try.prog ops Q (o :: rest) a w := by
  obtain ⟨i0, hi, hz0, hz1, hz2⟩ := info_parts infoStr
  have key : ∀ v' w', OwnS w' base v' (L ++ M) → w.grownBy w' v.ownBlock → wpList Try.prog ops Q rest (a.put o.dst v') w' := by
    intro v' w' h1 h2
    obtain ⟨A', c', rfl⟩ := ownS_some h1
    exact h A' c' w' h1 h2
  cases A with
  | none =>
    have hz := strs_none hM
    subst hz
    obtain rfl := hc rfl
    unfold OwnS at hown
    refine wpList_append_own_none hgd s x 22 ho base 9 i0 1 Try.underlying22 hi v _ _ hs hown (by rw [hx]; rfl) (key v w ?_ (grown_same _ _))
    rw [List.append_nil]; exact hown
  | some ad =>
    refine wpList_append_own w hgd s x 22 ho base 9 i0 (.string ⟨#[]⟩) 1 16 Try.underlying22 hi hz0 hz1 hz2 rfl (by decide) v _ _ hs hown ad M.length c (M.map Value.string) hx (by simp) (strs_news hM) (by intro u hu; obtain ⟨t, _, rfl⟩ := List.mem_map.1 hu; rfl) (by unfold maxLen; omega) (by omega) hbase ?_
    intro v' w' h1 h2 _
    refine key v' w' ?_ h2
    unfold OwnS
    rw [List.length_append, List.map_append]
    exact h1
theorem wpList_app_grp {ops : Array Oper} {rest : List Oper} {o : Oper} {a : Act} {w : World} {Q : Exit → Act → World → Prop} (hgd : o.guard = none) (s x : Operand)
    (ho : o.op = .call { callee := .builtin .append, args := #[s, x], argTypes := #[27, 27] })
    (base : Nat) (v : Value) (L : List Grp) (hs : a.eval s = v) (hown : OwnG w base v L) (B : Nat) (A : Option Addr) (M : List Grp) (c : Nat) (hx : a.eval x = .slice A M.length c) (hc : A = none → c = 0) (hM : Grs w B A M)
    (hlen : L.length + M.length ≤ 1000000) (hbase : base ≤ w.heap.size)
    (h : ∀ A' c' w', OwnG w' base (.slice A' (L ++ M).length c') (L ++ M) → w.grownBy w' v.ownBlock → wpList Try.prog ops Q rest (a.put o.dst (.slice A' (L ++ M).length c')) w') : wpList Try.prog ops Q (o :: rest) a w := by
  obtain ⟨i0, hi, hz0, hz1, hz2⟩ := info_parts infoGrp
  have key : ∀ v' w', OwnG w' base v' (L ++ M) → w.grownBy w' v.ownBlock → wpList Try.prog ops Q rest (a.put o.dst v') w' := by
    intro v' w' h1 h2
    obtain ⟨A', c', rfl, _⟩ := h1.slice
    exact h A' c' w' h1 h2
  cases A with
  | none =>
    have hz := grs_none hM
    subst hz
    obtain rfl := hc rfl
    unfold OwnG at hown
    refine wpList_append_own_none hgd s x 27 ho base 68 i0 2 Try.underlying27 hi v _ _ hs hown (by rw [hx]; rfl) (key v w ?_ (grown_same _ _))
    rw [List.append_nil]; exact hown
  | some ad =>
    refine wpList_append_own w hgd s x 27 ho base 68 i0 (.agg #[.string ⟨#[]⟩, .int .i64 0]) 2 24 Try.underlying27 hi hz0 hz1 hz2 rfl (by decide) v _ _ hs hown ad M.length c (gflat M) hx (gflat_len M) (grs_news hM) (gflat_one M) (by unfold maxLen; omega) (by omega) hbase ?_
    intro v' w' h1 h2 _
    refine key v' w' ?_ h2
    unfold OwnG
    rw [List.length_append, gflat_append]
    exact h1
theorem strs_one (w : World) (s : ByteArray) (t : TypeId) : Strs (w.alloc (.cells #[.string s] t)) (w.heap.size + 1) (some ⟨w.heap.size, 0, none⟩) [s] := by
  refine ⟨by simp [maxLen], fun i hi => ⟨_, rfl, by simp, ?_⟩⟩
  exact one_cell w (.string s) t i _ (by simp at hi; subst hi; rfl)
theorem grs_one (w : World) (g : Grp) (t : TypeId) : Grs (w.alloc (.cells #[.string g.name, .int .i64 g.acked] t)) (w.heap.size + 1) (some ⟨w.heap.size, 0, none⟩) [g] := by
  have h := Blk.fresh w t [.string g.name, .int .i64 g.acked]
  refine ⟨by simp [maxLen], fun i hi => ⟨_, rfl, by simp, ?_, ?_⟩⟩
  · obtain rfl : i = 0 := by simp at hi; omega
    rw [add_none]; exact h.cell (i := 0) rfl
  · obtain rfl : i = 0 := by simp at hi; omega
    rw [add_none]; exact h.cell (i := 1) rfl
/-- Rows of different kinds lie in different blocks. -/
theorem own_apart {w : World} {b b' s s' n m : Nat} {t t' : TypeId} {u v : Value} {xs ys : List Value} (h : w.ownsRow b t s u n xs) (h2 : w.ownsRow b' t' s' v m ys) (ht : t ≠ t') : u.ownBlock = none ∨ u.ownBlock ≠ v.ownBlock := by
  rcases h.2 with ⟨he, _⟩ | ⟨g, cap, cur, he, _, hg, _⟩
  · rw [he]; exact .inl rfl
  · refine .inr fun e => ?_
    rw [he] at e
    rcases h2.2 with ⟨he2, _⟩ | ⟨g2, cap2, cur2, he2, _, hg2, _⟩
    · rw [he2] at e; cases e
    · rw [he2] at e
      cases e
      rw [hg] at hg2
      injection hg2 with hg2
      injection hg2 with _ h4 _
      exact ht h4
theorem own_not {w : World} {b s n g : Nat} {t t' : TypeId} {v : Value} {xs cs : List Value} (h : w.ownsRow b t s v n xs) (hB : Blk w g t' cs) (ht : t ≠ t') : v.ownBlock ≠ some g := by
  intro e
  rcases h.2 with ⟨he, _⟩ | ⟨k, cap, cur, he, _, hg, _⟩
  · rw [he] at e; cases e
  · rw [he] at e
    cases e
    unfold Blk at hB
    rw [hg] at hB
    injection hB with hB
    injection hB with _ h4 _
    exact ht h4
theorem own_empty (w : World) (t : TypeId) (s : Nat) (hs : 0 < s) : (w.alloc (.cells #[] t)).ownsRow w.heap.size t s (.slice (some ⟨w.heap.size, 0, none⟩) 0 0) 0 [] :=
  ⟨by simp, .inr ⟨w.heap.size, 0, #[], rfl, Nat.le_refl _, by have := heap_alloc_new w (.cells #[] t); simpa using this, Nat.le_refl _, by simp [maxLen], by simp, by simp⟩⟩
/-- A world that grew at one row of the call's own is still as it was below. -/
theorem below_row {B : Nat} {w w' w2 : World} {row : Option Nat} (hb : Below B w w') (hB : B ≤ w.heap.size) (hg : w'.grownBy w2 row) (hr : ∀ k, row = some k → B ≤ k) : Below B w w2 := hb.grown hg (Nat.le_trans hB hb.size) hr
end Go.Proofs.Ytkimieeabmjfgaa
