/- The contract of impl.groupPlace: a search by halves. The size that the exact laws reckon of a topic. The contracts of TopicLag. What a call leaves that writes only into blocks from lo up to hi. -/
import Derived.Test.YtjmmffhndecikaaTpPosW
import Derived.Test.YtjmmffhndecikaaShelf
import Derived.Test.YtjmmffhndecikaaCmW
import Derived.Test.YtjmmffhndecikaaQTailW
import Derived.Test.YtjmmffhndecikaaRwkW
namespace Go.Proofs.Ytjmmffhndecikaa
open Go.RowKit
set_option linter.unusedVariables false
set_option maxRecDepth 1000000
theorem compare_any (a b : ByteArray) (w : World) : Calls Try.prog 104 #[.string a, .string b] w fun e w' => e = .returned (.int .i64 (cmpG a b)) ∧ w' = w := Try.strings_Compare a b w
theorem place1_any (g : Grp) (s : ByteArray) (w : World) : Calls Try.prog 103 #[.agg #[.string g.name, .int .i64 g.acked], .string s] w fun e w' => e = .returned (.int .i64 (cmpG g.name s)) ∧ Below w.heap.size w w' := by
  have hK := Blk.fresh w 47 [.string g.name, .int .i64 g.acked]
  have hb := below_box w (.cells #[.string g.name, .int .i64 g.acked] 47)
  have c0 := hK.cell (i := 0) rfl
  simp only [List.toArray] at c0
  go_enter Try.func103, Try.ntmps103
  go_wp2_with (go_at_call 104; refine (compare_any _ _ _).mono ?_; rintro e w' ⟨rfl, rfl⟩)
  go_ret
  exact ⟨rfl, hb⟩
/-- What a search answers. -/
def Plc (w : World) (k : Nat) (r : Bool) (e : Ending) (w' : World) : Prop := e = .returned (.tuple #[.int .i64 k, .bool r]) ∧ Below w.heap.size w w'
set_option maxHeartbeats 4000000 in
theorem bsearch_any (B : Option Addr) (G : List Grp) (d : Nat) (s : ByteArray) (w : World) (hB : Grs w w.heap.size B G) (hr : RisingG G) (hG : G.length ≤ 100000) :
    Calls Try.prog 102 #[.slice B G.length d, .string s, .func (.func 103) #[] #[]] w (Plc w (posG G s) (isG G s)) := by
  have HB := Lib.hid (fun W (h : Below w.heap.size w W) => hB.on h)
  have HP := Lib.hid (fun i (h : i < G.length) => posG_iff (s := s) hr h)
  have hle := posG_le G s
  obtain ⟨p, HPp⟩ : ∃ p, Hid (posG G s = p) := ⟨_, Lib.hid rfl⟩
  rw [HPp.out] at hle HP ⊢
  obtain ⟨r, HR⟩ : ∃ r, Hid (isG G s = r) := ⟨_, Lib.hid rfl⟩
  rw [HR.out]
  go_enter Try.func102, Try.ntmps102
  go_wp2
  go_loopw [9, 10, 11] (fun i j _ wr => ∃ k m : Nat, k ≤ p ∧ p ≤ m ∧ m ≤ G.length ∧ i = .int .i64 k ∧ j = .int .i64 m ∧ Below w.heap.size w wr) (fun i j _ _ => (intOf j).toNat - (intOf i).toNat)
  case atStart => exact ⟨0, G.length, by omega, hle, by omega, rfl, rfl, Below.refl _ _⟩
  case round =>
    obtain ⟨k, m, h1, h2, h3, rfl, rfl, hb⟩ := hrel
    by_cases hlt : k < m
    · have hlt' : (k : Int) < (m : Int) := by omega
      have hq : (k + m) / 2 < G.length := by omega
      have hs1 : ((k : Int) + (m : Int)) / 2 = (((k + m) / 2 : Nat) : Int) := by omega
      obtain ⟨q, HQ⟩ : ∃ q, Hid ((k + m) / 2 = q) := ⟨_, Lib.hid rfl⟩
      rw [HQ.out] at hq
      obtain ⟨a, rfl, hab, c0, c1⟩ := (HB.out _ hb).at q hq
      have hq' : (q : Int) < (G.length : Int) := by omega
      have hsh : Op.shift .shr .u64 ((k : Int) + (m : Int)) .u64 1 = pure (.int .u64 (q : Int)) := by
        rw [shift_shr .u64 .u64 _ 1 (by decide) (by decide)]
        have e : ((k : Int) + (m : Int)) / 2 ^ (1 : Int).toNat = (q : Int) := by have := HQ.out; show ((k : Int) + (m : Int)) / 2 = _; omega
        rw [e]
      clear hs1
      have hm2 : q < m ∧ k ≤ q := by have := HQ.out; omega
      have hq2 : (q : Int) + 1 ≤ 100000 := by omega
      by_cases hl : lessB G[q].name s = true
      · have hz : cmpG G[q].name s < 0 := (cmpG_neg _ _).2 hl
        have hp1 : q < p := (HP.out q hq).1 hl
        have hd : decide (cmpG G[q].name s < 0) = true := by simpa using hz
        clear hl
        go_wp2_with (go_at_call 103; (with_reducible refine (place1_any G[q] s _).mono ?_); rintro e w1 ⟨rfl, hb1⟩)
        refine ⟨⟨q + 1, m, by omega, h2, h3, by go_num, rfl, hb.trans (hb1.mono hb.size)⟩, by simp [intOf]; omega⟩
      · have hz : ¬ cmpG G[q].name s < 0 := fun h => hl ((cmpG_neg _ _).1 h)
        have hp1 : ¬ q < p := fun h => hl ((HP.out q hq).2 h)
        have hd : decide (cmpG G[q].name s < 0) = false := by simpa using hz
        clear hl
        go_wp2_with (go_at_call 103; (with_reducible refine (place1_any G[q] s _).mono ?_); rintro e w1 ⟨rfl, hb1⟩)
        refine ⟨⟨k, q, h1, by omega, by omega, rfl, rfl, hb.trans (hb1.mono hb.size)⟩, by simp [intOf]; omega⟩
    · obtain rfl : k = m := by omega
      obtain rfl : k = p := by omega
      by_cases hp : k < G.length
      · have hp' : (k : Int) < (G.length : Int) := by omega
        have hd : decide ((k : Int) < (G.length : Int)) = true := by simpa using hp
        obtain ⟨a, rfl, hab, c0, c1⟩ := (HB.out _ hb).at k hp
        by_cases hn : G[k].name = s
        · have hz : (cmpG G[k].name s == 0) = true := by rw [(cmpG_zero _ _).2 hn]; rfl
          have hr : r = true := by rw [← HR.out]; exact isG_iff.2 ⟨by rw [HPp.out]; exact hp, by simp only [HPp.out]; exact hn⟩
          have HR2 := Lib.hid hr
          clear hr hn HR HPp
          go_wp2_with (go_at_call 103; (with_reducible refine (place1_any G[k] s _).mono ?_); rintro e w1 ⟨rfl, hb1⟩)
          exact bodyPost_ret (v := .tuple #[.int .i64 k, .bool true]) (by simp [results, Try.results102, go_sem]) rfl ⟨by rw [HR2.out], hb.trans (hb1.mono hb.size)⟩
        · have hz : (cmpG G[k].name s == 0) = false := by rw [beq_eq_false_iff_ne]; exact fun h => hn ((cmpG_zero _ _).1 h)
          have hr : r = false := by rw [← HR.out]; exact isG_not fun ⟨_, h⟩ => hn (by simp only [HPp.out] at h; exact h)
          have HR2 := Lib.hid hr
          clear hr hn HR HPp
          go_wp2_with (go_at_call 103; (with_reducible refine (place1_any G[k] s _).mono ?_); rintro e w1 ⟨rfl, hb1⟩)
          exact bodyPost_ret (v := .tuple #[.int .i64 k, .bool false]) (by simp [results, Try.results102, go_sem]) rfl ⟨by rw [HR2.out], hb.trans (hb1.mono hb.size)⟩
      · obtain rfl : k = G.length := by omega
        have hr : r = false := by rw [← HR.out]; exact isG_not fun ⟨h, _⟩ => hp (by rw [HPp.out] at h; exact h)
        have HR2 := Lib.hid hr
        clear hr HR HPp hp
        go_wp2
        exact bodyPost_ret (v := .tuple #[.int .i64 G.length, .bool false]) (by simp [results, Try.results102, go_sem]) rfl ⟨by rw [HR2.out], hb⟩
theorem groupPlace_any (B : Option Addr) (G : List Grp) (d : Nat) (s : ByteArray) (w : World) (hB : Grs w w.heap.size B G) (hr : RisingG G) (hG : G.length ≤ 100000) :
    Calls Try.prog 77 #[.slice B G.length d, .string s] w (Plc w (posG G s) (isG G s)) := by
  have BS := Lib.hid (bsearch_any B G d s w hB hr hG)
  generalize posG G s = p at BS ⊢
  generalize isG G s = r at BS ⊢
  go_enter Try.func77, Try.ntmps77
  go_wp2_with (go_at_call 102; (with_reducible refine BS.out.mono ?_); rintro e w1 ⟨rfl, hb1⟩)
  exact bodyPost_ret (v := .tuple #[.int .i64 p, .bool r]) (by simp [results, Try.results77, go_sem]) rfl ⟨rfl, hb1⟩
end Go.Proofs.Ytjmmffhndecikaa

namespace Go.Proofs.Ytjmmffhndecikaa
open Go.RowKit
set_option linter.unusedVariables false
set_option maxRecDepth 1000000

/-- A topic of no great size. -/
def Tpc.small (t : Tpc) : Prop := t.name.size ≤ 1048576 ∧ (t.held.length ≤ 1048576 ∧ ∀ i (h : i < t.held.length), t.held[i].size ≤ 1048576) ∧ (t.groups.length ≤ 1048576 ∧ ∀ i (h : i < t.groups.length), t.groups[i].name.size ≤ 1048576)

def szG (f : Grp) (left : Int) : Int := if left - f.name.size < 0 then -1 else left - f.name.size
theorem szGroup_any (f : Grp) (left : Int) (w : World) (hf : f.fits) (h0 : 0 ≤ left) (h1 : left ≤ 1048576) :
    Calls Try.prog 105 #[f.val, .int .i64 left] w fun e w' => e = .returned (.int .i64 (szG f left)) ∧ Below w.heap.size w w' := by
  obtain ⟨s0, k⟩ := f
  obtain ⟨q0, q2, q3⟩ := hf
  simp only at q0 q2 q3
  unfold maxLen at q0
  unfold Grp.val szG
  simp only
  by_cases hA : left - s0.size < 0
  · rw [if_pos hA]
    go_enter Try.func105, Try.ntmps105
    go_wp2
    go_ret
    exact ⟨rfl, (Below.refl _ _).alloc (Nat.le_refl _) _⟩
  · rw [if_neg hA]
    go_enter Try.func105, Try.ntmps105
    go_wp2
    go_ret
    exact ⟨rfl, (Below.refl _ _).alloc (Nat.le_refl _) _⟩
theorem szG_lo (f : Grp) (left : Int) (h : 0 ≤ left) : -1 ≤ szG f left ∧ szG f left ≤ left := by unfold szG; split <;> omega
theorem szG_ok {f : Grp} {left : Int} (h1 : left ≤ 1048576) (h : 0 ≤ szG f left) : f.name.size ≤ 1048576 := by
  unfold szG at h
  split at h <;> omega

set_option maxHeartbeats 1000000 in
theorem szGroupS_left (A : Option Addr) (L : List Grp) (c : Nat) (left : Int) (w : World) (hL : Grs w w.heap.size A L) (hf : ∀ g ∈ L, g.fits) (l0 : 0 ≤ left) (l1 : left ≤ 1048576) :
    Calls Try.prog 82 #[.slice A L.length c, .int .i64 left] w fun e w' => ∃ r : Int, e = .returned (.int .i64 r) ∧ -1 ≤ r ∧ r ≤ 1048576 ∧ (0 ≤ r → L.length ≤ 1048576 ∧ ∀ i (h : i < L.length), L[i].name.size ≤ 1048576) ∧ Below w.heap.size w w' := by
  have hn := hL.1
  unfold maxLen at hn
  by_cases hbig : left - L.length < 0
  · go_enter Try.func82, Try.ntmps82
    go_wp2
    go_ret
    exact ⟨-1, rfl, by omega, by omega, fun h => by omega, Below.refl _ _⟩
  · have hn2 : L.length ≤ 1048576 := by omega
    have hbig' : ¬ left - (L.length : Int) < 0 := hbig
    go_enter Try.func82, Try.ntmps82
    go_wp2
    go_loopw [1, 5] (fun l i wr => ∃ (k : Nat) (left : Int), k ≤ L.length ∧ i = .int .i64 k ∧ l = .int .i64 left ∧ 0 ≤ left ∧ left ≤ 1048576 ∧ (∀ j (h : j < L.length), j < k → L[j].name.size ≤ 1048576) ∧ Below w.heap.size w wr) (fun _ i _ => L.length - (intOf i).toNat)
    case atStart => exact ⟨0, _, by omega, rfl, rfl, by omega, by omega, fun j _ h => by omega, Below.refl _ _⟩
    case round =>
      obtain ⟨k, lf, hk, rfl, rfl, l0, l1, hS, hb⟩ := hrel
      by_cases hlt : k < L.length
      · obtain ⟨a, rfl, hab, c0, c1⟩ := (hL.below hb (Nat.le_refl _)).at k hlt
        have hsz := szG_lo L[k] lf l0
        have hff := hf _ (List.getElem_mem hlt)
        go_wp2_with (go_at_call 105; refine (szGroup_any L[k] lf wr hff l0 l1).mono ?_; rintro e w1 ⟨rfl, hb1⟩)
        · go_ret
          exact ⟨-1, rfl, by omega, by omega, fun h => by omega, hb.trans (hb1.mono hb.size)⟩
        · have h0 : 0 ≤ szG L[k] lf := by omega
          refine ⟨⟨k + 1, _, by omega, by go_num, rfl, h0, by omega, fun j hj hjk => ?_, hb.trans (hb1.mono hb.size)⟩, by simp [intOf]; omega⟩
          by_cases e : j = k
          · subst e; exact szG_ok l1 h0
          · exact hS j hj (by omega)
      · obtain rfl : k = L.length := by omega
        go_wp2
        go_ret
        exact ⟨lf, rfl, by omega, l1, fun _ => ⟨hn2, fun i h => hS i h h⟩, hb⟩
set_option maxHeartbeats 1000000 in
theorem szStringS_left (A : Option Addr) (L : List ByteArray) (c : Nat) (left : Int) (w : World) (hL : Strs w w.heap.size A L) (hf : ∀ s ∈ L, s.size ≤ maxLen) (l0 : 0 ≤ left) (l1 : left ≤ 1048576) :
    Calls Try.prog 81 #[.slice A L.length c, .int .i64 left] w fun e w' => ∃ r : Int, e = .returned (.int .i64 r) ∧ -1 ≤ r ∧ r ≤ 1048576 ∧ (0 ≤ r → L.length ≤ 1048576 ∧ ∀ i (h : i < L.length), L[i].size ≤ 1048576) ∧ Below w.heap.size w w' := by
  have hn := hL.1
  unfold maxLen at hn hf
  by_cases hbig : left - L.length < 0
  · go_enter Try.func81, Try.ntmps81
    go_wp2
    go_ret
    exact ⟨-1, rfl, by omega, by omega, fun h => by omega, Below.refl _ _⟩
  · have hn2 : L.length ≤ 1048576 := by omega
    have hbig' : ¬ left - (L.length : Int) < 0 := hbig
    go_enter Try.func81, Try.ntmps81
    go_wp2
    go_loopw [1, 5] (fun l i wr => ∃ (k : Nat) (left : Int), k ≤ L.length ∧ i = .int .i64 k ∧ l = .int .i64 left ∧ 0 ≤ left ∧ left ≤ 1048576 ∧ (∀ j (h : j < L.length), j < k → L[j].size ≤ 1048576) ∧ Below w.heap.size w wr) (fun _ i _ => L.length - (intOf i).toNat)
    case atStart => exact ⟨0, _, by omega, rfl, rfl, by omega, by omega, fun j _ h => by omega, Below.refl _ _⟩
    case round =>
      obtain ⟨k, lf, hk, rfl, rfl, l0, l1, hS, hb⟩ := hrel
      by_cases hlt : k < L.length
      · obtain ⟨a, rfl, hab, c0⟩ := (hL.below hb (Nat.le_refl _)).2 k hlt
        have hsz := hf _ (List.getElem_mem hlt)
        have hlt' : (k : Int) < (L.length : Int) := by omega
        by_cases h0 : 0 ≤ lf - L[k].size
        · go_wp2
          refine ⟨⟨k + 1, _, by omega, by go_num, rfl, h0, by omega, fun j hj hjk => ?_, hb⟩, by simp [intOf]; omega⟩
          by_cases e : j = k
          · subst e; omega
          · exact hS j hj (by omega)
        · go_wp2
          go_ret
          exact ⟨-1, rfl, by omega, by omega, fun h => by omega, hb⟩
      · obtain rfl : k = L.length := by omega
        go_wp2
        go_ret
        exact ⟨lf, rfl, by omega, l1, fun _ => ⟨hn2, fun i h => hS i h h⟩, hb⟩

set_option maxHeartbeats 2000000 in
theorem szTopic_any (t : Tpc) (A : Option Addr) (c : Nat) (B : Option Addr) (d : Nat) (w : World) (hf : t.fits) (hA : Strs w w.heap.size A t.held) (hB : Grs w w.heap.size B t.groups) :
    Calls Try.prog 41 #[topV t.name t.base (.slice A t.held.length c) (.slice B t.groups.length d), .int .i64 1048576] w fun e w' => ∃ r : Int, e = .returned (.int .i64 r) ∧ -1 ≤ r ∧ r ≤ 1048576 ∧ (0 ≤ r → t.small) ∧ Below w.heap.size w w' := by
  obtain ⟨nm, bs, H, G⟩ := t
  obtain ⟨f0, f1, f2, f3⟩ := hf
  simp only at f0 f1 f2 f3 hA hB ⊢
  unfold maxLen at f0
  have hb0 : Below w.heap.size w (w.alloc (.cells #[.string nm, .int .i64 bs, .slice A H.length c, .slice B G.length d] 51)) := (Below.refl _ _).alloc (Nat.le_refl _) _
  have k0 := Blk.fresh w 51 [.string nm, .int .i64 bs, .slice A H.length c, .slice B G.length d]
  simp only [List.toArray] at k0
  by_cases hn : (1048576 : Int) - nm.size < 0
  · go_enter Try.func41, Try.ntmps41
    go_wp2
    go_ret
    exact ⟨-1, rfl, by omega, by omega, fun h => by omega, hb0⟩
  have hn' : ¬ (1048576 : Int) - (nm.size : Int) < 0 := hn
  have SS := Lib.hid (fun W (h : Below w.heap.size w W) => szStringS_left A H c (1048576 - nm.size) W (hA.on h) f2 (by omega) (by omega))
  go_enter Try.func41, Try.ntmps41
  go_wp2_with (fail)
  generalize w.alloc (.cells #[.string nm, .int .i64 bs, .slice A H.length c, .slice B G.length d] 51) = v0 at hb0 k0 ⊢
  refine (SS.out _ hb0).mono ?_
  rintro e w1 ⟨r, rfl, r0, r1, hS, hb1⟩
  have hw1 := hb0.trans (hb1.mono hb0.size)
  have k1 := k0.below hb1 k0.lt
  clear k0 hb0 hb1
  by_cases hr : r < 0
  · go_wp2
    go_ret
    exact ⟨-1, rfl, by omega, by omega, fun h => by omega, hw1⟩
  have c3 := k1.cell (i := 3) rfl
  have SG := Lib.hid (szGroupS_left B G d r w1 (hB.on hw1) f3 (by omega) (by omega))
  have hr' : ¬ r < 0 := hr
  go_wp2_with (fail)
  refine SG.out.mono ?_
  rintro e w2 ⟨q, rfl, q0, q1, hT, hb2⟩
  have hw2 := hw1.trans (hb2.mono hw1.size)
  by_cases hq : q < 0
  · go_wp2
    go_ret
    exact ⟨-1, rfl, by omega, by omega, fun h => by omega, hw2⟩
  have hq' : ¬ q < 0 := hq
  go_wp2
  go_ret
  exact ⟨q, rfl, q0, q1, fun h => ⟨by show nm.size ≤ 1048576; omega, hS (by omega), hT h⟩, hw2⟩
end Go.Proofs.Ytjmmffhndecikaa

namespace Go.Proofs.Ytjmmffhndecikaa
open Go.RowKit
set_option linter.unusedVariables false
set_option maxRecDepth 1000000
theorem lag_bad {t : Tpc} {s : ByteArray} (h : topB t = false) : lagT t s = 0 := by unfold lagT; rw [if_pos h]
theorem lag_none {t : Tpc} {s : ByteArray} (h : topB t = true) (h2 : isG t.groups s = false) : lagT t s = 0 := by
  unfold lagT; rw [if_neg (by rw [h]; simp), if_pos h2]
theorem lag_at {t : Tpc} {s : ByteArray} {k : Nat} (h : topB t = true) (hk : k < t.groups.length) (e : t.groups[k].name = s) : lagT t s = t.base + t.held.length - t.groups[k].acked := by
  obtain ⟨rfl, hi⟩ := isG_at (rising_of (topB_iff.1 h)) hk e
  unfold lagT
  rw [if_neg (by rw [h]; simp), if_neg (by rw [hi]; simp), List.getD_eq_getElem?_getD, List.getElem?_eq_getElem hk]
  rfl
theorem isG_none {G : List Grp} {s : ByteArray} (h : ∀ i (hi : i < G.length), G[i].name ≠ s) : isG G s = false := isG_not fun ⟨hi, e⟩ => h _ hi e
theorem acked_in {t : Tpc} (h : topOK t) {k : Nat} (hk : k < t.groups.length) : t.base ≤ t.groups[k].acked ∧ t.groups[k].acked ≤ t.base + t.held.length := inB_true (h.2.2.2.2.2.2 k hk).2.1
theorem end_in {t : Tpc} (h : topOK t) : 0 ≤ t.base ∧ t.base + t.held.length ≤ 1000000000 := ⟨(inB_true h.2.1).1, h.2.2.2.2.2.1⟩
set_option maxHeartbeats 8000000 in
theorem implTopicLag_any (t : Tpc) (s : ByteArray) (A : Option Addr) (c : Nat) (B : Option Addr) (d : Nat) (w : World) (hf : t.fits) (hs : s.size ≤ maxLen) (hA : Strs w w.heap.size A t.held) (hB : Grs w w.heap.size B t.groups) :
    Calls Try.prog 33 #[topV t.name t.base (.slice A t.held.length c) (.slice B t.groups.length d), .string s] w fun e w' => e = .returned (.int .i64 (lagT t s)) ∧ Below w.heap.size w w' := by
  have hK := Blk.fresh w 26 [.string t.name, .int .i64 t.base, .slice A t.held.length c, .slice B t.groups.length d]
  have hb0 := below_box w (.cells #[.string t.name, .int .i64 t.base, .slice A t.held.length c, .slice B t.groups.length d] 26)
  simp only [List.toArray] at hK
  have TR := Lib.hid (fun W (h : Below w.heap.size w W) => implTopicRight_any t A c B d W hf (hA.on h) (hB.on h))
  have F0 : Hid (topB t = false → lagT t s = 0) := Lib.hid lag_bad
  have F1 : Hid (topB t = true → isG t.groups s = false → lagT t s = 0) := Lib.hid lag_none
  have F2 : Hid (∀ k (h : topB t = true) (hk : k < t.groups.length), t.groups[k].name = s → lagT t s = t.base + t.held.length - t.groups[k].acked) := Lib.hid fun k h hk e => lag_at h hk e
  have HO := Lib.hid (topB_iff (t := t))
  have HB := Lib.hid (fun W (h : Below w.heap.size w W) => hB.on h)
  have GP := Lib.hid (fun W (h : Below w.heap.size w W) (ho : topOK t) => groupPlace_any B t.groups d s W (hB.on h) (rising_of ho) (by have := ho.2.2.2.2.1; omega))
  have HI := Lib.hid (isG_iff (G := t.groups) (s := s))
  have AK := Lib.hid (fun (h : topOK t) k (hk : k < t.groups.length) => acked_in h hk)
  have EI := Lib.hid (fun (h : topOK t) => end_in h)
  have hh := Lib.hid (fun h : topOK t => h.2.2.1)
  obtain ⟨nm, bs, H, G⟩ := t
  simp only at hK hb0 TR F2 GP HI AK EI hh HB F1
  obtain ⟨r, HR⟩ : ∃ r, Hid (lagT ⟨nm, bs, H, G⟩ s = r) := ⟨_, Lib.hid rfl⟩
  rw [HR.out] at F0 F1 F2 ⊢
  rcases Bool.eq_false_or_eq_true (topB ⟨nm, bs, H, G⟩) with hT | hT
  rotate_left
  · have H0 := Lib.hid (F0.out hT)
    rw [hT] at TR
    go_enter Try.func33, Try.ntmps33
    go_wp2_with (fail)
    generalize w.alloc (.cells #[.string nm, .int .i64 bs, .slice A H.length c, .slice B G.length d] 26) = w3 at hK hb0 ⊢
    refine (TR.out _ hb0).mono ?_
    rintro e w1 ⟨rfl, hb1⟩
    go_wp2
    go_ret
    exact ⟨by rw [H0.out]; rfl, hb0.trans (hb1.mono hb0.size)⟩
  have ho := HO.out.1 hT
  have he := EI.out ho
  have hl : H.length ≤ 20 := hh.out ho
  have GQ := Lib.hid (fun W (h : Below w.heap.size w W) => GP.out W h ho)
  have AQ := Lib.hid (AK.out ho)
  have FQ := Lib.hid (F1.out hT)
  have FR := Lib.hid (fun k => F2.out k hT)
  have EN := Lib.hid (endOf_any nm bs A H.length c (.slice B G.length d) (by omega) he.1 (by omega) rfl)
  rw [hT] at TR
  clear F0 F1 F2 GP AK EI HO ho hh hT
  obtain ⟨p, HP⟩ : ∃ p, Hid (posG G s = p) := ⟨_, Lib.hid rfl⟩
  rw [HP.out] at GQ
  rcases Bool.eq_false_or_eq_true (isG G s) with hI | hI
  rotate_left
  · have H0 := Lib.hid (FQ.out hI)
    rw [hI] at GQ
    go_enter Try.func33, Try.ntmps33
    go_wp2_with (fail)
    generalize w.alloc (.cells #[.string nm, .int .i64 bs, .slice A H.length c, .slice B G.length d] 26) = w3 at hK hb0 ⊢
    refine (TR.out _ hb0).mono ?_
    rintro e w1 ⟨rfl, hb1⟩
    have hw1 := hb0.trans (hb1.mono hb0.size)
    have hK1 := hK.below hb1 hK.lt
    have c3 := hK1.cell (i := 3) rfl
    go_wp2_with (fail)
    refine (GQ.out _ hw1).mono ?_
    rintro e w2 ⟨rfl, hb2⟩
    clear c3
    go_wp2
    go_ret
    exact ⟨by rw [H0.out]; rfl, hw1.trans (hb2.mono hw1.size)⟩
  obtain ⟨hp, hn⟩ := HI.out.1 hI
  simp only [HP.out] at hp hn
  have HF := Lib.hid (FR.out p hp hn)
  have ha := AQ.out p hp
  try simp only at ha
  rw [hI] at GQ
  go_enter Try.func33, Try.ntmps33
  go_wp2_with (fail)
  generalize w.alloc (.cells #[.string nm, .int .i64 bs, .slice A H.length c, .slice B G.length d] 26) = w3 at hK hb0 ⊢
  refine (TR.out _ hb0).mono ?_
  rintro e w1 ⟨rfl, hb1⟩
  have hw1 := hb0.trans (hb1.mono hb0.size)
  have hK1 := hK.below hb1 hK.lt
  have c3 := hK1.cell (i := 3) rfl
  clear hK hb0 hb1
  go_wp2_with (fail)
  refine (GQ.out _ hw1).mono ?_
  rintro e w2 ⟨rfl, hb2⟩
  have hw2 := hw1.trans (hb2.mono hw1.size)
  have hK2 := hK1.below hb2 hK1.lt
  obtain ⟨a, rfl, hab, e0, e1⟩ := (HB.out _ hw2).at p hp
  clear c3 hb2 hw1 hK1
  go_wp2_with (fail)
  have hp' : (p : Int) < (G.length : Int) := by omega
  have hsub : IntKind.i64.wrap (bs + (H.length : Int) - G[p].acked) = bs + (H.length : Int) - G[p].acked := IntWalk.i64_in _ (by omega)
  obtain ⟨I, f, hI2, g0, gk, gc, ge⟩ := class_grown w2
  have y0 := fun q => kept_cell (gk q) (hK2.cell (i := 0) rfl)
  have y1 := fun q => kept_cell (gk q) (hK2.cell (i := 1) rfl)
  have y2 := fun q => kept_cell (gk q) (hK2.cell (i := 2) rfl)
  have y3 := fun q => kept_cell (gk q) (hK2.cell (i := 3) rfl)
  have z1 := fun q => kept_cell (gk q) e1
  clear hn ha e0 e1 hK2
  refine wp_region_kept f (by kernel_rfl) (by kernel_rfl) g0 ?_
  repeat (first
    | go_big_quiet_skip
    | (go_big_quiet_want; go_big_quiet_op; first
      | go_big_quiet_on
      | (apply Exists.intro; refine ⟨fun q => ?_, ?_⟩; (go_at_call 61; (with_reducible refine (EN.out _).mono ?_); rintro e w4 ⟨rfl, hb4⟩; exact ⟨rfl, gc _ _ hb4⟩); go_big_quiet_on)))
  refine wpQuiet_nil ?_
  intro w5 h5
  have hb5 := ge _ h5
  go_wp2
  go_ret
  exact ⟨by rw [HF.out]; rfl, hw2.trans (hb5.mono hw2.size)⟩
theorem name_short {s : ByteArray} (h : nameB s = true) : s.size ≤ 20 := by
  unfold nameB at h
  exact (@of_decide_eq_true _ (Classical.propDecidable _) h).2.1
theorem lag_long {t : Tpc} {s : ByteArray} (h : 20000 < s.size) : lagT t s = 0 := by
  rcases Bool.eq_false_or_eq_true (topB t) with hT | hT
  · refine lag_none hT (isG_none fun i hi e => ?_)
    have := ((topB_iff.1 hT).2.2.2.2.2.2 i hi).1
    rw [e] at this
    have := name_short this
    omega
  · exact lag_bad hT
set_option maxHeartbeats 8000000 in
theorem specTopicLag_any (t : Tpc) (s : ByteArray) (A : Option Addr) (c : Nat) (B : Option Addr) (d : Nat) (w : World) (hf : t.fits) (hs : s.size ≤ maxLen) (hA : Strs w w.heap.size A t.held) (hB : Grs w w.heap.size B t.groups) :
    Calls Try.prog 34 #[topV t.name t.base (.slice A t.held.length c) (.slice B t.groups.length d), .string s] w fun e w' => e = .returned (.int .i64 (lagT t s)) ∧ Below w.heap.size w w' := by
  have hs' := hs
  unfold maxLen at hs'
  have hK := Blk.fresh w 26 [.string t.name, .int .i64 t.base, .slice A t.held.length c, .slice B t.groups.length d]
  have hb0 := below_box w (.cells #[.string t.name, .int .i64 t.base, .slice A t.held.length c, .slice B t.groups.length d] 26)
  simp only [List.toArray] at hK
  have TR := Lib.hid (fun W (h : Below w.heap.size w W) => specTopicRight_any t A c B d W hf (hA.on h) (hB.on h))
  have F0 : Hid (topB t = false → lagT t s = 0) := Lib.hid lag_bad
  have F1 : Hid (topB t = true → isG t.groups s = false → lagT t s = 0) := Lib.hid lag_none
  have F2 : Hid (∀ k (h : topB t = true) (hk : k < t.groups.length), t.groups[k].name = s → lagT t s = t.base + t.held.length - t.groups[k].acked) := Lib.hid fun k h hk e => lag_at h hk e
  have F3 : Hid (20000 < s.size → lagT t s = 0) := Lib.hid lag_long
  have HO := Lib.hid (topB_iff (t := t))
  have HB := Lib.hid (fun W (h : Below w.heap.size w W) => hB.on h)
  have AK := Lib.hid (fun (h : topOK t) k (hk : k < t.groups.length) => acked_in h hk)
  have EI := Lib.hid (fun (h : topOK t) => end_in h)
  have hh := Lib.hid (fun h : topOK t => And.intro h.2.2.1 h.2.2.2.2.1)
  have HN := Lib.hid (isG_none (G := t.groups) (s := s))
  obtain ⟨nm, bs, H, G⟩ := t
  simp only at hK hb0 TR F2 AK EI hh HB F1 HN
  obtain ⟨r, HR⟩ : ∃ r, Hid (lagT ⟨nm, bs, H, G⟩ s = r) := ⟨_, Lib.hid rfl⟩
  rw [HR.out] at F0 F1 F2 F3 ⊢
  by_cases h1 : 20000 < s.size
  · have h1' : (20000 : Int) < (s.size : Int) := by omega
    have H0 := Lib.hid (F3.out h1)
    clear h1
    go_enter Try.func34, Try.ntmps34
    go_wp2
    go_ret
    exact ⟨by rw [H0.out]; rfl, hb0⟩
  have h1' : ¬ (20000 : Int) < (s.size : Int) := by omega
  clear F3
  rcases Bool.eq_false_or_eq_true (topB ⟨nm, bs, H, G⟩) with hT | hT
  rotate_left
  · have H0 := Lib.hid (F0.out hT)
    rw [hT] at TR
    go_enter Try.func34, Try.ntmps34
    go_wp2_with (fail)
    generalize w.alloc (.cells #[.string nm, .int .i64 bs, .slice A H.length c, .slice B G.length d] 26) = w3 at hK hb0 ⊢
    refine (TR.out _ hb0).mono ?_
    rintro e w1 ⟨rfl, hb1⟩
    go_wp2
    go_ret
    exact ⟨by rw [H0.out]; rfl, hb0.trans (hb1.mono hb0.size)⟩
  have ho := HO.out.1 hT
  have he := EI.out ho
  have hl : H.length ≤ 20 := (hh.out ho).1
  have hg : G.length ≤ 4 := (hh.out ho).2
  have AQ := Lib.hid (AK.out ho)
  have FQ := Lib.hid (fun h => F1.out hT (HN.out h))
  have FR := Lib.hid (fun k => F2.out k hT)
  have EN := Lib.hid (l07End_any nm bs A H.length c (.slice B G.length d) (by omega) he.1 (by omega) rfl)
  rw [hT] at TR
  clear F0 F1 F2 AK EI HO ho hh hT HN
  go_enter Try.func34, Try.ntmps34
  go_wp2_with (fail)
  generalize w.alloc (.cells #[.string nm, .int .i64 bs, .slice A H.length c, .slice B G.length d] 26) = w3 at hK hb0 ⊢
  refine (TR.out _ hb0).mono ?_
  rintro e w1 ⟨rfl, hb1⟩
  have hw1 := hb0.trans (hb1.mono hb0.size)
  have hK1 := hK.below hb1 hK.lt
  clear hK hb0 hb1
  go_wp2
  go_loopw [5] (fun i wr => ∃ k : Nat, k ≤ G.length ∧ i = .int .i64 k ∧ (∀ j (h : j < G.length), j < k → G[j].name ≠ s) ∧ wr = w1) (fun i _ => G.length - (intOf i).toNat)
  case atStart => exact ⟨0, by omega, rfl, fun j _ h => by omega, rfl⟩
  case round =>
    obtain ⟨k, hk, rfl, hno, rfl⟩ := hrel
    have c3 := hK1.cell (i := 3) rfl
    by_cases hlt : k < G.length
    rotate_left
    · obtain rfl : k = G.length := by omega
      have H0 := Lib.hid (FQ.out fun i h => hno i h h)
      clear hno
      go_wp2
      go_ret
      exact ⟨by rw [H0.out]; rfl, hw1⟩
    have hlt' : (k : Int) < (G.length : Int) := by omega
    obtain ⟨a, rfl, hab, e0, e1⟩ := (HB.out _ hw1).at k hlt
    by_cases hn : G[k].name = s
    · have HF := Lib.hid (FR.out k hlt hn)
      have ha := AQ.out k hlt
      try simp only at ha
      have hd : (G[k].name.toList == s.toList) = true := str_beq_t hn
      clear hn hno
      go_wp2_with (fail)
      have hsub : IntKind.i64.wrap (bs + (H.length : Int) - G[k].acked) = bs + (H.length : Int) - G[k].acked := IntWalk.i64_in _ (by omega)
      obtain ⟨I, f, hI2, g0, gk, gc, ge⟩ := class_grown wr
      have y0 := fun q => kept_cell (gk q) (hK1.cell (i := 0) rfl)
      have y1 := fun q => kept_cell (gk q) (hK1.cell (i := 1) rfl)
      have y2 := fun q => kept_cell (gk q) (hK1.cell (i := 2) rfl)
      have y3 := fun q => kept_cell (gk q) (hK1.cell (i := 3) rfl)
      have z1 := fun q => kept_cell (gk q) e1
      clear ha e0 e1 hK1 c3
      refine wp_region_kept f (by kernel_rfl) (by kernel_rfl) g0 ?_
      repeat (first
        | go_big_quiet_skip
        | (go_big_quiet_want; go_big_quiet_op; first
          | go_big_quiet_on
          | (apply Exists.intro; refine ⟨fun q => ?_, ?_⟩; (go_at_call 59; (with_reducible refine (EN.out _).mono ?_); rintro e w4 ⟨rfl, hb4⟩; exact ⟨rfl, gc _ _ hb4⟩); go_big_quiet_on)))
      refine wpQuiet_nil ?_
      intro w5 h5
      have hb5 := ge _ h5
      go_wp2
      go_ret
      exact ⟨by rw [HF.out]; rfl, hw1.trans (hb5.mono hw1.size)⟩
    · have hd : (G[k].name.toList == s.toList) = false := str_beq_f hn
      have hno2 : ∀ j (h : j < G.length), j < k + 1 → G[j].name ≠ s := fun j h hj => by
        by_cases e : j = k
        · subst e; exact hn
        · exact hno j h (by omega)
      have HN2 := Lib.hid hno2
      clear hn hno hno2
      go_wp2
      exact ⟨⟨k + 1, by omega, by go_num, HN2.out, trivial⟩, by simp [intOf]; omega⟩
/-- The two answer alike. -/
theorem bothTopicLag (t : Tpc) (s : ByteArray) (hf : t.fits) (hS : t.small) (hs : s.size ≤ maxLen) (hb : s.size ≤ 1048576) :
    ∃ r : Int, (∀ A c B d w, Strs w w.heap.size A t.held → Grs w w.heap.size B t.groups → t.held.length ≤ c → c ≤ maxLen → t.groups.length ≤ d → d ≤ maxLen → Calls Try.prog 34 #[topV t.name t.base (.slice A t.held.length c) (.slice B t.groups.length d), .string s] w fun e w' => e = .returned (.int .i64 r) ∧ Below w.heap.size w w') ∧
      (∀ A c B d w, Strs w w.heap.size A t.held → Grs w w.heap.size B t.groups → t.held.length ≤ c → c ≤ maxLen → t.groups.length ≤ d → d ≤ maxLen → Calls Try.prog 33 #[topV t.name t.base (.slice A t.held.length c) (.slice B t.groups.length d), .string s] w fun e w' => e = .returned (.int .i64 r) ∧ Below w.heap.size w w') :=
  ⟨lagT t s, fun A c B d w h1 h2 _ _ _ _ => specTopicLag_any t s A c B d w hf hs h1 h2, fun A c B d w h1 h2 _ _ _ _ => implTopicLag_any t s A c B d w hf hs h1 h2⟩
end Go.Proofs.Ytjmmffhndecikaa

namespace Go.Proofs.Ytjmmffhndecikaa
open Go.RowKit
set_option linter.unusedVariables false

structure Chg (w w' : World) (lo hi : Nat) : Prop where
  os : w'.os = w.os
  tape : w'.tape = w.tape
  output : w'.output = w.output
  size : w.heap.size ≤ w'.heap.size
  block : ∀ k, k < w.heap.size → (k < lo ∨ hi ≤ k) → w'.heap[k]? = w.heap[k]?
section
variable {w w' w2 : World} {lo hi lo' hi' : Nat}
theorem Chg.of {row : Option Nat} (h : w.grownBy w' row) (hr : ∀ k, row = some k → lo ≤ k ∧ k < hi) : Chg w w' lo hi :=
  ⟨h.os, h.tape, h.output, h.size, fun k hk ho => h.block k hk fun e => by have := hr k e.symm; omega⟩
theorem Chg.trans (h : Chg w w' lo hi) (h2 : Chg w' w2 lo hi) : Chg w w2 lo hi :=
  ⟨h2.os.trans h.os, h2.tape.trans h.tape, h2.output.trans h.output, Nat.le_trans h.size h2.size, fun k hk ho => (h2.block k (by have := h.size; omega) ho).trans (h.block k hk ho)⟩
theorem Chg.after (hb : Below w.heap.size w w') (h : Chg w' w2 lo hi) : Chg w w2 lo hi :=
  ⟨h.os.trans hb.os, h.tape.trans hb.tape, h.output.trans hb.output, Nat.le_trans hb.size h.size, fun k hk ho => (h.block k (by have := hb.size; omega) ho).trans (hb.block k hk)⟩
theorem Chg.thenB (h : Chg w w' lo hi) (hb : Below w'.heap.size w' w2) : Chg w w2 lo hi :=
  ⟨hb.os.trans h.os, hb.tape.trans h.tape, hb.output.trans h.output, Nat.le_trans h.size hb.size, fun k hk ho => (hb.block k (by have := h.size; omega)).trans (h.block k hk ho)⟩
theorem Blk.offC {g : Nat} {t : TypeId} {cs : List Value} (h : Blk w g t cs) (hc : Chg w w' lo hi) (ho : g < lo ∨ hi ≤ g) : Blk w' g t cs := (hc.block g h.lt ho).trans h
theorem Rw.farC {e : TypeId} {size n : Nat} {v : Value} {xs : List Value} (h : Rw w lo' hi' e size v n xs) (hc : Chg w w' lo hi) (ho : hi' ≤ lo ∨ hi ≤ lo') : Rw w' lo' hi' e size v n xs := by
  refine ⟨?_, h.2⟩
  cases hv : v.ownBlock with
  | none =>
    have hg : w.grownBy w v.ownBlock := ⟨rfl, rfl, rfl, Nat.le_refl _, fun _ _ _ => rfl⟩
    rcases h.1.2 with ⟨he, h0⟩ | ⟨g, cap, cur, he, _⟩
    · exact ⟨h.1.1, .inl ⟨he, h0⟩⟩
    · rw [he] at hv; cases hv
  | some k =>
    have h1 := h.at k hv
    rcases h.1.2 with ⟨he, h0⟩ | ⟨g, cap, cur, he, hb, hh, hr⟩
    · rw [he] at hv; cases hv
    · rw [he] at hv
      cases hv
      exact ⟨h.1.1, .inr ⟨g, cap, cur, he, hb, (hc.block g (h.1.lt g (by rw [he]; rfl)).2 (by simp at h1; omega)).trans hh, hr⟩⟩
theorem below_offC {B : Nat} {a : World} (h : Below B a w) (hc : Chg w w' lo hi) (ho : B ≤ lo) (hB : B ≤ a.heap.size) : Below B a w' :=
  ⟨hc.os.trans h.os, hc.tape.trans h.tape, hc.output.trans h.output, Nat.le_trans h.size hc.size, fun k hk => (hc.block k (by have := h.size; omega) (by omega)).trans (h.block k hk)⟩
end
end Go.Proofs.Ytjmmffhndecikaa
