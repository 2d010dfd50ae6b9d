/- The contract of impl.groupPlace: a search by halves. The contracts of TopicLag. What the operations on a right topic answer is a right topic: plain mathematics. The contract of impl.freshTopic. -/
import Derived.Test.YtjnbhppnchmeoaaTpSetMW
import Derived.Test.YtjnbhppnchmeoaaShelf
import Derived.Test.YtjnbhppnchmeoaaTpPubSW
import Derived.Test.YtjnbhppnchmeoaaTpRTW
import Derived.Test.YtjnbhppnchmeoaaTpSzW
import Derived.Test.YtjnbhppnchmeoaaTpOpFW
import Derived.Test.YtjnbhppnchmeoaaTpWkW
import Derived.Deep.RegionHeld3
import Derived.Deep.DeepCutAuto
import Derived.Deep.RegionLaw
import Derived.Deep.AppendLies
namespace Go.Proofs.Ytjnbhppnchmeoaa
open Go.RowKit
set_option linter.unusedVariables false
set_option maxRecDepth 1000000
theorem compare_any (a b : ByteArray) (w : World) : Calls Try.prog 121 #[.string a, .string b] w fun e w' => e = .returned (.int .i64 (cmpG a b)) ∧ w' = w := Try.strings_Compare a b w
theorem place1_any (g : Grp) (s : ByteArray) (w : World) : Calls Try.prog 120 #[.agg #[.string g.name, .int .i64 g.acked], .string s] w fun e w' => e = .returned (.int .i64 (cmpG g.name s)) ∧ Below w.heap.size w w' := by
  have hK := Blk.fresh w 94 [.string g.name, .int .i64 g.acked]
  have hb := below_box w (.cells #[.string g.name, .int .i64 g.acked] 94)
  have c0 := hK.cell (i := 0) rfl
  simp only [List.toArray] at c0
  go_enter Try.func120, Try.ntmps120
  go_wp2_with (go_at_call 121; refine (compare_any _ _ _).mono ?_; rintro e w' ⟨rfl, rfl⟩)
  go_ret
  exact ⟨rfl, hb⟩
/-- What a search answers. -/
def Plc (w : World) (k : Nat) (r : Bool) (e : Ending) (w' : World) : Prop := e = .returned (.tuple #[.int .i64 k, .bool r]) ∧ Below w.heap.size w w'
set_option maxHeartbeats 4000000 in
theorem bsearch_any (B : Option Addr) (G : List Grp) (d : Nat) (s : ByteArray) (w : World) (hB : Grs w w.heap.size B G) (hr : RisingG G) (hG : G.length ≤ 100000) :
    Calls Try.prog 119 #[.slice B G.length d, .string s, .func (.func 120) #[] #[]] w (Plc w (posG G s) (isG G s)) := by
  have HB := Lib.hid (fun W (h : Below w.heap.size w W) => hB.on h)
  have HP := Lib.hid (fun i (h : i < G.length) => posG_iff (s := s) hr h)
  have hle := posG_le G s
  obtain ⟨p, HPp⟩ : ∃ p, Hid (posG G s = p) := ⟨_, Lib.hid rfl⟩
  rw [HPp.out] at hle HP ⊢
  obtain ⟨r, HR⟩ : ∃ r, Hid (isG G s = r) := ⟨_, Lib.hid rfl⟩
  rw [HR.out]
  go_enter Try.func119, Try.ntmps119
  go_wp2
  go_loopw [9, 10, 11] (fun i j _ wr => ∃ k m : Nat, k ≤ p ∧ p ≤ m ∧ m ≤ G.length ∧ i = .int .i64 k ∧ j = .int .i64 m ∧ Below w.heap.size w wr) (fun i j _ _ => (intOf j).toNat - (intOf i).toNat)
  case atStart => exact ⟨0, G.length, by omega, hle, by omega, rfl, rfl, Below.refl _ _⟩
  case round =>
    obtain ⟨k, m, h1, h2, h3, rfl, rfl, hb⟩ := hrel
    by_cases hlt : k < m
    · have hlt' : (k : Int) < (m : Int) := by omega
      have hq : (k + m) / 2 < G.length := by omega
      have hs1 : ((k : Int) + (m : Int)) / 2 = (((k + m) / 2 : Nat) : Int) := by omega
      obtain ⟨q, HQ⟩ : ∃ q, Hid ((k + m) / 2 = q) := ⟨_, Lib.hid rfl⟩
      rw [HQ.out] at hq
      obtain ⟨a, rfl, hab, c0, c1⟩ := (HB.out _ hb).at q hq
      have hq' : (q : Int) < (G.length : Int) := by omega
      have hsh : Op.shift .shr .u64 ((k : Int) + (m : Int)) .u64 1 = pure (.int .u64 (q : Int)) := by
        rw [shift_shr .u64 .u64 _ 1 (by decide) (by decide)]
        have e : ((k : Int) + (m : Int)) / 2 ^ (1 : Int).toNat = (q : Int) := by have := HQ.out; show ((k : Int) + (m : Int)) / 2 = _; omega
        rw [e]
      clear hs1
      have hm2 : q < m ∧ k ≤ q := by have := HQ.out; omega
      have hq2 : (q : Int) + 1 ≤ 100000 := by omega
      by_cases hl : lessB G[q].name s = true
      · have hz : cmpG G[q].name s < 0 := (cmpG_neg _ _).2 hl
        have hp1 : q < p := (HP.out q hq).1 hl
        have hd : decide (cmpG G[q].name s < 0) = true := by simpa using hz
        clear hl
        go_wp2_with (go_at_call 120; (with_reducible refine (place1_any G[q] s _).mono ?_); rintro e w1 ⟨rfl, hb1⟩)
        refine ⟨⟨q + 1, m, by omega, h2, h3, by go_num, rfl, hb.trans (hb1.mono hb.size)⟩, by simp [intOf]; omega⟩
      · have hz : ¬ cmpG G[q].name s < 0 := fun h => hl ((cmpG_neg _ _).1 h)
        have hp1 : ¬ q < p := fun h => hl ((HP.out q hq).2 h)
        have hd : decide (cmpG G[q].name s < 0) = false := by simpa using hz
        clear hl
        go_wp2_with (go_at_call 120; (with_reducible refine (place1_any G[q] s _).mono ?_); rintro e w1 ⟨rfl, hb1⟩)
        refine ⟨⟨k, q, h1, by omega, by omega, rfl, rfl, hb.trans (hb1.mono hb.size)⟩, by simp [intOf]; omega⟩
    · obtain rfl : k = m := by omega
      obtain rfl : k = p := by omega
      by_cases hp : k < G.length
      · have hp' : (k : Int) < (G.length : Int) := by omega
        have hd : decide ((k : Int) < (G.length : Int)) = true := by simpa using hp
        obtain ⟨a, rfl, hab, c0, c1⟩ := (HB.out _ hb).at k hp
        by_cases hn : G[k].name = s
        · have hz : (cmpG G[k].name s == 0) = true := by rw [(cmpG_zero _ _).2 hn]; rfl
          have hr : r = true := by rw [← HR.out]; exact isG_iff.2 ⟨by rw [HPp.out]; exact hp, by simp only [HPp.out]; exact hn⟩
          have HR2 := Lib.hid hr
          clear hr hn HR HPp
          go_wp2_with (go_at_call 120; (with_reducible refine (place1_any G[k] s _).mono ?_); rintro e w1 ⟨rfl, hb1⟩)
          exact bodyPost_ret (v := .tuple #[.int .i64 k, .bool true]) (by simp [results, Try.results119, go_sem]) rfl ⟨by rw [HR2.out], hb.trans (hb1.mono hb.size)⟩
        · have hz : (cmpG G[k].name s == 0) = false := by rw [beq_eq_false_iff_ne]; exact fun h => hn ((cmpG_zero _ _).1 h)
          have hr : r = false := by rw [← HR.out]; exact isG_not fun ⟨_, h⟩ => hn (by simp only [HPp.out] at h; exact h)
          have HR2 := Lib.hid hr
          clear hr hn HR HPp
          go_wp2_with (go_at_call 120; (with_reducible refine (place1_any G[k] s _).mono ?_); rintro e w1 ⟨rfl, hb1⟩)
          exact bodyPost_ret (v := .tuple #[.int .i64 k, .bool false]) (by simp [results, Try.results119, go_sem]) rfl ⟨by rw [HR2.out], hb.trans (hb1.mono hb.size)⟩
      · obtain rfl : k = G.length := by omega
        have hr : r = false := by rw [← HR.out]; exact isG_not fun ⟨h, _⟩ => hp (by rw [HPp.out] at h; exact h)
        have HR2 := Lib.hid hr
        clear hr HR HPp hp
        go_wp2
        exact bodyPost_ret (v := .tuple #[.int .i64 G.length, .bool false]) (by simp [results, Try.results119, go_sem]) rfl ⟨by rw [HR2.out], hb⟩
theorem groupPlace_any (B : Option Addr) (G : List Grp) (d : Nat) (s : ByteArray) (w : World) (hB : Grs w w.heap.size B G) (hr : RisingG G) (hG : G.length ≤ 100000) :
    Calls Try.prog 78 #[.slice B G.length d, .string s] w (Plc w (posG G s) (isG G s)) := by
  have BS := Lib.hid (bsearch_any B G d s w hB hr hG)
  generalize posG G s = p at BS ⊢
  generalize isG G s = r at BS ⊢
  go_enter Try.func78, Try.ntmps78
  go_wp2_with (go_at_call 119; (with_reducible refine BS.out.mono ?_); rintro e w1 ⟨rfl, hb1⟩)
  exact bodyPost_ret (v := .tuple #[.int .i64 p, .bool r]) (by simp [results, Try.results78, go_sem]) rfl ⟨rfl, hb1⟩
end Go.Proofs.Ytjnbhppnchmeoaa

namespace Go.Proofs.Ytjnbhppnchmeoaa
open Go.RowKit
set_option linter.unusedVariables false
set_option maxRecDepth 1000000
theorem lag_bad {t : Tpc} {s : ByteArray} (h : topB t = false) : lagT t s = 0 := by unfold lagT; rw [if_pos h]
theorem lag_none {t : Tpc} {s : ByteArray} (h : topB t = true) (h2 : isG t.groups s = false) : lagT t s = 0 := by
  unfold lagT; rw [if_neg (by rw [h]; simp), if_pos h2]
theorem lag_at {t : Tpc} {s : ByteArray} {k : Nat} (h : topB t = true) (hk : k < t.groups.length) (e : t.groups[k].name = s) : lagT t s = t.base + t.held.length - t.groups[k].acked := by
  obtain ⟨rfl, hi⟩ := isG_at (rising_of (topB_iff.1 h)) hk e
  unfold lagT
  rw [if_neg (by rw [h]; simp), if_neg (by rw [hi]; simp), List.getD_eq_getElem?_getD, List.getElem?_eq_getElem hk]
  rfl
theorem isG_none {G : List Grp} {s : ByteArray} (h : ∀ i (hi : i < G.length), G[i].name ≠ s) : isG G s = false := isG_not fun ⟨hi, e⟩ => h _ hi e
theorem acked_in {t : Tpc} (h : topOK t) {k : Nat} (hk : k < t.groups.length) : t.base ≤ t.groups[k].acked ∧ t.groups[k].acked ≤ t.base + t.held.length := inB_true (h.2.2.2.2.2.2 k hk).2.1
theorem end_in {t : Tpc} (h : topOK t) : 0 ≤ t.base ∧ t.base + t.held.length ≤ 1000000000 := ⟨(inB_true h.2.1).1, h.2.2.2.2.2.1⟩
set_option maxHeartbeats 8000000 in
theorem implTopicLag_any (t : Tpc) (s : ByteArray) (A : Option Addr) (c : Nat) (B : Option Addr) (d : Nat) (w : World) (hf : t.fits) (hs : s.size ≤ maxLen) (hA : Strs w w.heap.size A t.held) (hB : Grs w w.heap.size B t.groups) :
    Calls Try.prog 28 #[topV t.name t.base (.slice A t.held.length c) (.slice B t.groups.length d), .string s] w fun e w' => e = .returned (.int .i64 (lagT t s)) ∧ Below w.heap.size w w' := by
  have hK := Blk.fresh w 26 [.string t.name, .int .i64 t.base, .slice A t.held.length c, .slice B t.groups.length d]
  have hb0 := below_box w (.cells #[.string t.name, .int .i64 t.base, .slice A t.held.length c, .slice B t.groups.length d] 26)
  simp only [List.toArray] at hK
  have TR := Lib.hid (fun W (h : Below w.heap.size w W) => implTopicRight_any t A c B d W hf (hA.on h) (hB.on h))
  have F0 : Hid (topB t = false → lagT t s = 0) := Lib.hid lag_bad
  have F1 : Hid (topB t = true → isG t.groups s = false → lagT t s = 0) := Lib.hid lag_none
  have F2 : Hid (∀ k (h : topB t = true) (hk : k < t.groups.length), t.groups[k].name = s → lagT t s = t.base + t.held.length - t.groups[k].acked) := Lib.hid fun k h hk e => lag_at h hk e
  have HO := Lib.hid (topB_iff (t := t))
  have HB := Lib.hid (fun W (h : Below w.heap.size w W) => hB.on h)
  have GP := Lib.hid (fun W (h : Below w.heap.size w W) (ho : topOK t) => groupPlace_any B t.groups d s W (hB.on h) (rising_of ho) (by have := ho.2.2.2.2.1; omega))
  have HI := Lib.hid (isG_iff (G := t.groups) (s := s))
  have AK := Lib.hid (fun (h : topOK t) k (hk : k < t.groups.length) => acked_in h hk)
  have EI := Lib.hid (fun (h : topOK t) => end_in h)
  have hh := Lib.hid (fun h : topOK t => h.2.2.1)
  obtain ⟨nm, bs, H, G⟩ := t
  simp only at hK hb0 TR F2 GP HI AK EI hh HB F1
  obtain ⟨r, HR⟩ : ∃ r, Hid (lagT ⟨nm, bs, H, G⟩ s = r) := ⟨_, Lib.hid rfl⟩
  rw [HR.out] at F0 F1 F2 ⊢
  rcases Bool.eq_false_or_eq_true (topB ⟨nm, bs, H, G⟩) with hT | hT
  rotate_left
  · have H0 := Lib.hid (F0.out hT)
    rw [hT] at TR
    go_enter Try.func28, Try.ntmps28
    go_wp2_with (fail)
    generalize w.alloc (.cells #[.string nm, .int .i64 bs, .slice A H.length c, .slice B G.length d] 26) = w3 at hK hb0 ⊢
    refine (TR.out _ hb0).mono ?_
    rintro e w1 ⟨rfl, hb1⟩
    go_wp2
    go_ret
    exact ⟨by rw [H0.out]; rfl, hb0.trans (hb1.mono hb0.size)⟩
  have ho := HO.out.1 hT
  have he := EI.out ho
  have hl : H.length ≤ 20 := hh.out ho
  have GQ := Lib.hid (fun W (h : Below w.heap.size w W) => GP.out W h ho)
  have AQ := Lib.hid (AK.out ho)
  have FQ := Lib.hid (F1.out hT)
  have FR := Lib.hid (fun k => F2.out k hT)
  have EN := Lib.hid (endOf_any nm bs A H.length c (.slice B G.length d) (by omega) he.1 (by omega) rfl)
  rw [hT] at TR
  clear F0 F1 F2 GP AK EI HO ho hh hT
  obtain ⟨p, HP⟩ : ∃ p, Hid (posG G s = p) := ⟨_, Lib.hid rfl⟩
  rw [HP.out] at GQ
  rcases Bool.eq_false_or_eq_true (isG G s) with hI | hI
  rotate_left
  · have H0 := Lib.hid (FQ.out hI)
    rw [hI] at GQ
    go_enter Try.func28, Try.ntmps28
    go_wp2_with (fail)
    generalize w.alloc (.cells #[.string nm, .int .i64 bs, .slice A H.length c, .slice B G.length d] 26) = w3 at hK hb0 ⊢
    refine (TR.out _ hb0).mono ?_
    rintro e w1 ⟨rfl, hb1⟩
    have hw1 := hb0.trans (hb1.mono hb0.size)
    have hK1 := hK.below hb1 hK.lt
    have c3 := hK1.cell (i := 3) rfl
    go_wp2_with (fail)
    refine (GQ.out _ hw1).mono ?_
    rintro e w2 ⟨rfl, hb2⟩
    clear c3
    go_wp2
    go_ret
    exact ⟨by rw [H0.out]; rfl, hw1.trans (hb2.mono hw1.size)⟩
  obtain ⟨hp, hn⟩ := HI.out.1 hI
  simp only [HP.out] at hp hn
  have HF := Lib.hid (FR.out p hp hn)
  have ha := AQ.out p hp
  try simp only at ha
  rw [hI] at GQ
  go_enter Try.func28, Try.ntmps28
  go_wp2_with (fail)
  generalize w.alloc (.cells #[.string nm, .int .i64 bs, .slice A H.length c, .slice B G.length d] 26) = w3 at hK hb0 ⊢
  refine (TR.out _ hb0).mono ?_
  rintro e w1 ⟨rfl, hb1⟩
  have hw1 := hb0.trans (hb1.mono hb0.size)
  have hK1 := hK.below hb1 hK.lt
  have c3 := hK1.cell (i := 3) rfl
  clear hK hb0 hb1
  go_wp2_with (fail)
  refine (GQ.out _ hw1).mono ?_
  rintro e w2 ⟨rfl, hb2⟩
  have hw2 := hw1.trans (hb2.mono hw1.size)
  have hK2 := hK1.below hb2 hK1.lt
  obtain ⟨a, rfl, hab, e0, e1⟩ := (HB.out _ hw2).at p hp
  clear c3 hb2 hw1 hK1
  go_wp2_with (fail)
  have hp' : (p : Int) < (G.length : Int) := by omega
  have hsub : IntKind.i64.wrap (bs + (H.length : Int) - G[p].acked) = bs + (H.length : Int) - G[p].acked := IntWalk.i64_in _ (by omega)
  obtain ⟨I, f, hI2, g0, gk, gc, ge⟩ := class_grown w2
  have y0 := fun q => kept_cell (gk q) (hK2.cell (i := 0) rfl)
  have y1 := fun q => kept_cell (gk q) (hK2.cell (i := 1) rfl)
  have y2 := fun q => kept_cell (gk q) (hK2.cell (i := 2) rfl)
  have y3 := fun q => kept_cell (gk q) (hK2.cell (i := 3) rfl)
  have z1 := fun q => kept_cell (gk q) e1
  clear hn ha e0 e1 hK2
  refine wp_region_kept f (by kernel_rfl) (by kernel_rfl) g0 ?_
  repeat (first
    | go_big_quiet_skip
    | (go_big_quiet_want; go_big_quiet_op; first
      | go_big_quiet_on
      | (apply Exists.intro; refine ⟨fun q => ?_, ?_⟩; (go_at_call 62; (with_reducible refine (EN.out _).mono ?_); rintro e w4 ⟨rfl, hb4⟩; exact ⟨rfl, gc _ _ hb4⟩); go_big_quiet_on)))
  refine wpQuiet_nil ?_
  intro w5 h5
  have hb5 := ge _ h5
  go_wp2
  go_ret
  exact ⟨by rw [HF.out]; rfl, hw2.trans (hb5.mono hw2.size)⟩
theorem name_short {s : ByteArray} (h : nameB s = true) : s.size ≤ 20 := by
  unfold nameB at h
  exact (@of_decide_eq_true _ (Classical.propDecidable _) h).2.1
theorem lag_long {t : Tpc} {s : ByteArray} (h : 20000 < s.size) : lagT t s = 0 := by
  rcases Bool.eq_false_or_eq_true (topB t) with hT | hT
  · refine lag_none hT (isG_none fun i hi e => ?_)
    have := ((topB_iff.1 hT).2.2.2.2.2.2 i hi).1
    rw [e] at this
    have := name_short this
    omega
  · exact lag_bad hT
set_option maxHeartbeats 8000000 in
theorem specTopicLag_any (t : Tpc) (s : ByteArray) (A : Option Addr) (c : Nat) (B : Option Addr) (d : Nat) (w : World) (hf : t.fits) (hs : s.size ≤ maxLen) (hA : Strs w w.heap.size A t.held) (hB : Grs w w.heap.size B t.groups) :
    Calls Try.prog 29 #[topV t.name t.base (.slice A t.held.length c) (.slice B t.groups.length d), .string s] w fun e w' => e = .returned (.int .i64 (lagT t s)) ∧ Below w.heap.size w w' := by
  have hs' := hs
  unfold maxLen at hs'
  have hK := Blk.fresh w 26 [.string t.name, .int .i64 t.base, .slice A t.held.length c, .slice B t.groups.length d]
  have hb0 := below_box w (.cells #[.string t.name, .int .i64 t.base, .slice A t.held.length c, .slice B t.groups.length d] 26)
  simp only [List.toArray] at hK
  have TR := Lib.hid (fun W (h : Below w.heap.size w W) => specTopicRight_any t A c B d W hf (hA.on h) (hB.on h))
  have F0 : Hid (topB t = false → lagT t s = 0) := Lib.hid lag_bad
  have F1 : Hid (topB t = true → isG t.groups s = false → lagT t s = 0) := Lib.hid lag_none
  have F2 : Hid (∀ k (h : topB t = true) (hk : k < t.groups.length), t.groups[k].name = s → lagT t s = t.base + t.held.length - t.groups[k].acked) := Lib.hid fun k h hk e => lag_at h hk e
  have F3 : Hid (20000 < s.size → lagT t s = 0) := Lib.hid lag_long
  have HO := Lib.hid (topB_iff (t := t))
  have HB := Lib.hid (fun W (h : Below w.heap.size w W) => hB.on h)
  have AK := Lib.hid (fun (h : topOK t) k (hk : k < t.groups.length) => acked_in h hk)
  have EI := Lib.hid (fun (h : topOK t) => end_in h)
  have hh := Lib.hid (fun h : topOK t => And.intro h.2.2.1 h.2.2.2.2.1)
  have HN := Lib.hid (isG_none (G := t.groups) (s := s))
  obtain ⟨nm, bs, H, G⟩ := t
  simp only at hK hb0 TR F2 AK EI hh HB F1 HN
  obtain ⟨r, HR⟩ : ∃ r, Hid (lagT ⟨nm, bs, H, G⟩ s = r) := ⟨_, Lib.hid rfl⟩
  rw [HR.out] at F0 F1 F2 F3 ⊢
  by_cases h1 : 20000 < s.size
  · have h1' : (20000 : Int) < (s.size : Int) := by omega
    have H0 := Lib.hid (F3.out h1)
    clear h1
    go_enter Try.func29, Try.ntmps29
    go_wp2
    go_ret
    exact ⟨by rw [H0.out]; rfl, hb0⟩
  have h1' : ¬ (20000 : Int) < (s.size : Int) := by omega
  clear F3
  rcases Bool.eq_false_or_eq_true (topB ⟨nm, bs, H, G⟩) with hT | hT
  rotate_left
  · have H0 := Lib.hid (F0.out hT)
    rw [hT] at TR
    go_enter Try.func29, Try.ntmps29
    go_wp2_with (fail)
    generalize w.alloc (.cells #[.string nm, .int .i64 bs, .slice A H.length c, .slice B G.length d] 26) = w3 at hK hb0 ⊢
    refine (TR.out _ hb0).mono ?_
    rintro e w1 ⟨rfl, hb1⟩
    go_wp2
    go_ret
    exact ⟨by rw [H0.out]; rfl, hb0.trans (hb1.mono hb0.size)⟩
  have ho := HO.out.1 hT
  have he := EI.out ho
  have hl : H.length ≤ 20 := (hh.out ho).1
  have hg : G.length ≤ 4 := (hh.out ho).2
  have AQ := Lib.hid (AK.out ho)
  have FQ := Lib.hid (fun h => F1.out hT (HN.out h))
  have FR := Lib.hid (fun k => F2.out k hT)
  have EN := Lib.hid (l07End_any nm bs A H.length c (.slice B G.length d) (by omega) he.1 (by omega) rfl)
  rw [hT] at TR
  clear F0 F1 F2 AK EI HO ho hh hT HN
  go_enter Try.func29, Try.ntmps29
  go_wp2_with (fail)
  generalize w.alloc (.cells #[.string nm, .int .i64 bs, .slice A H.length c, .slice B G.length d] 26) = w3 at hK hb0 ⊢
  refine (TR.out _ hb0).mono ?_
  rintro e w1 ⟨rfl, hb1⟩
  have hw1 := hb0.trans (hb1.mono hb0.size)
  have hK1 := hK.below hb1 hK.lt
  clear hK hb0 hb1
  go_wp2
  go_loopw [5] (fun i wr => ∃ k : Nat, k ≤ G.length ∧ i = .int .i64 k ∧ (∀ j (h : j < G.length), j < k → G[j].name ≠ s) ∧ wr = w1) (fun i _ => G.length - (intOf i).toNat)
  case atStart => exact ⟨0, by omega, rfl, fun j _ h => by omega, rfl⟩
  case round =>
    obtain ⟨k, hk, rfl, hno, rfl⟩ := hrel
    have c3 := hK1.cell (i := 3) rfl
    by_cases hlt : k < G.length
    rotate_left
    · obtain rfl : k = G.length := by omega
      have H0 := Lib.hid (FQ.out fun i h => hno i h h)
      clear hno
      go_wp2
      go_ret
      exact ⟨by rw [H0.out]; rfl, hw1⟩
    have hlt' : (k : Int) < (G.length : Int) := by omega
    obtain ⟨a, rfl, hab, e0, e1⟩ := (HB.out _ hw1).at k hlt
    by_cases hn : G[k].name = s
    · have HF := Lib.hid (FR.out k hlt hn)
      have ha := AQ.out k hlt
      try simp only at ha
      have hd : (G[k].name.toList == s.toList) = true := str_beq_t hn
      clear hn hno
      go_wp2_with (fail)
      have hsub : IntKind.i64.wrap (bs + (H.length : Int) - G[k].acked) = bs + (H.length : Int) - G[k].acked := IntWalk.i64_in _ (by omega)
      obtain ⟨I, f, hI2, g0, gk, gc, ge⟩ := class_grown wr
      have y0 := fun q => kept_cell (gk q) (hK1.cell (i := 0) rfl)
      have y1 := fun q => kept_cell (gk q) (hK1.cell (i := 1) rfl)
      have y2 := fun q => kept_cell (gk q) (hK1.cell (i := 2) rfl)
      have y3 := fun q => kept_cell (gk q) (hK1.cell (i := 3) rfl)
      have z1 := fun q => kept_cell (gk q) e1
      clear ha e0 e1 hK1 c3
      refine wp_region_kept f (by kernel_rfl) (by kernel_rfl) g0 ?_
      repeat (first
        | go_big_quiet_skip
        | (go_big_quiet_want; go_big_quiet_op; first
          | go_big_quiet_on
          | (apply Exists.intro; refine ⟨fun q => ?_, ?_⟩; (go_at_call 60; (with_reducible refine (EN.out _).mono ?_); rintro e w4 ⟨rfl, hb4⟩; exact ⟨rfl, gc _ _ hb4⟩); go_big_quiet_on)))
      refine wpQuiet_nil ?_
      intro w5 h5
      have hb5 := ge _ h5
      go_wp2
      go_ret
      exact ⟨by rw [HF.out]; rfl, hw1.trans (hb5.mono hw1.size)⟩
    · have hd : (G[k].name.toList == s.toList) = false := str_beq_f hn
      have hno2 : ∀ j (h : j < G.length), j < k + 1 → G[j].name ≠ s := fun j h hj => by
        by_cases e : j = k
        · subst e; exact hn
        · exact hno j h (by omega)
      have HN2 := Lib.hid hno2
      clear hn hno hno2
      go_wp2
      exact ⟨⟨k + 1, by omega, by go_num, HN2.out, trivial⟩, by simp [intOf]; omega⟩
/-- The two answer alike. -/
theorem bothTopicLag (t : Tpc) (s : ByteArray) (hf : t.fits) (hS : t.small) (hs : s.size ≤ maxLen) (hb : s.size ≤ 1048576) :
    ∃ r : Int, (∀ A c B d w, Strs w w.heap.size A t.held → Grs w w.heap.size B t.groups → t.held.length ≤ c → c ≤ maxLen → t.groups.length ≤ d → d ≤ maxLen → Calls Try.prog 29 #[topV t.name t.base (.slice A t.held.length c) (.slice B t.groups.length d), .string s] w fun e w' => e = .returned (.int .i64 r) ∧ Below w.heap.size w w') ∧
      (∀ A c B d w, Strs w w.heap.size A t.held → Grs w w.heap.size B t.groups → t.held.length ≤ c → c ≤ maxLen → t.groups.length ≤ d → d ≤ maxLen → Calls Try.prog 28 #[topV t.name t.base (.slice A t.held.length c) (.slice B t.groups.length d), .string s] w fun e w' => e = .returned (.int .i64 r) ∧ Below w.heap.size w w') :=
  ⟨lagT t s, fun A c B d w h1 h2 _ _ _ _ => specTopicLag_any t s A c B d w hf hs h1 h2, fun A c B d w h1 h2 _ _ _ _ => implTopicLag_any t s A c B d w hf hs h1 h2⟩
end Go.Proofs.Ytjnbhppnchmeoaa

namespace Go.Proofs.Ytjnbhppnchmeoaa
open Go.RowKit
set_option linter.unusedVariables false

theorem ltri : ∀ {x y : List UInt8}, ¬ x < y → x ≠ y → y < x
  | [], [], _, h => absurd rfl h
  | [], b :: y, h, _ => absurd (List.nil_lt_cons b y) h
  | a :: x, [], _, _ => List.nil_lt_cons a x
  | a :: x, b :: y, h, hn => by
    rw [List.cons_lt_cons_iff] at *
    by_cases h1 : b < a
    · exact .inl h1
    · by_cases h2 : a < b
      · exact absurd (.inl h2) h
      · have e := u8_tri h2 h1
        subst e
        exact .inr ⟨rfl, ltri (fun hl => h (.inr ⟨rfl, hl⟩)) (fun he => hn (by rw [he]))⟩
theorem lessG_tri {a b : ByteArray} (h1 : lessB a b = false) (h2 : a ≠ b) : lessB b a = true := by
  rw [lessG_iff]
  have n1 : ¬ a.data.toList < b.data.toList := by rw [← lessG_iff, h1]; simp
  exact ltri n1 fun e => h2 (ByteArray.ext (Array.toList_inj.1 e))
/-- Names that rise. -/
def RisN (N : List ByteArray) : Prop := N.Pairwise fun a b => lessB a b = true
theorem risN_iff {G : List Grp} : RisingG G ↔ RisN (G.map (·.name)) := by
  unfold RisN RisingG
  rw [List.pairwise_map, List.pairwise_iff_getElem]
  exact ⟨fun h i j hi hj hij => h i j hij hj, fun h i j hij hj => h i j (by omega) hj hij⟩
/-- A right topic, by its elements. -/
def topEl (t : Tpc) : Prop := nameB t.name = true ∧ 0 ≤ t.base ∧ t.held.length ≤ 20 ∧ (∀ s ∈ t.held, 1 ≤ s.size ∧ s.size ≤ 40) ∧ t.groups.length ≤ 4 ∧ t.base + t.held.length ≤ 1000000000 ∧ RisN (t.groups.map (·.name)) ∧ ∀ g ∈ t.groups, nameB g.name = true ∧ t.base ≤ g.acked ∧ g.acked ≤ t.base + t.held.length
theorem topEl_iff {t : Tpc} : topOK t ↔ topEl t := by
  constructor
  · intro h
    refine ⟨h.1, (inB_true h.2.1).1, h.2.2.1, fun s hs => ?_, h.2.2.2.2.1, h.2.2.2.2.2.1, risN_iff.1 (rising_of h), fun g hg => ?_⟩
    · obtain ⟨i, hi, rfl⟩ := List.getElem_of_mem hs
      have := inB_true (h.2.2.2.1 i hi)
      omega
    · obtain ⟨i, hi, rfl⟩ := List.getElem_of_mem hg
      have := h.2.2.2.2.2.2 i hi
      exact ⟨this.1, inB_true this.2.1⟩
  · intro h
    obtain ⟨h1, h2, h3, h4, h5, h6, h7, h8⟩ := h
    refine ⟨h1, inB_of h2 (by omega), h3, fun i hi => ?_, h5, h6, fun i hi => ?_⟩
    · have := h4 _ (List.getElem_mem hi)
      exact inB_of (by omega) (by omega)
    · have := h8 _ (List.getElem_mem hi)
      exact ⟨this.1, inB_of this.2.1 this.2.2, fun h0 => risN_iff.2 h7 (i - 1) i (by omega) hi⟩
theorem topOK.facts {t : Tpc} (h : topOK t) : t.fits ∧ t.small := by
  have h' := topEl_iff.1 h
  have hn := (name_short h'.1)
  refine ⟨⟨by unfold maxLen; omega, ⟨by have := h'.2.1; omega, by have := h'.2.2.2.2.2.1; omega⟩, fun s hs => by have := h'.2.2.2.1 s hs; unfold maxLen; omega, fun g hg => ?_⟩, by omega, ⟨by have := h'.2.2.1; omega, fun i hi => by have := h'.2.2.2.1 _ (List.getElem_mem hi); omega⟩, by have := h'.2.2.2.2.1; omega, fun i hi => ?_⟩
  · have h8 := h'.2.2.2.2.2.2.2 g hg
    have := name_short h8.1
    exact ⟨by unfold maxLen; omega, by have := h'.2.1; omega, by have := h'.2.2.2.2.2.1; omega⟩
  · have := name_short (h'.2.2.2.2.2.2.2 _ (List.getElem_mem hi)).1
    omega
theorem pub_ok {t : Tpc} {s : ByteArray} (h : (pubT t s).code = 0) : topOK t ∧ 1 ≤ s.size ∧ s.size ≤ 40 ∧ pubT t s = ⟨⟨t.name, t.base, t.held ++ [s], t.groups⟩, [], t.base + t.held.length, 0⟩ ∧ topOK ⟨t.name, t.base, t.held ++ [s], t.groups⟩ := by
  unfold pubT at h ⊢
  split at h
  · exact absurd h (by decide)
  · rename_i h1
    split at h
    · exact absurd h (by decide)
    · rename_i h2
      split at h
      · exact absurd h (by decide)
      · rename_i h3
        rw [if_neg h1, if_neg h2, if_neg h3]
        have h2' : topB t = true ∧ inB s.size 1 40 = true := by
          cases ht : topB t <;> cases hi : inB (s.size : Int) 1 40 <;> simp [ht, hi] at h2 ⊢
        have ho := topB_iff.1 h2'.1
        have hs := inB_true h2'.2
        obtain ⟨e1, e2, e3, e4, e5, e6, e7, e8⟩ := topEl_iff.1 ho
        refine ⟨ho, by omega, by omega, rfl, topEl_iff.2 ⟨e1, e2, ?_, ?_, e5, ?_, e7, ?_⟩⟩
        · simp only [List.length_append, List.length_cons, List.length_nil]; omega
        · intro x hx
          simp only [List.mem_append, List.mem_singleton] at hx
          rcases hx with hx | rfl
          · exact e4 x hx
          · omega
        · simp only [List.length_append, List.length_cons, List.length_nil]; omega
        · intro g hg
          have := e8 g hg
          simp only [List.length_append, List.length_cons, List.length_nil]
          exact ⟨this.1, by omega, by omega⟩
theorem beg_facts {t : Tpc} {g : ByteArray} {ok : Bool} (h : begC t g ok = 0) : topOK t ∧ nameB g = true ∧ ok = true ∧ (isG t.groups g = true ∨ t.groups.length < 4) := by
  have ht := beg_top h
  unfold begC at h
  split at h
  · exact absurd h (by decide)
  · split at h
    · exact absurd h (by decide)
    · rename_i h2
      split at h
      · exact absurd h (by decide)
      · rename_i h3
        rw [topB_true ht, Bool.true_and] at h2
        refine ⟨ht, ?_, ?_, ?_⟩
        · cases hn : nameB g with
          | true => rfl
          | false => rw [hn] at h2; exact absurd rfl h2
        · cases hn : ok with
          | true => rfl
          | false => rw [hn] at h2; simp at h2
        · cases hn : isG t.groups g with
          | true => exact .inl rfl
          | false => rw [hn] at h3; exact .inr (by simp at h3; omega)
theorem insG_ris {t : Tpc} {s : ByteArray} (hr : RisN (t.groups.map (·.name))) (hi : isG t.groups s = false) : RisN ((insG t s).map (·.name)) := by
  have hR := risN_iff.2 hr
  unfold RisN at hr ⊢
  unfold insG
  rw [List.pairwise_map] at hr ⊢
  rw [List.append_assoc, List.pairwise_append]
  have hlow : ∀ x ∈ t.groups.take (posG t.groups s), lessB x.name s = true := by
    intro x hx
    obtain ⟨i, hi, rfl⟩ := List.getElem_of_mem hx
    simp at hi
    rw [List.getElem_take]
    exact posG_lt _ _ i (by omega) (by omega)
  have hhigh : ∀ x ∈ t.groups.drop (posG t.groups s), lessB s x.name = true := by
    intro x hx
    obtain ⟨i, hi2, rfl⟩ := List.getElem_of_mem hx
    simp at hi2
    rw [List.getElem_drop]
    have hlt : posG t.groups s + i < t.groups.length := by omega
    have h1 : lessB (t.groups[posG t.groups s + i]).name s = false := by
      cases hl : lessB (t.groups[posG t.groups s + i]).name s with
      | false => rfl
      | true => have := (posG_iff hR hlt).1 hl; omega
    refine lessG_tri h1 fun e => ?_
    have := (isG_at hR hlt e).2
    rw [hi] at this; cases this
  refine ⟨hr.sublist (List.take_sublist _ _), ?_, ?_⟩
  · rw [List.singleton_append, List.pairwise_cons]
    exact ⟨fun x hx => hhigh x hx, hr.sublist (List.drop_sublist _ _)⟩
  · intro a ha b hb
    rw [List.singleton_append, List.mem_cons] at hb
    rcases hb with rfl | hb
    · exact hlow a ha
    · exact lessG_trans (hlow a ha) (hhigh b hb)
theorem hasG_ok {t : Tpc} {s : ByteArray} (h : topOK t) (hn : nameB s = true) (hc : isG t.groups s = true ∨ t.groups.length < 4) : topOK (withG t s) := by
  have h' := topEl_iff.1 h
  rcases Bool.eq_false_or_eq_true (isG t.groups s) with hi | hi
  · have e : hasG t s = t.groups := by unfold hasG; rw [if_pos hi]
    show topOK ⟨t.name, t.base, t.held, hasG t s⟩
    rw [e]; exact h
  · have e : hasG t s = insG t s := by unfold hasG; rw [if_neg (by rw [hi]; simp)]
    show topOK ⟨t.name, t.base, t.held, hasG t s⟩
    rw [e]
    obtain ⟨e1, e2, e3, e4, e5, e6, e7, e8⟩ := h'
    have hl : t.groups.length < 4 := by rcases hc with h | h; rw [hi] at h; cases h; exact h
    have hp := posG_le t.groups s
    refine topEl_iff.2 ⟨e1, e2, e3, e4, ?_, e6, insG_ris e7 hi, ?_⟩
    · show (insG t s).length ≤ 4
      unfold insG; simp; omega
    · intro g hg
      have hg : g ∈ insG t s := hg
      unfold insG at hg
      simp only [List.mem_append, List.mem_singleton] at hg
      rcases hg with (hg | rfl) | hg
      · exact e8 g (List.mem_of_mem_take hg)
      · exact ⟨hn, Int.le_refl _, show t.base ≤ t.base + (t.held.length : Int) by omega⟩
      · exact e8 g (List.mem_of_mem_drop hg)
theorem set_topOK {t : Tpc} {k : Nat} {n : Int} (h : topOK t) (hk : k < t.groups.length) (h1 : t.base ≤ n) (h2 : n ≤ t.base + t.held.length) : topOK ⟨t.name, t.base, t.held, t.groups.set k ⟨(t.groups.getD k zeroGrp).name, n⟩⟩ := by
  obtain ⟨e1, e2, e3, e4, e5, e6, e7, e8⟩ := topEl_iff.1 h
  have eg : t.groups.getD k zeroGrp = t.groups[k] := by rw [List.getD_eq_getElem?_getD, List.getElem?_eq_getElem hk]; rfl
  refine topEl_iff.2 ⟨e1, e2, e3, e4, by simpa using e5, e6, ?_, fun g hg => ?_⟩
  · show RisN ((t.groups.set k ⟨(t.groups.getD k zeroGrp).name, n⟩).map (·.name))
    rw [List.map_set, eg]
    have : (t.groups.map (·.name)).set k t.groups[k].name = t.groups.map (·.name) := by
      have hk' : k < (t.groups.map (·.name)).length := by simpa using hk
      have := List.set_getElem_self hk'
      rw [List.getElem_map] at this
      exact this
    show RisN ((t.groups.map (·.name)).set k t.groups[k].name)
    rw [this]; exact e7
  · rcases List.mem_or_eq_of_mem_set hg with hg | rfl
    · exact e8 g hg
    · rw [eg]; exact ⟨(e8 _ (List.getElem_mem hk)).1, h1, h2⟩
theorem ack_in {t : Tpc} (h : topOK t) {k : Nat} (hk : k < t.groups.length) : t.base ≤ (t.groups.getD k zeroGrp).acked ∧ (t.groups.getD k zeroGrp).acked ≤ t.base + t.held.length := by
  have eg : t.groups.getD k zeroGrp = t.groups[k] := by rw [List.getD_eq_getElem?_getD, List.getElem?_eq_getElem hk]; rfl
  rw [eg]
  exact ((topEl_iff.1 h).2.2.2.2.2.2.2 _ (List.getElem_mem hk)).2
theorem set_ok {t : Tpc} {gn : ByteArray} {n : Int} {back : Bool} (h : (setT t gn n back).code = 0) : begC t gn true = 0 ∧ topOK (withG t gn) ∧ posG t.groups gn < (hasG t gn).length ∧ (if back = true then t.base else ((hasG t gn).getD (posG t.groups gn) zeroGrp).acked) ≤ n ∧ n ≤ t.base + t.held.length ∧
    setT t gn n back = setA (withG t gn) (posG t.groups gn) n ∧ topOK (setT t gn n back).o := by
  by_cases hb : begC t gn true = 0
  · obtain ⟨h1, h2, _, h4⟩ := beg_facts hb
    have hw := hasG_ok h1 h2 h4
    have hp := hasG_lt t gn
    rw [setT_ok hb] at h ⊢
    rcases Bool.eq_false_or_eq_true (inB n (if back = true then t.base else ((hasG t gn).getD (posG t.groups gn) zeroGrp).acked) (t.base + t.held.length)) with hr | hr
    · rw [hr]
      have hr' := inB_true hr
      refine ⟨hb, hw, hp, hr'.1, hr'.2, rfl, set_topOK hw hp ?_ hr'.2⟩
      refine Int.le_trans ?_ hr'.1
      split
      · exact Int.le_refl _
      · exact (ack_in hw hp).1
    · rw [hr] at h
      exact absurd (show (8 : Int) = 0 from h) (by decide)
  · rw [setT_ill hb] at h
    exact absurd h hb
theorem fet_ok {t : Tpc} {gn : ByteArray} {n : Int} (h : (fetT t gn n).code = 0) : begC t gn (inB n 0 20) = 0 ∧ (0 ≤ n ∧ n ≤ 20) ∧ topOK (withG t gn) ∧ posG t.groups gn < (hasG t gn).length ∧ fetT t gn n = fetchA (withG t gn) (posG t.groups gn) n := by
  unfold fetT forR at h ⊢
  split at h
  · rename_i hb
    obtain ⟨h1, h2, h3, h4⟩ := beg_facts hb
    rw [if_pos hb]
    exact ⟨hb, inB_true h3, hasG_ok h1 h2 h4, hasG_lt t gn, rfl⟩
  · exact absurd h ‹_›
theorem ret_ok {t : Tpc} {keep : Int} (h : (retT t keep).code = 0) : topOK t ∧ (0 ≤ keep ∧ keep ≤ 20) ∧ retT t keep = ⟨⟨t.name, t.base + goneN t keep, t.held.drop (goneN t keep), t.groups.map (upG (t.base + goneN t keep))⟩, [], goneN t keep, 0⟩ ∧ topOK (retT t keep).o := by
  unfold retT at h ⊢
  split at h
  · exact absurd h (by decide)
  · rename_i hb
    rw [if_neg hb]
    have h2' : topB t = true ∧ inB keep 0 20 = true := by
      cases ht : topB t <;> cases hi : inB keep 0 20 <;> simp [ht, hi] at hb ⊢
    have ho := topB_iff.1 h2'.1
    obtain ⟨e1, e2, e3, e4, e5, e6, e7, e8⟩ := topEl_iff.1 ho
    have hg := gone_le t keep
    refine ⟨ho, inB_true h2'.2, rfl, topEl_iff.2 ⟨e1, ?_, ?_, fun s hs => e4 s (List.mem_of_mem_drop hs), ?_, ?_, ?_, fun g hm => ?_⟩⟩
    · show 0 ≤ t.base + (goneN t keep : Int); omega
    · show (t.held.drop (goneN t keep)).length ≤ 20
      rw [List.length_drop]; omega
    · show (t.groups.map (upG (t.base + goneN t keep))).length ≤ 4
      rw [List.length_map]; exact e5
    · show t.base + (goneN t keep : Int) + ((t.held.drop (goneN t keep)).length : Int) ≤ 1000000000
      rw [List.length_drop]; omega
    · show RisN ((t.groups.map (upG (t.base + goneN t keep))).map (·.name))
      rw [List.map_map]; exact e7
    · have hm : g ∈ t.groups.map (upG (t.base + goneN t keep)) := hm
      obtain ⟨g0, hg0, rfl⟩ := List.mem_map.1 hm
      have := e8 g0 hg0
      refine ⟨this.1, ?_, ?_⟩
      · show t.base + (goneN t keep : Int) ≤ max (t.base + (goneN t keep : Int)) g0.acked
        omega
      · show max (t.base + (goneN t keep : Int)) g0.acked ≤ t.base + (goneN t keep : Int) + ((t.held.drop (goneN t keep)).length : Int)
        rw [List.length_drop]; omega
end Go.Proofs.Ytjnbhppnchmeoaa

namespace Go.Proofs.Ytjnbhppnchmeoaa
open Go.RowKit Go.Deep
set_option linter.unusedVariables false
set_option maxRecDepth 1000000

/-- What freshTopic has made behind its first statement. -/
def FrCut (w : World) (nm : ByteArray) (bs : Int) (H : List ByteArray) (tc : List Value) (y : Value) (wx : World) : Prop :=
  ∃ b A a, y = .pointer (some ⟨b, 0, none⟩) ∧ w.heap.size + 2 ≤ b ∧ Blk wx b 26 [.string nm, .int .i64 bs, .slice A H.length a, .slice none 0 0] ∧ OwnS wx (w.heap.size + 2) (.slice A H.length a) H ∧ Blk wx w.heap.size 26 tc ∧ Blk wx (w.heap.size + 1) 26 [.string ⟨#[]⟩, .int .i64 0, .slice none 0 0, .slice none 0 0] ∧ Below w.heap.size w wx
theorem FrCut.of {w W : World} {b : Nat} {nm : ByteArray} {bs : Int} {H : List ByteArray} {tc : List Value} {A : Option Addr} {a : Nat} (hZ : Blk W b 26 [.string ⟨#[]⟩, .int .i64 0, .slice none 0 0, .slice none 0 0]) (hO : OwnS W (w.heap.size + 2) (.slice A H.length a) H) (hK : Blk W w.heap.size 26 tc) (hR : Blk W (w.heap.size + 1) 26 [.string ⟨#[]⟩, .int .i64 0, .slice none 0 0, .slice none 0 0]) (hb : Below w.heap.size w W) (hbb : w.heap.size + 2 ≤ b) :
    FrCut w nm bs H tc (.pointer (some ⟨b, 0, none⟩)) ((((W.setCell ⟨b, 0, none⟩ (.string nm)).setCell ⟨b, 1, none⟩ (.int .i64 bs)).setCell ⟨b, 2, none⟩ (.slice A H.length a)).setCell ⟨b, 3, none⟩ (.slice none 0 0)) := by
  have hn := own_not hO hZ (by decide)
  refine ⟨b, A, a, rfl, hbb, (((hZ.put 0 (.string nm)).put 1 (.int .i64 bs)).put 2 (.slice A H.length a)).put 3 (.slice none 0 0), ?_, ?_, ?_, ?_⟩
  · exact row_off (row_off (row_off (row_off hO (p := ⟨b, 0, none⟩) hn _) (p := ⟨b, 1, none⟩) hn _) (p := ⟨b, 2, none⟩) hn _) (p := ⟨b, 3, none⟩) hn _
  · exact (((hK.far (p := ⟨b, 0, none⟩) (by simp; omega) _).far (p := ⟨b, 1, none⟩) (by simp; omega) _).far (p := ⟨b, 2, none⟩) (by simp; omega) _).far (p := ⟨b, 3, none⟩) (by simp; omega) _
  · exact (((hR.far (p := ⟨b, 0, none⟩) (by simp; omega) _).far (p := ⟨b, 1, none⟩) (by simp; omega) _).far (p := ⟨b, 2, none⟩) (by simp; omega) _).far (p := ⟨b, 3, none⟩) (by simp; omega) _
  · exact (((hb.setCell (p := ⟨b, 0, none⟩) (by simp; omega) _).setCell (p := ⟨b, 1, none⟩) (by simp; omega) _).setCell (p := ⟨b, 2, none⟩) (by simp; omega) _).setCell (p := ⟨b, 3, none⟩) (by simp; omega) _
theorem FrCut.late {w W : World} {nm : ByteArray} {bs : Int} {H : List ByteArray} {tc : List Value} {A : Option Addr} {a : Nat} (hO : OwnS W (w.heap.size + 2) (.slice A H.length a) H) (hK : Blk W w.heap.size 26 tc) (hR : Blk W (w.heap.size + 1) 26 [.string ⟨#[]⟩, .int .i64 0, .slice none 0 0, .slice none 0 0]) (hb : Below w.heap.size w W) (hbb : w.heap.size + 2 ≤ W.heap.size) :
    FrCut w nm bs H tc (.pointer (some ⟨W.heap.size, 0, none⟩)) (W.alloc (.cells #[.string nm, .int .i64 bs, .slice A H.length a, .slice none 0 0] 26)) :=
  ⟨W.heap.size, A, a, rfl, hbb, Blk.fresh W 26 [.string nm, .int .i64 bs, .slice A H.length a, .slice none 0 0], World.ownsRow.alloc hO _, hK.alloc _, hR.alloc _, hb.alloc hb.size _⟩
/-- What freshTopic answers. -/
def FrT (w w' : World) (e : Ending) (t : Tpc) : Prop := ∃ A a B b, e = .returned (topV t.name t.base (.slice A t.held.length a) (.slice B t.groups.length b)) ∧ OwnS w' w.heap.size (.slice A t.held.length a) t.held ∧ OwnG w' w.heap.size (.slice B t.groups.length b) t.groups ∧ Below w.heap.size w w'
theorem own_lift {w : World} {b b' n s : Nat} {e : TypeId} {v : Value} {xs : List Value} (h : w.ownsRow b e s v n xs) (hb : ∀ k, v.ownBlock = some k → b' ≤ k) : w.ownsRow b' e s v n xs := by
  refine ⟨h.1, ?_⟩
  rcases h.2 with h1 | ⟨g, cap, cur, r1, r2, r3⟩
  · exact .inl h1
  · exact .inr ⟨g, cap, cur, r1, hb g (by rw [r1]; rfl), r3⟩
theorem far4 {W : World} {b c i : Nat} {u0 u1 u2 u3 v : Value} (hne : c ≠ b) (h : W.cell? ⟨c, i, none⟩ = some v) : ((((W.setCell ⟨b, 0, none⟩ u0).setCell ⟨b, 1, none⟩ u1).setCell ⟨b, 2, none⟩ u2).setCell ⟨b, 3, none⟩ u3).cell? ⟨c, i, none⟩ = some v :=
  cell_put_far (cell_put_far (cell_put_far (cell_put_far h hne _) hne _) hne _) hne _
theorem gflat_take (G : List Grp) {k : Nat} (h : k < G.length) {gn : ByteArray} {ga : Int} (e : G[k] = ⟨gn, ga⟩) : gflat (G.take (k + 1)) = gflat (G.take k) ++ [.string gn, .int .i64 ga] := by
  rw [List.take_succ_eq_append_getElem h, gflat_append, e]; rfl
set_option maxHeartbeats 8000000 in
theorem freshTopic_any (t : Tpc) (A : Option Addr) (c : Nat) (B : Option Addr) (d : Nat) (w : World) (h0 : t.name.size ≤ 1048576) (h1 : ∀ s ∈ t.held, s.size ≤ 1048576) (h2 : ∀ g ∈ t.groups, g.name.size ≤ 1048576) (hH : t.held.length ≤ 20) (hG : t.groups.length ≤ 4) (hA : Strs w w.heap.size A t.held) (hB : Grs w w.heap.size B t.groups) :
    Calls Try.prog 109 #[topV t.name t.base (.slice A t.held.length c) (.slice B t.groups.length d)] w fun e w' => FrT w w' e t := by
  obtain ⟨nm, bs, H, G⟩ := t
  simp only at h0 h1 h2 hH hG hA hB
  have HA := Lib.hid (fun W (h : Below w.heap.size w W) => hA.on h)
  have HB := Lib.hid (fun W (h : Below w.heap.size w W) => hB.on h)
  have K := (Blk.fresh w 26 [.string nm, .int .i64 bs, .slice A H.length c, .slice B G.length d]).alloc (.cells #[.string ⟨#[]⟩, .int .i64 0, .slice none 0 0, .slice none 0 0] 26)
  have R := Blk.fresh (w.alloc (.cells #[.string nm, .int .i64 bs, .slice A H.length c, .slice B G.length d] 26)) 26 [.string ⟨#[]⟩, .int .i64 0, .slice none 0 0, .slice none 0 0]
  have hb : Below w.heap.size w ((w.alloc (.cells #[.string nm, .int .i64 bs, .slice A H.length c, .slice B G.length d] 26)).alloc (.cells #[.string ⟨#[]⟩, .int .i64 0, .slice none 0 0, .slice none 0 0] 26)) := ((Below.refl _ _).alloc (Nat.le_refl _) _).alloc (by simp) _
  simp only [World.size_alloc] at K R
  replace K : Blk ((w.alloc (.cells #[.string nm, .int .i64 bs, .slice A H.length c, .slice B G.length d] 26)).alloc (.cells #[.string ⟨#[]⟩, .int .i64 0, .slice none 0 0, .slice none 0 0] 26)) w.heap.size 26 [.string nm, .int .i64 bs, .slice A H.length c, .slice B G.length d] := K
  replace R : Blk ((w.alloc (.cells #[.string nm, .int .i64 bs, .slice A H.length c, .slice B G.length d] 26)).alloc (.cells #[.string ⟨#[]⟩, .int .i64 0, .slice none 0 0, .slice none 0 0] 26)) (w.heap.size + 1) 26 [.string ⟨#[]⟩, .int .i64 0, .slice none 0 0, .slice none 0 0] := R
  go_enter Try.func109, Try.ntmps109
  go_upto_region 1 with (fail)
  generalize (w.alloc (.cells #[.string nm, .int .i64 bs, .slice A H.length c, .slice B G.length d] 26)).alloc (.cells #[.string ⟨#[]⟩, .int .i64 0, .slice none 0 0, .slice none 0 0] 26) = v0 at K R hb ⊢
  have CL := Lib.hid (fun W => clone_any nm W h0)
  have FX := Lib.hid (fun W (h : Below v0.heap.size v0 W) => freshTexts_any A H c W (HA.out _ (hb.trans (h.mono hb.size))) (by omega) h1)
  go_cut [3] (fun y wx => FrCut w nm bs H [.string nm, .int .i64 bs, .slice A H.length c, .slice B G.length d] y wx)
  case first =>
    have x0 : v0.drew.cell? ⟨w.heap.size, 0, none⟩ = some (.string nm) := K.drew.cell (i := 0) rfl
    have x1 : v0.drew.cell? ⟨w.heap.size, 1, none⟩ = some (.int .i64 bs) := K.drew.cell (i := 1) rfl
    have x2 : v0.drew.cell? ⟨w.heap.size, 2, none⟩ = some (.slice A H.length c) := K.drew.cell (i := 2) rfl
    have al1 := (Below.refl v0.heap.size v0).alloc (Nat.le_refl _) (.cells #[.string ⟨#[]⟩, .int .i64 0, .slice none 0 0, .slice none 0 0] 26)
    have al0 : Below v0.drew.heap.size v0.drew (v0.alloc (.cells #[.string ⟨#[]⟩, .int .i64 0, .slice none 0 0, .slice none 0 0] 26)).drew := ⟨al1.os, al1.tape, al1.output, al1.size, al1.block⟩
    have l0 := K.lt
    have n0 := Nat.ne_of_lt l0
    have y0 := Blk.fresh v0 26 [.string ⟨#[]⟩, .int .i64 0, .slice none 0 0, .slice none 0 0]
    replace y0 : Blk (v0.alloc (.cells #[.string ⟨#[]⟩, .int .i64 0, .slice none 0 0, .slice none 0 0] 26)).drew v0.heap.size 26 [.string ⟨#[]⟩, .int .i64 0, .slice none 0 0, .slice none 0 0] := y0
    have dr : ∀ W, Below v0.drew.heap.size v0.drew W → Below v0.heap.size v0 W := fun W h => (below_drew (Below.refl _ v0)).trans h
    have DR := Lib.hid dr
    clear al1 dr
    have a0 := kept_cell al0 x0
    have a1 := kept_cell al0 x1
    have a2 := kept_cell al0 x2
    go_region_held3 (fun W => W.cell? ⟨w.heap.size, 0, none⟩ = some (.string nm) ∧ W.cell? ⟨w.heap.size, 1, none⟩ = some (.int .i64 bs) ∧ W.cell? ⟨w.heap.size, 2, none⟩ = some (.slice A H.length c))
      (first
        | with_reducible exact ⟨x0, x1, x2⟩
        | with_reducible exact ⟨a0, a1, a2⟩
        | with_reducible exact ⟨c0, c1, c2⟩
        | with_reducible exact ⟨d0, d1, d2⟩
        | with_reducible exact ⟨e0, e1, e2⟩
        | with_reducible exact ⟨f0, f1, f2⟩
        | with_reducible exact ⟨g0, g1, g2⟩
        | ((with_reducible refine ⟨far4 ?_ ?_, far4 ?_ ?_, far4 ?_ ?_⟩) <;> with_reducible assumption))
      (first
        | (go_at_call 110; first
          | ((with_reducible refine (CL.out v0.drew).mono ?_); rintro e w1 ⟨rfl, hX⟩; have hsX : v0.heap.size ≤ w1.heap.size := hX.size; have lX : w.heap.size < w1.heap.size := Nat.lt_of_lt_of_le l0 hsX; have nX := Nat.ne_of_lt lX; have c0 := kept_cell hX x0; have c1 := kept_cell hX x1; have c2 := kept_cell hX x2; have hXb := hX.alloc hX.size (.cells #[.string ⟨#[]⟩, .int .i64 0, .slice none 0 0, .slice none 0 0] 26); have d0 := kept_cell hXb x0; have d1 := kept_cell hXb x1; have d2 := kept_cell hXb x2)
          | ((with_reducible refine (CL.out (v0.alloc (.cells #[.string ⟨#[]⟩, .int .i64 0, .slice none 0 0, .slice none 0 0] 26)).drew).mono ?_); rintro e w1 ⟨rfl, hc1⟩; have O := y0.below hc1 y0.lt; have hX := al0.trans (hc1.mono al0.size); have hsX : v0.heap.size ≤ w1.heap.size := hX.size; have lX : w.heap.size < w1.heap.size := Nat.lt_of_lt_of_le l0 hsX; have nX := Nat.ne_of_lt lX; have c0 := kept_cell hX x0; have c1 := kept_cell hX x1; have c2 := kept_cell hX x2))
        | (go_at_call 116; first
          | ((with_reducible refine (FX.out w1 (DR.out _ hX)).mono ?_); rintro e w2 ⟨A2, a2, rfl, oS, hc2⟩; have hY := hX.trans (hc2.mono hX.size); have lY := Nat.lt_of_lt_of_le lX hc2.size; have nY := Nat.ne_of_lt lY; have e0 := kept_cell hY x0; have e1 := kept_cell hY x1; have e2 := kept_cell hY x2; have hYa := hY.alloc hY.size (.cells #[.string ⟨#[]⟩, .int .i64 0, .slice none 0 0, .slice none 0 0] 26); have f0 := kept_cell hYa x0; have f1 := kept_cell hYa x1; have f2 := kept_cell hYa x2; have hYg := hY.alloc hY.size (.cells #[.string nm, .int .i64 bs, .slice A2 H.length a2, .slice none 0 0] 26); have g0 := kept_cell hYg x0; have g1 := kept_cell hYg x1; have g2 := kept_cell hYg x2; try (replace O := O.below hc2 O.lt; have u0 := O.cell (i := 0) rfl; have z0 := O.froz 0; have u1 := O.cell (i := 1) rfl; have z1 := O.froz 1; have u2 := O.cell (i := 2) rfl; have z2 := O.froz 2; have u3 := O.cell (i := 3) rfl; have z3 := O.froz 3))
          | ((with_reducible refine (FX.out (w1.alloc (.cells #[.string ⟨#[]⟩, .int .i64 0, .slice none 0 0, .slice none 0 0] 26)) (DR.out _ (hX.alloc hX.size (.cells #[.string ⟨#[]⟩, .int .i64 0, .slice none 0 0, .slice none 0 0] 26)))).mono ?_); rintro e w2 ⟨A2, a2, rfl, oS, hc2⟩; have hXa := hX.alloc hX.size (.cells #[.string ⟨#[]⟩, .int .i64 0, .slice none 0 0, .slice none 0 0] 26); have hY := hXa.trans (hc2.mono hXa.size); have lXa : w.heap.size < (w1.alloc (.cells #[.string ⟨#[]⟩, .int .i64 0, .slice none 0 0, .slice none 0 0] 26)).heap.size := (by rw [World.size_alloc]; exact Nat.lt_succ_of_lt lX); have lY := Nat.lt_of_lt_of_le lXa hc2.size; have nY := Nat.ne_of_lt lY; have e0 := kept_cell hY x0; have e1 := kept_cell hY x1; have e2 := kept_cell hY x2; have O := (Blk.fresh w1 26 [.string ⟨#[]⟩, .int .i64 0, .slice none 0 0, .slice none 0 0]).below hc2 (by simp); have u0 := O.cell (i := 0) rfl; have z0 := O.froz 0; have u1 := O.cell (i := 1) rfl; have z1 := O.froz 1; have u2 := O.cell (i := 2) rfl; have z2 := O.froz 2; have u3 := O.cell (i := 3) rfl; have z3 := O.froz 3)))
    all_goals
      go_wp2_with (fail)
      have hyy := DR.out _ hY
      have hy2 := hb.trans (hyy.mono hb.size)
      have lz : w.heap.size + 2 ≤ v0.heap.size := R.lt
      have l1 : w.heap.size + 2 ≤ w1.heap.size := Nat.le_trans lz hsX
      have l2 : w.heap.size + 2 ≤ w2.heap.size := Nat.le_trans lz hyy.size
      have oS2 : OwnS w2 (w.heap.size + 2) (.slice A2 H.length a2) H := own_lift oS fun k hk => Nat.le_trans l1 (Nat.le_trans (by first | exact Nat.le_refl _ | (rw [World.size_alloc]; exact Nat.le_succ _)) (oS.lt k hk).1)
      have K2 := K.below hyy K.lt
      have R2 := R.below hyy R.lt
      go_meet
      case rel => first
        | with_reducible exact FrCut.late oS2 K2 R2 hy2 l2
        | with_reducible exact FrCut.of O oS2 K2 R2 hy2 lz
        | with_reducible exact FrCut.of O oS2 K2 R2 hy2 l1
  case rest =>
    obtain ⟨b, A2, a2, rfl, hbb, O, oS, K1, R1, hb1⟩ := hcut
    clear K R hb
    have k3 := K1.cell (i := 3) rfl
    go_wp2_with (fail)
    clear k3
    go_loopw [5, 18] (fun _ i wr => ∃ (k : Nat) (E : Option Addr) (e : Nat), k ≤ G.length ∧ i = .int .i64 k ∧ Blk wr b 26 [.string nm, .int .i64 bs, .slice A2 H.length a2, .slice E k e] ∧ OwnS wr (w.heap.size + 2) (.slice A2 H.length a2) H ∧ wr.ownsRow (w.heap.size + 2) 94 2 (.slice E k e) k (gflat (G.take k)) ∧ Blk wr (w.heap.size + 1) 26 [.string ⟨#[]⟩, .int .i64 0, .slice none 0 0, .slice none 0 0] ∧ Below w.heap.size w wr) (fun _ i _ => G.length - (intOf i).toNat)
    case atStart => exact ⟨0, none, 0, by omega, rfl, O, oS, World.ownsRow_nil _ _ _ _, R1, hb1⟩
    case round =>
      obtain ⟨k, E, e, hk, rfl, O, oS, oG, R, hb⟩ := hrel
      clear hb1 R1 K1
      by_cases hlt : k < G.length
      rotate_left
      · obtain rfl : k = G.length := by omega
        rw [List.take_of_length_le (Nat.le_refl _)] at oG
        have o0 := O.cell (i := 0) rfl
        have o1 := O.cell (i := 1) rfl
        have o2 := O.cell (i := 2) rfl
        have o3 := O.cell (i := 3) rfl
        have r0 := R.cell (i := 0) rfl
        have r1 := R.cell (i := 1) rfl
        have r2 := R.cell (i := 2) rfl
        have r3 := R.cell (i := 3) rfl
        have f0 := R.froz 0
        have f1 := R.froz 1
        have f2 := R.froz 2
        have f3 := R.froz 3
        go_wp2
        clear o0 o1 o2 o3 r0 r1 r2 r3 f0 f1 f2 f3
        have R9 := (((R.put 0 (.string nm)).put 1 (.int .i64 bs)).put 2 (.slice A2 H.length a2)).put 3 (.slice E G.length e)
        have hm : ∀ k : Nat, w.heap.size + 2 ≤ k → k ≠ w.heap.size + 1 := fun k h => by omega
        have oS9 := row_far (row_far (row_far (row_far oS (p := ⟨w.heap.size + 1, 0, none⟩) (by simp) (.string nm)) (p := ⟨w.heap.size + 1, 1, none⟩) (by simp) (.int .i64 bs)) (p := ⟨w.heap.size + 1, 2, none⟩) (by simp) (.slice A2 H.length a2)) (p := ⟨w.heap.size + 1, 3, none⟩) (by simp) (.slice E G.length e)
        have oG9 := row_far (row_far (row_far (row_far oG (p := ⟨w.heap.size + 1, 0, none⟩) (by simp) (.string nm)) (p := ⟨w.heap.size + 1, 1, none⟩) (by simp) (.int .i64 bs)) (p := ⟨w.heap.size + 1, 2, none⟩) (by simp) (.slice A2 H.length a2)) (p := ⟨w.heap.size + 1, 3, none⟩) (by simp) (.slice E G.length e)
        have hb9 := (((hb.setCell (p := ⟨w.heap.size + 1, 0, none⟩) (by simp) (.string nm)).setCell (p := ⟨w.heap.size + 1, 1, none⟩) (by simp) (.int .i64 bs)).setCell (p := ⟨w.heap.size + 1, 2, none⟩) (by simp) (.slice A2 H.length a2)).setCell (p := ⟨w.heap.size + 1, 3, none⟩) (by simp) (.slice E G.length e)
        simp only [List.set_cons_succ, List.set_cons_zero] at R9
        generalize (((wr.setCell ⟨w.heap.size + 1, 0, none⟩ (.string nm)).setCell ⟨w.heap.size + 1, 1, none⟩ (.int .i64 bs)).setCell ⟨w.heap.size + 1, 2, none⟩ (.slice A2 H.length a2)).setCell ⟨w.heap.size + 1, 3, none⟩ (.slice E G.length e) = w9 at R9 oS9 oG9 hb9 ⊢
        have r0 := R9.cell (i := 0) rfl
        have r1 := R9.cell (i := 1) rfl
        have r2 := R9.cell (i := 2) rfl
        have r3 := R9.cell (i := 3) rfl
        exact bodyPost_ret (v := topV nm bs (.slice A2 H.length a2) (.slice E G.length e)) (by simp [results, Try.results109, go_sem, r0, r1, r2, r3]) rfl ⟨A2, a2, E, e, rfl, own_base oS9 (Nat.le_add_right _ _), own_base oG9 (Nat.le_add_right _ _), hb9⟩
      have hlt' : (k : Int) < (G.length : Int) := by omega
      obtain ⟨a, rfl, hab, c0, c1⟩ := (HB.out _ hb).at k hlt
      obtain ⟨gn, ga, he⟩ : ∃ gn ga, G[k] = ⟨gn, ga⟩ := ⟨_, _, rfl⟩
      have HE := Lib.hid he
      have hgs : gn.size ≤ 1048576 := by have := h2 _ (List.getElem_mem hlt); rw [he] at this; exact this
      rw [he] at c0 c1
      have hgt := gflat_take G hlt he
      have HGT := Lib.hid hgt
      clear he hgt
      have CG := Lib.hid (fun W => clone_any gn W hgs)
      have J := Blk.fresh wr 94 [.string gn, .int .i64 ga]
      have O3 := O.alloc (.cells #[.string gn, .int .i64 ga] 94)
      have R3 := R.alloc (.cells #[.string gn, .int .i64 ga] 94)
      have hb3 := hb.alloc hb.size (.cells #[.string gn, .int .i64 ga] 94)
      have oS3 : OwnS _ (w.heap.size + 2) _ H := World.ownsRow.alloc oS (.cells #[.string gn, .int .i64 ga] 94)
      have oG3 := World.ownsRow.alloc oG (.cells #[.string gn, .int .i64 ga] 94)
      replace J : Blk (wr.alloc (.cells #[.string gn, .int .i64 ga] 94)) wr.heap.size 94 [.string gn, .int .i64 ga] := J
      go_upto_region 5 with (fail)
      clear c0 c1
      have ltz := J.lt
      generalize wr.alloc (.cells #[.string gn, .int .i64 ga] 94) = w3 at J O3 R3 hb3 oS3 oG3 ltz ⊢
      clear O R oS oG hb
      obtain ⟨i0, hi, hz0, hz1, hz2⟩ := info_parts infoGrp
      have nO := own_not oG3 O3 (by decide)
      have y3 := O3.drew.cell (i := 3) rfl
      have x0 := J.drew.cell (i := 0) rfl
      have x1 := J.drew.cell (i := 1) rfl
      have Od := O3.drew
      have oGd := oG3.drew
      have lb : w.heap.size + 2 ≤ w3.heap.size := Nat.le_trans R3.lt (Nat.le_refl _)
      have lk : (gflat (G.take k)).length = k * 2 := by rw [gflat_len]; simp; omega
      have LK := Lib.hid lk
      clear lk
      go_region_law
        (first
          | (go_simp; go_at_call 110; (with_reducible refine (CG.out _).mono ?_); rintro e w4 ⟨rfl, hb4⟩; have y4 := kept_cell hb4 y3; have x04 := kept_cell hb4 x0; have x14 := kept_cell hb4 x1; have y4a := kept_cell (show Below w4.heap.size w4 (w4.alloc (.cells #[.string gn, .int .i64 ga] 94)) from (Below.refl _ _).alloc (Nat.le_refl _) _) y4)
          | (refine step_append_lies _ (by rfl) _ _ _ (by rfl) (w.heap.size + 2) 94 i0 _ 2 24 Try.underlying24 hi hz0 hz1 hz2 rfl (by omega) (.slice E k e) k _ (by rfl) (World.ownsRow.alloc (row_below oGd hb4 (Nat.le_refl _)) _)
                  ⟨w4.heap.size, 0, none⟩ 1 1 [.string gn, .int .i64 ga] (by rfl) (by rfl) (World.news_of_block (cs := #[.string gn, .int .i64 ga]) (t := 94) (fr := (0, 0)) (heap_alloc_new w4 _)) (by simp [Value.oneCell'])
                  (by omega) (by unfold maxLen; omega) (by omega) (by have h := hb4.size; simp only [World.size_drew, World.size_alloc] at h ⊢; omega) (w4.heap.size + 1) (by simp) ?_; intro gg cap' w5 hown5 hgrow5 hat5 hlt5; have q4 : Below w4.heap.size w4 (w4.alloc (.cells #[.string gn, .int .i64 ga] 94)) := (Below.refl _ _).alloc (Nat.le_refl _) _; have O5 := ((Od.below hb4 Od.lt).below q4 (Od.below hb4 Od.lt).lt).grown hgrow5 (Ne.symm nO); have y5 := O5.cell (i := 3) rfl; have f5 := O5.froz 3))
      all_goals
        have hb4' : Below w3.heap.size w3 w4 := (below_drew (Below.refl _ w3)).trans hb4
        have hw4 := hb3.trans (hb4'.mono hb3.size)
        have hw5 := hw4.alloc hw4.size (.cells #[.string gn, .int .i64 ga] 94)
        have hb5 := below_row hw5 (Nat.le_refl _) hgrow5 (fun k e => by have := (oG3.lt _ e).1; omega)
        have R5 := ((R3.below hb4' R3.lt).alloc (.cells #[.string gn, .int .i64 ga] 94)).grown hgrow5 (fun e => by have := (oG3.lt _ e.symm).1; omega)
        have S4 := World.ownsRow.alloc (row_below oS3 hb4' (Nat.le_refl _)) (.cells #[.string gn, .int .i64 ga] 94)
        have S5 := World.ownsRow.kept S4 hgrow5 (own_apart S4 (World.ownsRow.alloc (row_below oG3 hb4' (Nat.le_refl _)) (.cells #[.string gn, .int .i64 ga] 94)) (by decide))
        have P6 := O5.put 3 (.slice (some ⟨gg, 0, none⟩) (k + 1) cap')
        have R6 := R5.far (p := ⟨b, 3, none⟩) (by simp; omega) (.slice (some ⟨gg, 0, none⟩) (k + 1) cap')
        have S6 := row_off S5 (p := ⟨b, 3, none⟩) (own_not S5 O5 (by decide)) (.slice (some ⟨gg, 0, none⟩) (k + 1) cap')
        have o6 := row_off hown5 (p := ⟨b, 3, none⟩) (own_not hown5 O5 (by decide)) (.slice (some ⟨gg, 0, none⟩) (k + 1) cap')
        have hb6 := hb5.setCell (p := ⟨b, 3, none⟩) (by simp; omega) (.slice (some ⟨gg, 0, none⟩) (k + 1) cap')
        simp only [List.set_cons_succ, List.set_cons_zero] at P6
        rw [← HGT.out] at o6
        clear y3 x0 x1 y4 x04 x14 y4a y5 f5
        go_wp2
        exact ⟨⟨k + 1, _, cap', by omega, by go_num, P6, S6, o6, R6, hb6⟩, by simp [intOf]; omega⟩
end Go.Proofs.Ytjnbhppnchmeoaa
