/- The contract of impl.freshTexts. The method fetch of topicWork. Strings compared, as a walk spells it. The place of a group: plain mathematics. -/
import Derived.Test.YtodnmbppgjbpmaaIs3W
import Derived.Test.YtodnmbppgjbpmaaTpOpMW
import Derived.BigRegion
import Derived.Test.YtodnmbppgjbpmaaDrawW
import Derived.Test.YtodnmbppgjbpmaaTpWkW
import Derived.Lib.Bytealg
namespace Go.Proofs.Ytodnmbppgjbpmaa
open Go.RowKit
set_option linter.unusedVariables false
set_option maxRecDepth 1000000
set_option maxHeartbeats 2000000 in
theorem freshTexts_any (A : Option Addr) (L : List ByteArray) (c : Nat) (w : World) (hA : Strs w w.heap.size A L) (hn : L.length ≤ 100000) (hs : ∀ s ∈ L, s.size ≤ 1048576) :
    Calls Try.prog 84 #[.slice A L.length c] w fun e w' => ∃ B d, e = .returned (.slice B L.length d) ∧ OwnS w' w.heap.size (.slice B L.length d) L ∧ Below w.heap.size w w' := by
  obtain ⟨i0, hi, hz0, hz1, hz2⟩ := info_parts infoStr
  have HA := Lib.hid (fun W (h : Below w.heap.size w W) => hA.on h)
  go_enter Try.func84, Try.ntmps84
  go_wp2
  go_loopw [3, 5, 8] (fun v _ i wr => ∃ k : Nat, k ≤ L.length ∧ i = .int .i64 k ∧ OwnS wr w.heap.size v (L.take k) ∧ Below w.heap.size w wr) (fun _ _ i _ => L.length - (intOf i).toNat)
  case atStart => exact ⟨0, by omega, rfl, World.ownsRow_nil _ _ _ _, Below.refl _ _⟩
  case round =>
    obtain ⟨k, hk, rfl, hO, hb⟩ := hrel
    by_cases hlt : k < L.length
    · have hlt' : (k : Int) < (L.length : Int) := by omega
      obtain ⟨a, rfl, hab, c0⟩ := (HA.out _ hb).2 k hlt
      have hss := hs _ (List.getElem_mem hlt)
      go_wp2_with (fail)
      refine (clone_any L[k] _ hss).mono ?_
      rintro e w1 ⟨rfl, hb1⟩
      have hO1 := row_below hO hb1 (Nat.le_refl _)
      have hb01 := hb.trans (hb1.mono hb.size)
      clear c0
      go_wp2_with (at_builtin; refine wpList_append_own _ rfl _ _ 29 rfl w.heap.size 9 i0 (.string ⟨#[]⟩) 1 16 Try.underlying29 hi hz0 hz1 hz2 rfl (by decide) _ _ _ rfl (World.ownsRow.alloc hO1 _) ⟨w1.heap.size, 0, none⟩ 1 1 [.string L[k]] rfl rfl (one_cell _ _ _) (one_str _) (by simp [maxLen]; omega) (by simp; omega) (by have := hb01.size; simp; omega) ?_)
      intro v' w2 hO2 hg2 _
      have hb2 := below_apps hb01 (Nat.le_refl _) hO1 (Nat.le_refl _) hg2
      have hO3 : OwnS w2 w.heap.size v' (L.take (k + 1)) := by
        unfold OwnS
        have e1 : (L.take (k + 1)).length = k + 1 := by simp; omega
        have e2 : (L.take (k + 1)).map Value.string = (L.map Value.string).take k ++ [.string L[k]] := by rw [List.take_succ_eq_append_getElem hlt, List.map_append, List.map_take]; rfl
        rw [e1, e2]
        exact hO2
      clear hO2
      go_wp2
      exact ⟨⟨k + 1, by omega, by go_num, hO3, hb2⟩, by simp [intOf]; omega⟩
    · obtain rfl : k = L.length := by omega
      rw [List.take_of_length_le (Nat.le_refl _)] at hO
      obtain ⟨B, d, rfl⟩ := ownS_some hO
      go_wp2
      go_ret
      exact ⟨B, d, rfl, hO, hb⟩
end Go.Proofs.Ytodnmbppgjbpmaa

namespace Go.Proofs.Ytodnmbppgjbpmaa
open Go.RowKit Go.Deep
set_option linter.unusedVariables false
set_option maxRecDepth 1000000
/-- What a group fetches. -/
def fetchA (t : Tpc) (k : Nat) (n : Int) : Ans :=
  ⟨t, (t.held.drop ((t.groups.getD k zeroGrp).acked - t.base).toNat).take n.toNat, (t.groups.getD k zeroGrp).acked, 0⟩
theorem strs_takeN {w : World} {B : Nat} {A : Option Addr} {L : List ByteArray} (h : Strs w B A L) (q : Nat) : Strs w B A (L.take q) := by
  refine ⟨Nat.le_trans (by simp; omega) h.1, fun i hi => ?_⟩
  simp at hi
  obtain ⟨a, e, h1, h2⟩ := h.2 i (by omega)
  exact ⟨a, e, h1, by simpa using h2⟩
set_option maxHeartbeats 8000000 in
theorem fetch_any (t : Tpc) (s : ByteArray) (n : Int) (lo p bg k : Nat) (A : Option Addr) (a b : Nat) (w : World) (h : Wk w lo p t s n A a (some ⟨bg, 0, none⟩) b) (hl : lo ≤ p) (hH : t.held.length ≤ 20) (hs : ∀ x ∈ t.held, x.size ≤ 1048576) (h0 : 0 ≤ t.base) (h1 : t.base + t.held.length ≤ 1000000000) (hk : k < t.groups.length) (hn0 : 0 ≤ n) (hn1 : n ≤ 20)
    (hk1 : t.base ≤ t.groups[k].acked) (hk2 : t.groups[k].acked ≤ t.base + t.held.length) :
    Calls Try.prog 66 #[.pointer (some ⟨p, 0, none⟩), .pointer (some ⟨bg, k * 2, none⟩)] w (OpPost lo p s n (fetchA t k n) w) := by
  have hlow : lo ≤ w.heap.size := Nat.le_trans hl (Nat.le_of_lt h.blk.lt)
  obtain ⟨P, oS, oG⟩ := h
  obtain ⟨ak0, ak1, af0, af1⟩ := row_grp oG hk
  obtain ⟨ak, HAK⟩ : ∃ x, Hid (t.groups[k].acked = x) := ⟨_, Lib.hid rfl⟩
  rw [HAK.out] at ak1 hk1 hk2
  obtain ⟨m, HM⟩ : ∃ m : Nat, Hid ((ak - t.base).toNat = m) := ⟨_, Lib.hid rfl⟩
  have hm : ak = t.base + m := by have := HM.out; omega
  have hml : m ≤ t.held.length := by omega
  have eR : Hid (fetchA t k n = ⟨t, (t.held.drop m).take n.toNat, t.base + m, 0⟩) := Lib.hid (by
    unfold fetchA
    have e : t.groups.getD k zeroGrp = t.groups[k] := by rw [List.getD_eq_getElem?_getD, List.getElem?_eq_getElem hk]; rfl
    rw [e, HAK.out, HM.out, hm])
  rw [eR.out]
  subst hm
  obtain ⟨nm, bs, H, G⟩ := t
  simp only at P oS oG hH hs h0 h1 hk hml ak1 ⊢
  have cS := Cap.own oS
  have cG := Cap.own oG
  have SA := (OwnS.strs (n := H.length) oS).2
  have hcl := cS.le
  have hcm := cS.max
  unfold maxLen at hcm
  have nP : p ≠ bg := fun e => own_not oG P (by decide) (by rw [e]; rfl)
  have y1 : w.drew.cell? ⟨p, 1, none⟩ = _ := P.drew.cell (i := 1) rfl
  have y2 : w.drew.cell? ⟨p, 2, none⟩ = _ := P.drew.cell (i := 2) rfl
  have yk : w.drew.cell? ⟨bg, k * 2 + 1, none⟩ = some (.int .i64 (bs + m)) := ak1
  have hsub : IntKind.i64.wrap (bs + (m : Int) - bs) = (m : Int) := by rw [IntWalk.i64_in _ (by omega)]; omega
  have hm0 : (0 : Int) ≤ (m : Int) := by omega
  have hm1 : (m : Int) ≤ (H.length : Int) := by omega
  have htn : ((m : Int)).toNat = m := by omega
  obtain ⟨I, fw, hI, g0, h6, gc, ge⟩ := class_grown w
  have x1 := fun q => kept_cell (h6 q) (P.cell (i := 1) rfl)
  have x2 := fun q => kept_cell (h6 q) (P.cell (i := 2) rfl)
  have xk := fun q => kept_cell (h6 q) ak1
  have GE := Lib.hid ge
  clear h6 gc ge
  obtain ⟨TX, HTX⟩ : ∃ X, Hid ((H.drop m).take n.toNat = X) := ⟨_, Lib.hid rfl⟩
  rw [HTX.out]
  go_enter Try.func66, Try.ntmps66
  go_wp2_with (fail)
  refine wp_region_kept fw (by kernel_rfl) (by kernel_rfl) g0 ?_
  repeat (first
    | go_big_quiet_skip
    | (go_big_quiet_want; go_big_quiet_op; go_big_quiet_on))
  refine wpQuiet_nil ?_
  intro w2 h2
  have hb2 := GE.out _ h2
  have P2 := P.below hb2 P.lt
  have S2 : OwnS w2 lo (.slice A H.length a) H := row_below oS hb2 (Nat.le_refl _)
  have G2 : OwnG w2 lo (.slice (some ⟨bg, 0, none⟩) G.length b) G := row_below oG hb2 (Nat.le_refl _)
  have ak2 := kept_cell hb2 ak1
  have SB := (strs_drop SA hml hcl).mono (Nat.le_refl _)
  have SB2 := SB.on hb2
  have hb02 : Below lo w w2 := hb2.mono hlow
  have KQ := Lib.hid (fun g cs (_ : g ≠ p) (h : Blk w g 36 cs) => h.below hb2 h.lt)
  clear SB h2 g0 x1 x2 xk GE y1 y2 yk hsub hm0 hm1 htn ak0 ak1 af0 af1
  obtain ⟨L, HL⟩ : ∃ L, Hid (H.drop m = L) := ⟨_, Lib.hid rfl⟩
  have hLl : H.length - m = L.length := by rw [← HL.out, List.length_drop]
  have hLs : ∀ x ∈ L, x.size ≤ 1048576 := fun x hx => hs x (List.mem_of_mem_drop (by rw [HL.out]; exact hx))
  have hcl2 : L.length ≤ a - m := by omega
  have hcm2 : a - m ≤ 9223372036854775807 := by omega
  rw [HL.out] at SB2
  rw [hLl]
  have hL20 : L.length ≤ 20 := by omega
  have hHm := hH
  generalize (if a = m then A else Option.map (fun x => x.add m) A) = A' at SB2 ⊢
  generalize a - m = c' at hcl2 hcm2 ⊢
  obtain ⟨N, rfl⟩ : ∃ N : Nat, n = (N : Int) := ⟨n.toNat, by omega⟩
  obtain ⟨q, hq, hqe⟩ : ∃ q : Nat, q ≤ L.length ∧ L.take N = L.take q ∧ ((N < L.length ∧ q = N) ∨ (N = L.length ∧ q = N) ∨ (L.length < N ∧ q = L.length)) := by
    rcases Nat.lt_trichotomy N L.length with h | h | h
    · exact ⟨N, by omega, rfl, .inl ⟨h, rfl⟩⟩
    · exact ⟨N, by omega, rfl, .inr (.inl ⟨h, rfl⟩)⟩
    · exact ⟨L.length, Nat.le_refl _, by rw [List.take_of_length_le (by omega), List.take_of_length_le (Nat.le_refl _)], .inr (.inr ⟨h, rfl⟩)⟩
  have eN : ((N : Int)).toNat = N := by omega
  have FX := fun W (hw : Below w2.heap.size w2 W) => freshTexts_any A' (L.take q) c' W (strs_takeN (SB2.on hw) q) (by simp; omega) (fun x hx => hLs x (List.mem_of_mem_take hx))
  have hql : (L.take q).length = q := by simp; omega
  rw [hql] at FX
  have FXh := Lib.hid FX
  clear FX SB2
  obtain ⟨QT, HQT⟩ : ∃ Q, Hid (L.take q = Q) := ⟨_, Lib.hid rfl⟩
  rw [HQT.out] at FXh hql
  have HTQ : Hid (TX = QT) := Lib.hid (by rw [← HTX.out, HL.out, eN, hqe.1, HQT.out])
  clear eN HTX
  have q5 := P2.cell (i := 5) rfl
  have HQL := Lib.hid hql
  clear hql hLl
  have hl2 : lo ≤ w2.heap.size := Nat.le_trans hlow hb02.size
  have hlw := hb02.size
  have FIN := Lib.hid (show ∀ q T x w3, QT.length = q → Below w2.heap.size w2 w3 → OwnS w3 w2.heap.size (.slice T q x) QT → OpPost lo p s N ⟨⟨nm, bs, H, G⟩, QT, bs + m, 0⟩ w (.returned (.int .i64 0)) ((w3.setCell ⟨p, 6, none⟩ (.slice T q x)).setCell ⟨p, 7, none⟩ (.int .i64 (bs + m))) from fun q T x w3 hql hb3 oT => by
    have P3 := P2.below hb3 P2.lt
    have S3 : OwnS w3 lo (.slice A H.length a) H := row_below S2 hb3 (Nat.le_refl _)
    have G3 : OwnG w3 lo (.slice (some ⟨bg, 0, none⟩) G.length b) G := row_below G2 hb3 (Nat.le_refl _)
    have hb03 := hb02.trans (hb3.mono hl2)
    have hap : Apart A T := fun x1 y1 e1 e2 => by
      have i1 := (S2.lt x1.block (by rw [e1]; rfl)).2
      have i2 := (oT.lt y1.block (by rw [e2]; rfl)).1
      omega
    have P4 := (P3.put 6 (.slice T q x)).put 7 (.int .i64 (bs + m))
    have hb4 := (hb03.setCell (p := ⟨p, 6, none⟩) hl (.slice T q x)).setCell (p := ⟨p, 7, none⟩) hl (.int .i64 (bs + m))
    have S4 := row_off (row_off S3 (p := ⟨p, 6, none⟩) (own_not S3 P3 (by decide)) (.slice T q x)) (p := ⟨p, 7, none⟩) (own_not S3 P3 (by decide)) (.int .i64 (bs + m))
    have G4 := row_off (row_off G3 (p := ⟨p, 6, none⟩) (own_not G3 P3 (by decide)) (.slice T q x)) (p := ⟨p, 7, none⟩) (own_not G3 P3 (by decide)) (.int .i64 (bs + m))
    have T4 := row_off (row_off oT (p := ⟨p, 6, none⟩) (own_not oT P3 (by decide)) (.slice T q x)) (p := ⟨p, 7, none⟩) (own_not oT P3 (by decide)) (.int .i64 (bs + m))
    simp only [List.set_cons_succ, List.set_cons_zero] at P4
    refine ⟨hb4, fun g cs hg h => (((KQ.out g cs hg h).below hb3 (KQ.out g cs hg h).lt).far (p := ⟨p, 6, none⟩) hg _).far (p := ⟨p, 7, none⟩) hg _, rfl, .inr ⟨rfl, A, a, some ⟨bg, 0, none⟩, b, T, x, ?_, Sl.of_own S4 rfl, Sl.of_own G4 rfl, (Sl.of_own T4 rfl).wide hl2 (Nat.le_refl _), hap, cS, cG⟩⟩
    simp only [hql]
    exact P4)
  rcases hqe.2 with ⟨h3, rfl⟩ | ⟨rfl, rfl⟩ | ⟨h3, rfl⟩
  all_goals
    clear hqe
    go_wp2_with (fail)
    with_reducible refine (FXh.out _ (Below.refl _ _)).mono ?_
    rintro e w3 ⟨T, x, rfl, oT, hb3⟩
    have P3 := P2.below hb3 P2.lt
    have ak3 := kept_cell hb3 ak2
    have q6 := P3.cell (i := 6) rfl
    have f6 := P3.froz 6
    have q7 := P3.cell (i := 7) rfl
    have f7 := P3.froz 7
    have ak4 := fun v => cell_put_far ak3 (p := ⟨p, 6, none⟩) (Ne.symm nP) v
    go_wp2
    go_ret
    have h := FIN.out _ _ _ _ HQL.out hb3 oT
    rw [← HTQ.out] at h
    exact h
end Go.Proofs.Ytodnmbppgjbpmaa

namespace Go.Proofs.Ytodnmbppgjbpmaa
open Go.RowKit
set_option linter.unusedVariables false

theorem str_beq_t {a b : ByteArray} (h : a = b) : (a.toList == b.toList) = true := by rw [h]; simp
theorem str_beq_f {a b : ByteArray} (h : ¬ a = b) : (a.toList == b.toList) = false := by
  rw [beq_eq_false_iff_ne]; intro e; rw [Lib.toList_data, Lib.toList_data] at e; exact h (ByteArray.ext (Array.toList_inj.1 e))
theorem str_bne_f {a b : ByteArray} (h : a = b) : (a.toList != b.toList) = false := by rw [bne, str_beq_t h]; rfl
theorem str_bne_t {a b : ByteArray} (h : ¬ a = b) : (a.toList != b.toList) = true := by rw [bne, str_beq_f h]; rfl
end Go.Proofs.Ytodnmbppgjbpmaa

namespace Go.Proofs.Ytodnmbppgjbpmaa
open Go.RowKit
set_option linter.unusedVariables false

theorem gless_iff : ∀ x y : List UInt8, Op.bytesLess x y = true ↔ x < y
  | [], [] => by simp [Op.bytesLess]
  | [], _ :: _ => by simp [Op.bytesLess]
  | _ :: _, [] => by simp [Op.bytesLess]
  | a :: x, b :: y => by
    rw [Op.bytesLess, List.cons_lt_cons_iff]
    have := gless_iff x y
    simp only [Bool.or_eq_true, decide_eq_true_eq, Bool.and_eq_true, beq_iff_eq, this]
theorem lessG_iff (a b : ByteArray) : lessB a b = true ↔ a.data.toList < b.data.toList := by
  unfold lessB; rw [gless_iff, Lib.toList_data, Lib.toList_data]
theorem lessG_trans {a b c : ByteArray} (h1 : lessB a b = true) (h2 : lessB b c = true) : lessB a c = true := by
  rw [lessG_iff] at *; exact List.lt_trans h1 h2
theorem lessG_irrefl (a : ByteArray) : lessB a a = false := by
  cases h : lessB a a
  · rfl
  · rw [lessG_iff] at h; exact absurd h (List.lt_irrefl _)
theorem u8_tri {a b : UInt8} (h1 : ¬ a < b) (h2 : ¬ b < a) : a = b := by
  rw [UInt8.lt_iff_toNat_lt] at h1 h2
  exact UInt8.toNat_inj.1 (by omega)
theorem comp_neg : ∀ x y : List UInt8, Lib.compareBytes x y < 0 ↔ x < y
  | [], [] => by simp [Lib.compareBytes]
  | [], _ :: _ => by simp [Lib.compareBytes]
  | _ :: _, [] => by simp [Lib.compareBytes]
  | a :: x, b :: y => by
    unfold Lib.compareBytes
    rw [List.cons_lt_cons_iff]
    have ih := comp_neg x y
    by_cases h : a < b
    · simp [h]
    · by_cases h2 : b < a
      · have hne : a ≠ b := by rintro rfl; exact h h2
        simp [h, h2, hne]
      · have e := u8_tri h h2
        subst e
        simp [h, ih]
theorem comp_zero : ∀ x y : List UInt8, Lib.compareBytes x y = 0 ↔ x = y
  | [], [] => by simp [Lib.compareBytes]
  | [], _ :: _ => by simp [Lib.compareBytes]
  | _ :: _, [] => by simp [Lib.compareBytes]
  | a :: x, b :: y => by
    unfold Lib.compareBytes
    have ih := comp_zero x y
    by_cases h : a < b
    · have hne : a ≠ b := by rintro rfl; exact absurd h (UInt8.lt_irrefl _)
      simp [h, hne]
    · by_cases h2 : b < a
      · have hne : a ≠ b := by rintro rfl; exact h h2
        simp [h, h2, hne]
      · have e := u8_tri h h2
        subst e
        simp [h, ih]
/-- How the program compares two names. -/
def cmpG (a b : ByteArray) : Int := Lib.compareBytes a.data.toList b.data.toList
theorem cmpG_neg (a b : ByteArray) : cmpG a b < 0 ↔ lessB a b = true := by unfold cmpG; rw [comp_neg, lessG_iff]
theorem cmpG_zero (a b : ByteArray) : cmpG a b = 0 ↔ a = b := by
  unfold cmpG; rw [comp_zero]
  exact ⟨fun h => ByteArray.ext (Array.toList_inj.1 h), fun h => by rw [h]⟩
theorem comp_rng : ∀ x y : List UInt8, -1 ≤ Lib.compareBytes x y ∧ Lib.compareBytes x y ≤ 1
  | [], [] => by simp [Lib.compareBytes]
  | [], _ :: _ => by simp [Lib.compareBytes]
  | _ :: _, [] => by simp [Lib.compareBytes]
  | a :: x, b :: y => by
    unfold Lib.compareBytes
    have ih := comp_rng x y
    split
    · simp
    · split
      · simp
      · exact ih
theorem cmpG_rng (a b : ByteArray) : -1 ≤ cmpG a b ∧ cmpG a b ≤ 1 := comp_rng _ _
/-- Groups that rise by name. -/
def RisingG (G : List Grp) : Prop := ∀ i j (hi : i < j) (hj : j < G.length), lessB (G[i]'(by omega)).name G[j].name = true
theorem rising_of {t : Tpc} (h : topOK t) : RisingG t.groups := by
  have step : ∀ i (hi : i + 1 < t.groups.length), lessB (t.groups[i]'(by omega)).name t.groups[i + 1].name = true := fun i hi => (h.2.2.2.2.2.2 (i + 1) hi).2.2 (by omega)
  intro i j hij hj
  induction j with
  | zero => omega
  | succ j ih =>
    by_cases e : i = j
    · subst e; exact step i hj
    · exact lessG_trans (ih (by omega) (by omega)) (step j hj)
/-- Where a group is, or would have to be. -/
def posG : List Grp → ByteArray → Nat
  | [], _ => 0
  | g :: G, s => if lessB g.name s then posG G s + 1 else 0
theorem posG_le : ∀ (G : List Grp) (s : ByteArray), posG G s ≤ G.length
  | [], _ => Nat.le_refl _
  | g :: G, s => by unfold posG; have := posG_le G s; split <;> simp <;> omega
theorem posG_lt : ∀ (G : List Grp) (s : ByteArray) (i : Nat) (h : i < G.length), i < posG G s → lessB G[i].name s = true
  | [], _, i, h, _ => by simp at h
  | g :: G, s, i, h, hi => by
    unfold posG at hi
    split at hi
    · cases i with
      | zero => assumption
      | succ i => exact posG_lt G s i (by simpa using h) (by omega)
    · omega
theorem posG_at : ∀ (G : List Grp) (s : ByteArray) (h : posG G s < G.length), lessB (G[posG G s]).name s = false
  | [], _, h => by simp at h
  | g :: G, s, h => by
    by_cases hl : lessB g.name s = true
    · have e : posG (g :: G) s = posG G s + 1 := by simp [posG, hl]
      simp only [e, List.getElem_cons_succ]
      exact posG_at G s (by rw [e] at h; simpa using h)
    · have e : posG (g :: G) s = 0 := by simp [posG, hl]
      simp only [e, List.getElem_cons_zero]
      simpa using hl
/-- The place is found by halves. -/
theorem posG_iff {G : List Grp} {s : ByteArray} (hr : RisingG G) {i : Nat} (h : i < G.length) : lessB G[i].name s = true ↔ i < posG G s := by
  refine ⟨fun hl => ?_, posG_lt G s i h⟩
  rcases Nat.lt_or_ge i (posG G s) with h1 | h1
  · exact h1
  · have h2 := posG_at G s (by omega)
    rcases Nat.eq_or_lt_of_le h1 with e | h3
    · simp only [e] at h2; rw [hl] at h2; cases h2
    · have := lessG_trans (hr _ _ h3 h) hl
      rw [this] at h2; cases h2
/-- Whether a group is there. -/
noncomputable def isG (G : List Grp) (s : ByteArray) : Bool := @decide (∃ h : posG G s < G.length, (G[posG G s]).name = s) (Classical.propDecidable _)
theorem isG_iff {G : List Grp} {s : ByteArray} : isG G s = true ↔ ∃ h : posG G s < G.length, (G[posG G s]).name = s :=
  ⟨fun h => by unfold isG at h; exact @of_decide_eq_true _ (Classical.propDecidable _) h, fun h => by unfold isG; exact @decide_eq_true _ (Classical.propDecidable _) h⟩
theorem isG_not {G : List Grp} {s : ByteArray} (h : ¬ ∃ h : posG G s < G.length, (G[posG G s]).name = s) : isG G s = false := by
  unfold isG; exact @decide_eq_false _ (Classical.propDecidable _) h
theorem isG_at {G : List Grp} {s : ByteArray} (hr : RisingG G) {i : Nat} (h : i < G.length) (e : G[i].name = s) : i = posG G s ∧ isG G s = true := by
  have hi : ¬ i < posG G s := fun hl => by have := posG_lt G s i h hl; rw [e, lessG_irrefl] at this; cases this
  have hp : ¬ posG G s < i := fun hl => by
    have h2 := hr _ _ hl h
    rw [e] at h2
    rw [posG_at G s (by omega)] at h2; cases h2
  obtain rfl : i = posG G s := by omega
  exact ⟨rfl, isG_iff.2 ⟨h, e⟩⟩
/-- TopicLag. -/
noncomputable def lagT (t : Tpc) (s : ByteArray) : Int :=
  if topB t = false then 0 else if isG t.groups s = false then 0 else t.base + t.held.length - (t.groups.getD (posG t.groups s) zeroGrp).acked
end Go.Proofs.Ytodnmbppgjbpmaa
