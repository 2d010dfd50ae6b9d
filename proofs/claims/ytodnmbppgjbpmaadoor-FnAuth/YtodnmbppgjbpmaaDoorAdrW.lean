/- Contract of spec.l03Is: whether a number lies within two others. PairKey of both: the key of a pair. What a card's condition gives of the table of the rounds' numbers. Places in memory, and rows of a call, whatever they hold. -/
import Derived.Test.YtodnmbppgjbpmaaDoorBlkW
import Derived.WalkKit
import Derived.Below
import Derived.Lib.Hide
import Derived.Test.YtodnmbppgjbpmaaDoorSpecShaW
import Derived.Test.YtodnmbppgjbpmaaDoorStrBW
import Derived.LaidMore
import Derived.ProofKit
import Derived.ChangeVars
import Derived.Lib.LaidTab
import Derived.Deep.Slices
import Derived.Deep.Fields
import Derived.OwnWalk
namespace Go.Proofs.YtodnmbppgjbpmaaDoor
open Go.RowKit
set_option linter.unusedVariables false

theorem l03Is_any (n a b : Int) (w : World) : Calls Tryd.prog 71 #[.int .i64 n, .int .i64 a, .int .i64 b] w fun e w' => e = .returned (.bool (decide (a ≤ n) && decide (n ≤ b))) ∧ w' = w := by
  by_cases h : a ≤ n
  · go_enter Tryd.func71, Tryd.ntmps71
    go_wp2
    go_ret
    simp [h]
  · go_enter Tryd.func71, Tryd.ntmps71
    go_wp2
    go_ret
    have h' : n < a := by omega
    simp
    intro h2
    omega
end Go.Proofs.YtodnmbppgjbpmaaDoor

namespace Go.Proofs.YtodnmbppgjbpmaaDoor
open Go.RowKit
set_option linter.unusedVariables false
set_option maxRecDepth 1000000

theorem fmtSmall_any (n : Nat) (w : World) (h : n ≤ 3) : Calls Tryd.prog 107 #[.int .i64 (n : Int)] w fun e w' => e = .returned (.string (decB n)) ∧ w = w' := by
  rw [decB_one n (by omega)]
  rcases (show n = 0 ∨ n = 1 ∨ n = 2 ∨ n = 3 by omega) with rfl | rfl | rfl | rfl
  all_goals
    go_enter Tryd.func107, Tryd.ntmps107
    go_wp2
    go_ret
    exact ⟨rfl, rfl⟩
theorem fmtIn_any (n : Nat) (w : World) (h : n ≤ 3) : Calls Tryd.prog 90 #[.int .i64 (n : Int), .int .i64 10] w fun e w' => e = .returned (.string (decB n)) ∧ w = w' := by
  go_enter Tryd.func90, Tryd.ntmps90
  go_wp2_with (go_at_call 107; refine (fmtSmall_any n _ h).mono ?_; rintro e w1 ⟨rfl, rfl⟩)
  go_ret
  exact ⟨rfl, rfl⟩
theorem fmt_any (n : Nat) (w : World) (h : n ≤ 3) : Calls Tryd.prog 69 #[.int .i64 (n : Int), .int .i64 10] w fun e w' => e = .returned (.string (decB n)) ∧ w = w' := by
  go_enter Tryd.func69, Tryd.ntmps69
  go_wp2_with (go_at_call 90; refine (fmtIn_any n _ h).mono ?_; rintro e w1 ⟨rfl, rfl⟩)
  go_ret
  exact ⟨rfl, rfl⟩
theorem inR_any {n a b : Int} {r : Bool} (h : decide (a ≤ n ∧ n ≤ b) = r) (w : World) : Calls Tryd.prog 68 #[.int .i64 n, .int .i64 a, .int .i64 b] w fun e w' => e = .returned (.bool r) ∧ w = w' := by
  subst h
  by_cases h1 : a ≤ n <;> by_cases h2 : n ≤ b
  all_goals
    go_enter Tryd.func68, Tryd.ntmps68
    go_wp2
    go_ret
    exact ⟨retB (by simp [h1, h2]), rfl⟩
theorem replica_any {n : Int} {r : Bool} (h : decide (Who n) = r) (w : World) : Calls Tryd.prog 38 #[.int .i64 n] w fun e w' => e = .returned (.bool r) ∧ w = w' := by
  have h' : decide (0 ≤ n ∧ n ≤ 3) = r := by rw [← h]; unfold Who; rfl
  go_enter Tryd.func38, Tryd.ntmps38
  go_wp2_with (go_at_call 68; refine (inR_any h' _).mono ?_; rintro e w1 ⟨rfl, rfl⟩)
  go_ret
  exact ⟨rfl, rfl⟩
theorem secret_any {k : ByteArray} {r : Bool} (h : decide (Sec k) = r) (w : World) (hk : k.size ≤ maxLen) : Calls Tryd.prog 37 #[.string k] w fun e w' => e = .returned (.bool r) ∧ w = w' := by
  unfold maxLen at hk
  have h' : decide ((1 : Int) ≤ (k.size : Int) ∧ (k.size : Int) ≤ 60) = r := by
    rw [← h]; unfold Sec
    exact decide_eq_decide.2 (by omega)
  go_enter Tryd.func37, Tryd.ntmps37
  go_wp2_with (go_at_call 68; refine (inR_any h' _).mono ?_; rintro e w1 ⟨rfl, rfl⟩)
  go_ret
  exact ⟨rfl, rfl⟩
theorem who_any {n : Int} {r : Bool} (h : decide (Who n) = r) (w : World) : Calls Tryd.prog 40 #[.int .i64 n] w fun e w' => e = .returned (.bool r) ∧ w = w' := by
  have h' : (decide (0 ≤ n) && decide (n ≤ 3)) = r := by
    rw [← h, ← Bool.decide_and]
    exact decide_eq_decide.2 Iff.rfl
  go_enter Tryd.func40, Tryd.ntmps40
  go_wp2_with (go_at_call 71; refine (l03Is_any n 0 3 _).mono ?_; rintro e w1 ⟨rfl, rfl⟩; rw [h'])
  go_ret
  exact ⟨rfl, rfl⟩
theorem min_any (a b : Int) (w : World) : Calls Tryd.prog 43 #[.int .i64 a, .int .i64 b] w fun e w' => e = .returned (.int .i64 (min a b)) ∧ w = w' := by
  by_cases h : a < b
  · rw [Int.min_eq_left (by omega)]
    go_enter Tryd.func43, Tryd.ntmps43
    go_wp2
    go_ret
    exact ⟨rfl, rfl⟩
  · rw [Int.min_eq_right (by omega)]
    go_enter Tryd.func43, Tryd.ntmps43
    go_wp2
    go_ret
    exact ⟨rfl, rfl⟩
theorem max_any (a b : Int) (w : World) : Calls Tryd.prog 44 #[.int .i64 a, .int .i64 b] w fun e w' => e = .returned (.int .i64 (max a b)) ∧ w = w' := by
  by_cases h : b < a
  · rw [Int.max_eq_left (by omega)]
    go_enter Tryd.func44, Tryd.ntmps44
    go_wp2
    go_ret
    exact ⟨rfl, rfl⟩
  · rw [Int.max_eq_right (by omega)]
    go_enter Tryd.func44, Tryd.ntmps44
    go_wp2
    go_ret
    exact ⟨rfl, rfl⟩

set_option maxHeartbeats 2000000 in
theorem keyOf64_any (k : ByteArray) (m n : Nat) (w : World) (hk : k.size ≤ 60) (hm : m ≤ 3) (hn : n ≤ 3) (hK : Keys w) (hw : 2 < w.heap.size) :
    Calls Tryd.prog 39 #[.string k, .int .i64 (m : Int), .int .i64 (n : Int)] w fun e w' => e = .returned (.string (pairB k m n)) ∧ Below w.heap.size w w' := by
  obtain ⟨a, HA⟩ : ∃ a, Hid (min m n = a) := ⟨_, Lib.hid rfl⟩
  obtain ⟨b, HB⟩ : ∃ a, Hid (max m n = a) := ⟨_, Lib.hid rfl⟩
  have e1 : Hid (min (m : Int) (n : Int) = (a : Int)) := Lib.hid (by have := HA.out; omega)
  have e2 : Hid (max (m : Int) (n : Int) = (b : Int)) := Lib.hid (by have := HB.out; omega)
  have ha : a ≤ 3 := by have := HA.out; omega
  have hb : b ≤ 3 := by have := HB.out; omega
  have HP : Hid (pairB k m n = sha (k ++ (decB a ++ decB b))) := Lib.hid (by unfold pairB; rw [HA.out, HB.out])
  have s1 := decB_small a (by omega)
  have s2 := decB_small b (by omega)
  obtain ⟨d1, HD1⟩ : ∃ d, Hid (decB a = d) := ⟨_, Lib.hid rfl⟩
  obtain ⟨d2, HD2⟩ : ∃ d, Hid (decB b = d) := ⟨_, Lib.hid rfl⟩
  have FA := Lib.hid (fun w => fmt_any a w ha)
  have FB := Lib.hid (fun w => fmt_any b w hb)
  rw [HD1.out] at FA s1 HP
  rw [HD2.out] at FB s2 HP
  have HS : Hid ((k ++ (d1 ++ d2)).size ≤ 20000) := Lib.hid (by rw [ByteArray.size_append, ByteArray.size_append]; omega)
  generalize pairB k m n = R at HP ⊢
  go_enter Tryd.func39, Tryd.ntmps39
  go_wp2_with (fail)
  rw [e1.out]
  refine (FA.out _).mono ?_
  rintro e w1 ⟨rfl, rfl⟩
  go_wp2_with (fail)
  rw [e2.out]
  refine (FB.out _).mono ?_
  rintro e w1 ⟨rfl, rfl⟩
  go_wp2_with (fail)
  refine (implDigest_any _ _ HS.out hK hw).mono ?_
  rintro e w1 ⟨rfl, hb1⟩
  go_wp2
  go_ret
  exact ⟨retS HP.out.symm, hb1⟩

set_option maxHeartbeats 2000000 in
theorem keyOfI_any (k : ByteArray) (m n : Nat) (w : World) (hk : k.size ≤ 60) (hm : m ≤ 3) (hn : n ≤ 3) (hK : Keys w) (hw : 2 < w.heap.size) :
    Calls Tryd.prog 47 #[.string k, .int .i64 (m : Int), .int .i64 (n : Int)] w fun e w' => e = .returned (.string (pairB k m n)) ∧ Below w.heap.size w w' := by
  obtain ⟨a, HA⟩ : ∃ a, Hid (min m n = a) := ⟨_, Lib.hid rfl⟩
  obtain ⟨b, HB⟩ : ∃ a, Hid (max m n = a) := ⟨_, Lib.hid rfl⟩
  have e1 : Hid (min (m : Int) (n : Int) = (a : Int)) := Lib.hid (by have := HA.out; omega)
  have e2 : Hid (max (m : Int) (n : Int) = (b : Int)) := Lib.hid (by have := HB.out; omega)
  have ha : a ≤ 3 := by have := HA.out; omega
  have hb : b ≤ 3 := by have := HB.out; omega
  have HP : Hid (pairB k m n = sha (k ++ (decB a ++ decB b))) := Lib.hid (by unfold pairB; rw [HA.out, HB.out])
  have s1 := decB_small a (by omega)
  have s2 := decB_small b (by omega)
  obtain ⟨d1, HD1⟩ : ∃ d, Hid (decB a = d) := ⟨_, Lib.hid rfl⟩
  obtain ⟨d2, HD2⟩ : ∃ d, Hid (decB b = d) := ⟨_, Lib.hid rfl⟩
  have FA := Lib.hid (fun w => fmt_any a w ha)
  have FB := Lib.hid (fun w => fmt_any b w hb)
  rw [HD1.out] at FA s1 HP
  rw [HD2.out] at FB s2 HP
  have HS : Hid ((k ++ (d1 ++ d2)).size ≤ 20000) := Lib.hid (by rw [ByteArray.size_append, ByteArray.size_append]; omega)
  generalize pairB k m n = R at HP ⊢
  go_enter Tryd.func47, Tryd.ntmps47
  go_wp2_with (fail)
  rw [e1.out]
  refine (FA.out _).mono ?_
  rintro e w1 ⟨rfl, rfl⟩
  go_wp2_with (fail)
  rw [e2.out]
  refine (FB.out _).mono ?_
  rintro e w1 ⟨rfl, rfl⟩
  go_wp2_with (fail)
  refine (implDigest_any _ _ HS.out hK hw).mono ?_
  rintro e w1 ⟨rfl, hb1⟩
  go_wp2
  go_ret
  exact ⟨retS HP.out.symm, hb1⟩

set_option maxHeartbeats 2000000 in
theorem implPairKey_any (k : ByteArray) (a b : Int) (w : World) (hk : k.size ≤ maxLen) (hK : Keys w) (hw : 2 < w.heap.size) :
    Calls Tryd.prog 9 #[.string k, .int .i64 a, .int .i64 b] w fun e w' => e = .returned (.string (keyB k a b)) ∧ Below w.heap.size w w' := by
  have HI := Lib.hid (keyB_in (k := k) (a := a) (b := b))
  have HO := Lib.hid (keyB_out (k := k) (a := a) (b := b))
  generalize keyB k a b = R at HI HO ⊢
  rcases Bool.eq_false_or_eq_true (decide (Sec k)) with hs | hs
  · rcases Bool.eq_false_or_eq_true (decide (Who a)) with ha | ha
    · rcases Bool.eq_false_or_eq_true (decide (Who b)) with hb | hb
      · have hs' := of_decide_eq_true hs
        have ha' := of_decide_eq_true ha
        have hb' := of_decide_eq_true hb
        by_cases hab : a = b
        · obtain rfl := HO.out (fun h => h.2.2.2 hab)
          go_enter Tryd.func9, Tryd.ntmps9
          go_wp2_with (first
            | (go_at_call 37; refine (secret_any hs _ hk).mono ?_; rintro e w1 ⟨rfl, rfl⟩)
            | (go_at_call 38; refine (replica_any (by first | with_reducible exact ha | with_reducible exact hb) _).mono ?_; rintro e w1 ⟨rfl, rfl⟩))
          go_ret
          exact ⟨rfl, Below.refl _ _⟩
        · have HE := Lib.hid (HI.out ⟨hs', ha', hb', hab⟩)
          clear HI HO
          unfold Who at ha' hb'
          have HA := Lib.hid (Int.toNat_of_nonneg ha'.1)
          have HB := Lib.hid (Int.toNat_of_nonneg hb'.1)
          have hm : a.toNat ≤ 3 := by omega
          have hn : b.toNat ≤ 3 := by omega
          have KO := Lib.hid (keyOf64_any k a.toNat b.toNat w hs'.2 hm hn hK hw)
          rw [HA.out, HB.out] at KO
          rw [← HE.out] at KO
          go_enter Tryd.func9, Tryd.ntmps9
          go_wp2_with (first
            | (go_at_call 37; refine (secret_any hs _ hk).mono ?_; rintro e w1 ⟨rfl, rfl⟩)
            | (go_at_call 38; refine (replica_any (by first | with_reducible exact ha | with_reducible exact hb) _).mono ?_; rintro e w1 ⟨rfl, rfl⟩)
            | (go_at_call 39; refine KO.out.mono ?_; rintro e w1 ⟨rfl, hb1⟩))
          go_ret
          exact ⟨rfl, hb1⟩
      · obtain rfl := HO.out (fun h => by have := decide_eq_true h.2.2.1; rw [hb] at this; cases this)
        go_enter Tryd.func9, Tryd.ntmps9
        go_wp2_with (first
          | (go_at_call 37; refine (secret_any hs _ hk).mono ?_; rintro e w1 ⟨rfl, rfl⟩)
          | (go_at_call 38; refine (replica_any (by first | with_reducible exact ha | with_reducible exact hb) _).mono ?_; rintro e w1 ⟨rfl, rfl⟩))
        go_ret
        exact ⟨rfl, Below.refl _ _⟩
    · obtain rfl := HO.out (fun h => by have := decide_eq_true h.2.1; rw [ha] at this; cases this)
      go_enter Tryd.func9, Tryd.ntmps9
      go_wp2_with (first
        | (go_at_call 37; refine (secret_any hs _ hk).mono ?_; rintro e w1 ⟨rfl, rfl⟩)
        | (go_at_call 38; refine (replica_any ha _).mono ?_; rintro e w1 ⟨rfl, rfl⟩))
      go_ret
      exact ⟨rfl, Below.refl _ _⟩
  · obtain rfl := HO.out (fun h => by have := decide_eq_true h.1; rw [hs] at this; cases this)
    go_enter Tryd.func9, Tryd.ntmps9
    go_wp2_with (go_at_call 37; refine (secret_any hs _ hk).mono ?_; rintro e w1 ⟨rfl, rfl⟩)
    go_ret
    exact ⟨rfl, Below.refl _ _⟩

set_option maxHeartbeats 4000000 in
theorem specPairKey_any (k : ByteArray) (a b : Int) (w : World) (hk : k.size ≤ maxLen) :
    Calls Tryd.prog 10 #[.string k, .int .i64 a, .int .i64 b] w fun e w' => e = .returned (.string (keyB k a b)) ∧ Below w.heap.size w w' := by
  have HI := Lib.hid (keyB_in (k := k) (a := a) (b := b))
  have HO := Lib.hid (keyB_out (k := k) (a := a) (b := b))
  generalize keyB k a b = R at HI HO ⊢
  unfold maxLen at hk
  by_cases h1 : 1 ≤ k.size
  · by_cases h2 : k.size ≤ 60
    · rcases Bool.eq_false_or_eq_true (decide (Who a)) with ha | ha
      · rcases Bool.eq_false_or_eq_true (decide (Who b)) with hb | hb
        · have ha' := of_decide_eq_true ha
          have hb' := of_decide_eq_true hb
          by_cases hab : a = b
          · obtain rfl := HO.out (fun h => h.2.2.2 hab)
            go_enter Tryd.func10, Tryd.ntmps10
            go_wp2_with (go_at_call 40; refine (who_any (by first | with_reducible exact ha | with_reducible exact hb) _).mono ?_; rintro e w1 ⟨rfl, rfl⟩)
            go_ret
            exact ⟨rfl, Below.refl _ _⟩
          · have HE := Lib.hid (HI.out ⟨⟨h1, h2⟩, ha', hb', hab⟩)
            clear HI HO
            unfold Who at ha' hb'
            obtain ⟨m, HA⟩ : ∃ m, Hid (min a.toNat b.toNat = m) := ⟨_, Lib.hid rfl⟩
            obtain ⟨n, HB⟩ : ∃ m, Hid (max a.toNat b.toNat = m) := ⟨_, Lib.hid rfl⟩
            have e1 : Hid (min a b = (m : Int)) := Lib.hid (by have := HA.out; omega)
            have e2 : Hid (max a b = (n : Int)) := Lib.hid (by have := HB.out; omega)
            have hm : m ≤ 3 := by have := HA.out; omega
            have hn : n ≤ 3 := by have := HB.out; omega
            have HP : Hid (R = sha (k ++ (decB m ++ decB n))) := Lib.hid (by rw [HE.out]; unfold pairB; rw [HA.out, HB.out])
            have s1 := decB_small m (by omega)
            have s2 := decB_small n (by omega)
            obtain ⟨d1, HD1⟩ : ∃ d, Hid (decB m = d) := ⟨_, Lib.hid rfl⟩
            obtain ⟨d2, HD2⟩ : ∃ d, Hid (decB n = d) := ⟨_, Lib.hid rfl⟩
            have FA := Lib.hid (fun w => l01Dec_nat m w (by omega))
            have FB := Lib.hid (fun w => l01Dec_nat n w (by omega))
            rw [HD1.out] at FA s1 HP
            rw [HD2.out] at FB s2 HP
            have HS : Hid ((k ++ d1 ++ d2).size ≤ 100000) := Lib.hid (by rw [ByteArray.size_append, ByteArray.size_append]; omega)
            have HP2 : Hid (sha (k ++ d1 ++ d2) = R) := Lib.hid (by rw [HP.out, ByteArray.append_assoc])
            clear HP HE
            have q1 : decide ((k.size : Int) < 1) = false := by simp; omega
            have q2 : decide (60 < (k.size : Int)) = false := by simp; omega
            have q3 : (a == b) = false := by simp; exact hab
            go_enter Tryd.func10, Tryd.ntmps10
            go_wp2_with (go_at_call 40; refine (who_any (by first | with_reducible exact ha | with_reducible exact hb) _).mono ?_; rintro e w1 ⟨rfl, rfl⟩)
            refine (min_any a b _).mono ?_
            rintro e w1 ⟨rfl, rfl⟩
            rw [e1.out]
            go_wp2_with (fail)
            refine (FA.out _).mono ?_
            rintro e w1 ⟨rfl, hb1⟩
            go_wp2_with (fail)
            refine (max_any a b _).mono ?_
            rintro e w2 ⟨rfl, rfl⟩
            rw [e2.out]
            go_wp2_with (fail)
            refine (FB.out _).mono ?_
            rintro e w2 ⟨rfl, hb2⟩
            go_wp2_with (fail)
            refine (all_any _ _ HS.out).mono ?_
            rintro e w3 ⟨rfl, hb3⟩
            rw [HP2.out]
            have b2 := hb1.trans (hb2.mono hb1.size)
            go_wp2
            go_ret
            exact ⟨rfl, b2.trans (hb3.mono b2.size)⟩
        · obtain rfl := HO.out (fun h => by have := decide_eq_true h.2.2.1; rw [hb] at this; cases this)
          go_enter Tryd.func10, Tryd.ntmps10
          go_wp2_with (go_at_call 40; refine (who_any (by first | with_reducible exact ha | with_reducible exact hb) _).mono ?_; rintro e w1 ⟨rfl, rfl⟩)
          go_ret
          exact ⟨rfl, Below.refl _ _⟩
      · obtain rfl := HO.out (fun h => by have := decide_eq_true h.2.1; rw [ha] at this; cases this)
        go_enter Tryd.func10, Tryd.ntmps10
        go_wp2_with (go_at_call 40; refine (who_any ha _).mono ?_; rintro e w1 ⟨rfl, rfl⟩)
        go_ret
        exact ⟨rfl, Below.refl _ _⟩
    · obtain rfl := HO.out (fun h => h2 h.1.2)
      go_enter Tryd.func10, Tryd.ntmps10
      go_wp2
      go_ret
      exact ⟨rfl, Below.refl _ _⟩
  · obtain rfl := HO.out (fun h => h1 h.1.1)
    go_enter Tryd.func10, Tryd.ntmps10
    go_wp2
    go_ret
    exact ⟨rfl, Below.refl _ _⟩
end Go.Proofs.YtodnmbppgjbpmaaDoor

namespace Go.Proofs.YtodnmbppgjbpmaaDoor
open Go.RowKit Go.ChangeShapes Go.WideShapes Go.ChangeAt
set_option linter.unusedVariables false
theorem gKeys : Tryd.prog.globalNamed "loop.example/g00386/impl.roundKeys" = some 2 := by kernel_rfl
theorem keys_of_head {W : World} {rest : List (String × DataW Unit)} (h : laidMet Tryd.prog (("loop.example/g00386/impl.roundKeys", Lib.tabData .u32 keyL) :: rest) W) : Keys W := by
  have hT := Lib.tabIs_of_head (k := .u32) (zs := keyL) gKeys (t := 173) (e := 111) (by kernel_rfl) Tryd.underlying173 Tryd.underlying111 (by kernel_rfl) (by kernel_rfl) h
  exact fun i hi => hT.cell gKeys i hi
theorem keys_lt {W : World} (h : Keys W) : 2 < W.heap.size := World.block_lt_of_cell? W ⟨2, 0, none⟩ (h 0 (by omega))
theorem vars_len {H : Type} {enc : TypeId × Value → H} {P : Program} {w : World} {sp : Nat → Bool} : ∀ {ns : List String} {gs : List (DataW H)} {ps : List MemPlace}, DataW.TrodVars enc P w sp ns gs ps → gs.length = ns.length
  | [], [], _, _ => rfl
  | [], _ :: _, _, h => by simp [DataW.TrodVars] at h
  | _ :: _, [], _, h => by simp [DataW.TrodVars] at h
  | _ :: _, _ :: _, _, ⟨_, _, _, _, _, _, _, _, _, _, h, _⟩ => by simp [vars_len h]
end Go.Proofs.YtodnmbppgjbpmaaDoor

namespace Go.Proofs.YtodnmbppgjbpmaaDoor
open Go.RowKit
set_option linter.unusedVariables false

theorem add_blk (a : Addr) (n : Nat) : (a.add n).block = a.block := by unfold Addr.add; split <;> rfl
theorem add_none (g off i : Nat) : (⟨g, off, none⟩ : Addr).add i = ⟨g, off + i, none⟩ := by
  unfold Addr.add
  split
  · rename_i h; subst h; rfl
  · rfl
theorem cellsStr : Tryd.prog.cellsOf 9 = 1 := by kernel_rfl
theorem cellsI64 : Tryd.prog.cellsOf 2 = 1 := by kernel_rfl
theorem ofNat_add (a : Addr) (i j : Nat) : (a.add i).add j = a.add (i + j) := Go.Deep.add_add a i j
theorem add_far (a : Addr) (n m : Nat) : (⟨(a.add n).block, (a.add n).off + (m + 1), none⟩ : Addr) = a.add (n + (m + 1)) := by
  rw [← ofNat_add]; rfl
theorem grown_none {w w' : World} {B : Nat} (hb : Below B w w') (hB : w.heap.size ≤ B) : w.grownBy w' none := ⟨hb.os, hb.tape, hb.output, hb.size, fun k hk _ => hb.block k (by omega)⟩
theorem row_below {w w' : World} {B base n size : Nat} {e : TypeId} {v : Value} {xs : List Value} (h : w.ownsRow base e size v n xs) (hb : Below B w w') (hB : w.heap.size ≤ B) : w'.ownsRow base e size v n xs :=
  h.kept (grown_none hb hB) (by cases v.ownBlock <;> simp)
theorem take_put {α : Type} (L : List α) (z : α) {k : Nat} (h : k < L.length) : (L.take k ++ List.replicate (L.length - k) z).set k L[k] = L.take (k + 1) ++ List.replicate (L.length - (k + 1)) z := by
  rw [List.set_append_right _ _ (by simp; omega)]
  simp only [List.length_take, show k - min k L.length = 0 by omega, show L.length - k = (L.length - (k + 1)) + 1 by omega, List.replicate_succ, List.set_cons_zero]
  rw [List.take_succ_eq_append_getElem h, List.append_assoc]
  rfl
theorem row_far {w : World} {base n size : Nat} {e : TypeId} {v : Value} {xs : List Value} (h : w.ownsRow base e size v n xs) {p : Addr} (hp : p.block < base) (u : Value) : (w.setCell p u).ownsRow base e size v n xs :=
  h.kept (row := some p.block) ⟨rfl, rfl, rfl, by simp [World.setCell], fun k _ hne => Below.heap_setCell w p u k (fun e => hne (by rw [e]))⟩ (.inr fun e => by have := (h.lt _ e).1; omega)
theorem own_base {w : World} {base base' n size : Nat} {e : TypeId} {v : Value} {xs : List Value} (h : w.ownsRow base e size v n xs) (hb : base' ≤ base) : w.ownsRow base' e size v n xs := by
  obtain ⟨h0, h1⟩ := h
  refine ⟨h0, ?_⟩
  rcases h1 with h1 | ⟨g, cap, cur, r1, r2, r3⟩
  · exact .inl h1
  · exact .inr ⟨g, cap, cur, r1, by omega, r3⟩
end Go.Proofs.YtodnmbppgjbpmaaDoor
