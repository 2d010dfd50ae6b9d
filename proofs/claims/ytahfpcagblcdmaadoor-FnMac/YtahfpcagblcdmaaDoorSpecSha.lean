/- The specification's digest: it answers the same string. -/
import Derived.Test.YtahfpcagblcdmaaDoorSpecBlk
import Derived.Test.YtahfpcagblcdmaaDoorSha
import Derived.Test.YtahfpcagblcdmaaDoorOwnB
namespace Go.Proofs.YtahfpcagblcdmaaDoor
open Go.RowKit
set_option linter.unusedVariables false

set_option maxHeartbeats 1600000 in
theorem startS_any (w : World) : Calls Tryd.prog 30 #[] w fun e w' => ∃ v, e = .returned v ∧ St w' v reg0 ∧ Below w.heap.size w w' := by
  go_enter Tryd.func30, Tryd.ntmps30
  go_wp2
  go_ret
  refine ⟨_, rfl, ⟨w.heap.size, 8, rfl, by simp, by omega, fun i hi => ?_⟩, (Below.refl _ _).alloc (Nat.le_refl _) _⟩
  refine (Blk.fresh w _ (reg0.row 8)).cell (Reg.row_get reg0 8 i hi)

/-- The bytes of the end, as integers. -/
def intsOf (s : ByteArray) : List Int := s.data.toList.map fun b => (b.toNat : Int)
theorem OwnB.form {w : World} {base n : Nat} {v : Value} {xs : List Value} (h : OwnB w base v xs) (hl : xs.length = n) : ∃ g cap, v = .slice (some ⟨g, 0, none⟩) n cap ∧ n ≤ cap := by
  obtain ⟨g, cap, e, _, _, h3, _⟩ := h
  exact ⟨g, cap, by rw [e, hl], by omega⟩
def sliceLen : Value → Nat
  | .slice _ n _ => n
  | _ => 0
def stage1 (t : ByteArray) (j : Nat) : List Value := Lib.byteCells t.data.toList ++ [.int .u8 128] ++ List.replicate j (.int .u8 0)
theorem stage1_len (t : ByteArray) (j : Nat) : (stage1 t j).length = t.size + 1 + j := by unfold stage1; simp [bc_len]; omega
theorem stage1_succ (t : ByteArray) (j : Nat) : stage1 t (j + 1) = stage1 t j ++ [.int .u8 0] := by unfold stage1; rw [List.replicate_succ']; simp
def zn (n : Nat) : Nat := (119 - n % 64) % 64
def stage2 (t : ByteArray) (i : Nat) : List Value := stage1 t (zn t.size) ++ ((be8 (8 * t.size)).take i).map (Value.int .u8)
theorem stage2_len (t : ByteArray) (i : Nat) (h : i ≤ 8) : (stage2 t i).length = t.size + 1 + zn t.size + i := by unfold stage2; simp [stage1_len, be8_len, h]
theorem stage2_succ (t : ByteArray) (i : Nat) (h : i < 8) : stage2 t (i + 1) = stage2 t i ++ [.int .u8 ((8 * t.size / 256 ^ (7 - i) % 256 : Nat) : Int)] := by
  unfold stage2
  rw [List.take_succ_eq_append_getElem (by rw [be8_len]; exact h)]
  simp [be8]
theorem stage2_all (t : ByteArray) : stage2 t 8 = Lib.byteCells (ended t).data.toList := by
  unfold stage2 stage1 ended tailS
  rw [List.take_of_length_le (by rw [be8_len]; omega)]
  rw [app_list, app_list, app_list]
  have e1 : ∀ l : List Int, (∀ x ∈ l, 0 ≤ x ∧ x < 256) → Lib.byteCells (strOfNums l).data.toList = l.map (Value.int .u8) := by
    intro l hl
    unfold strOfNums Lib.byteCells
    simp only [List.map_map]
    apply List.map_congr_left
    intro x hx
    obtain ⟨h0, h1⟩ := hl x hx
    simp; omega
  rw [← byteCells_append, ← byteCells_append, ← byteCells_append, e1 (be8 (8 * t.size)) (by intro x hx; simp [be8] at hx; obtain ⟨a, _, rfl⟩ := hx; omega)]
  have e2 : Lib.byteCells (Lib.repeatL [0] ((119 - t.size % 64) % 64)) = List.replicate (zn t.size) (Value.int .u8 0) := by
    have := Lib.repeatL_replicate 0 1 ((119 - t.size % 64) % 64)
    rw [show List.replicate 1 (0 : UInt8) = [0] from rfl] at this
    rw [this]
    unfold zn Lib.byteCells
    simp
  show _ = _ ++ ([Value.int .u8 128] ++ Lib.byteCells (Lib.repeatL [0] ((119 - t.size % 64) % 64)) ++ _)
  rw [e2]
  simp
theorem ended_size (t : ByteArray) : (ended t).size = 64 * ((ended t).size / 64) := by
  unfold ended; rw [ByteArray.size_append, tailS_size]; omega
/-- A part of an owned row as a string. -/
theorem conv_part {w : World} {base g cap : Nat} {E : ByteArray} (h : OwnB w base (.slice (some ⟨g, 0, none⟩) E.size cap) (Lib.byteCells E.data.toList)) (a : Nat) (ha : a + 64 ≤ E.size) :
    (convert 22 9 (.slice (some ⟨g, a, none⟩) 64 (cap - a))).run Tryd.prog w = .ok (.string (E.extract a (a + 64))) w := by
  obtain ⟨g', cap', e, _, _, _, h4, _⟩ := h
  injection e with e1 _ _
  injection e1 with e1
  injection e1 with e1 _ _
  subst e1
  have hl : E.data.toList.length = E.size := len_list E
  have := run_convert_bytes_arg w 22 5 Tryd.underlying22 Tryd.underlying5 g a 64 (cap - a) (((E.data.toList.drop a).take 64).map fun b => (b.toNat : Int)) (by simp; omega) (fun i hi => by
    have hi' : a + i < E.data.size := by simpa using (show a + i < E.data.toList.length by omega)
    have e1 : E.data[a + i]? = some E.data[a + i] := Array.getElem?_eq_getElem hi'
    rw [h4 (a + i) (.int .u8 (E.data[a + i].toNat : Int)) (by simp [Lib.byteCells, e1])]
    simp [List.getD, hi, List.getElem?_drop, e1]) 9 Tryd.underlying9
  rw [this, strOfNums_bytes]
  congr 2
  apply ba_ext
  rw [ext_list, show a + 64 - a = 64 by omega]
theorem below_grown_B {B : Nat} {w wr w1 : World} {v : Value} {xs : List Value} {o : Obj} (hb : Below B w wr) (hB : B ≤ w.heap.size) (h : OwnB wr B v xs) (hg : (wr.alloc o).grownBy w1 v.ownBlock) : Below B w w1 := by
  have hs := hb.size
  exact (hb.alloc (by omega) o).grown hg (by simp; omega) (fun k e => (h.lt k e).1)

set_option maxHeartbeats 4000000 in
set_option maxRecDepth 1000000 in
theorem all_any (t : ByteArray) (w : World) (ht : t.size ≤ 100000) :
    Calls Tryd.prog 25 #[.string t] w fun e w' => e = .returned (.string (sha t)) ∧ Below w.heap.size w w' := by
  obtain ⟨i0, hi, hz0, hz1, hz2⟩ := info_parts infoU8
  have hbl : (Lib.byteCells t.data.toList).length = t.size := bc_len t
  have HBL := Lib.hid hbl
  clear hbl
  go_enter Tryd.func25, Tryd.ntmps25
  go_wp2_with (first
    | (refine wpList_conv_bytes rfl (.tmp 11) rfl t w.heap.size rfl (Nat.le_refl _) ?_; intro v1 w1 ho1 hb1; have hz := hb1.size)
    | (at_builtin; refine wpList_append_B rfl _ _ 22 rfl w.heap.size 5 i0 (.int .u8 0) 1 Tryd.underlying22 hi hz0 hz1 hz2 rfl _ _ rfl (ho1.alloc _) ⟨w1.heap.size, 0, none⟩ 1 (.int .u8 128) rfl (by simp) rfl (by rw [HBL.out]; unfold maxLen; omega) (by rw [HBL.out]; omega) (by simp; omega) ?_; intro v2 w2 ho2 hg2))
  have hb2 : Below w.heap.size w w2 := below_grown_B hb1 (Nat.le_refl _) ho1 hg2
  clear hg2 hb1
  have ho2' : OwnB w2 w.heap.size v2 (stage1 t 0) := by unfold stage1; simpa using ho2
  obtain ⟨z, HZ⟩ : ∃ z, Hid (zn t.size = z) := ⟨_, rfl⟩
  have hzz : Hid (z = (119 - t.size % 64) % 64) := HZ.out ▸ rfl
  have hz63 : z ≤ 63 := by have := hzz.out; omega
  go_loopw [3] (fun v wr => ∃ (j : Nat), j ≤ z ∧ OwnB wr w.heap.size v (stage1 t j) ∧ Below w.heap.size w wr) (fun v wr => t.size + 1 + z - sliceLen v)
  case atStart => exact ⟨0, by omega, ho2', hb2⟩
  case round =>
    clear ho2 ho2' hb2
    obtain ⟨j, hj, ho, hb⟩ := hrel
    obtain ⟨n, HN⟩ : ∃ n, Hid (n = t.size + 1 + j) := ⟨_, rfl⟩
    obtain ⟨g, cap, rfl, hcap⟩ := ho.form (n := n) (by rw [stage1_len]; exact HN.out.symm)
    have hn0 : n ≤ 200000 := by have := HN.out; have := hzz.out; omega
    by_cases hlt : j < z
    · have hd : (((n : Int) % 64) != 56) = true := by have := HN.out; have := hzz.out; rw [bne_iff_ne]; omega
      have hsz := hb.size
      go_wp2_with (at_builtin; refine wpList_append_B rfl _ _ 22 rfl w.heap.size 5 i0 (.int .u8 0) 1 Tryd.underlying22 hi hz0 hz1 hz2 rfl _ _ rfl (ho.alloc _) ⟨wr.heap.size, 0, none⟩ 1 (.int .u8 0) rfl (by simp) rfl (by rw [stage1_len]; unfold maxLen; omega) (by rw [stage1_len]; have := hzz.out; omega) (by simp; omega) ?_; intro v3 w3 ho3 hg3)
      rw [← stage1_succ] at ho3
      have hb3 : Below w.heap.size w w3 := below_grown_B hb (Nat.le_refl _) ho hg3
      obtain ⟨g3, cap3, rfl, _⟩ := ho3.form (n := t.size + 1 + (j + 1)) (stage1_len _ _)
      exact ⟨⟨j + 1, by omega, ho3, hb3⟩, by simp [sliceLen]; have := HN.out; omega⟩
    · obtain rfl : j = z := by omega
      have hd : (((n : Int) % 64) != 56) = false := by have := HN.out; have := hzz.out; rw [bne_eq_false_iff_eq]; omega
      have h2 : stage1 t j = stage2 t 0 := by unfold stage2; rw [HZ.out]; simp
      rw [h2] at ho
      clear h2
      have hsz8 : 8 * (t.size : Int) ≤ 800000 := by omega
      go_wp2
      go_loopw [3, 5] (fun v q wr => ∃ (i : Nat), i ≤ 8 ∧ q = .int .i64 (56 - 8 * (i : Int)) ∧ OwnB wr w.heap.size v (stage2 t i) ∧ Below w.heap.size w wr) (fun _ q _ => (8 + intOf q).toNat)
      case atStart => exact ⟨0, by omega, rfl, ho, hb⟩
      case round =>
        clear ho hb hcap
        obtain ⟨i, hi8, rfl, ho, hb⟩ := hrel
        by_cases hlt : i < 8
        · obtain ⟨κ, HK⟩ : ∃ κ : Nat, Hid (κ + 8 * i = 56) := ⟨56 - 8 * i, by unfold Hid; omega⟩
          have hκ : (56 : Int) - 8 * (i : Int) = (κ : Int) := by have := HK.out; omega
          rw [hκ]
          clear hκ
          have hk56 : κ ≤ 56 := by have := HK.out; omega
          have hsz := hb.size
          have hl2 := Lib.hid (stage2_len t i hi8)
          have HZ' := Lib.hid HZ.out
          go_wp2_with (at_builtin; refine wpList_append_B rfl _ _ 22 rfl w.heap.size 5 i0 (.int .u8 0) 1 Tryd.underlying22 hi hz0 hz1 hz2 rfl _ _ rfl (ho.alloc _) ⟨wr.heap.size, 0, none⟩ 1 (.int .u8 (8 * (t.size : Int) / 2 ^ κ % 256)) rfl (by simp) rfl (by rw [hl2.out, HZ'.out]; unfold maxLen; omega) (by rw [hl2.out, HZ'.out]; omega) (by simp; omega) ?_; intro v3 w3 ho3 hg3)
          have hby : (8 * (t.size : Int) / 2 ^ κ % 256) = ((8 * t.size / 256 ^ (7 - i) % 256 : Nat) : Int) := by
            have e : (256 : Nat) ^ (7 - i) = 2 ^ κ := by rw [show (256 : Nat) = 2 ^ 8 from rfl, ← Nat.pow_mul]; congr 1; have := HK.out; omega
            rw [e]; simp
          rw [hby, ← stage2_succ t i hlt] at ho3
          have hb3 : Below w.heap.size w w3 := below_grown_B hb (Nat.le_refl _) ho hg3
          exact ⟨⟨i + 1, by omega, by congr 1; have := HK.out; omega, ho3, hb3⟩, by simp [intOf]; omega⟩
        · obtain rfl : i = 8 := by omega
          rw [stage2_all] at ho
          obtain ⟨E, HE⟩ : ∃ E, Hid (ended t = E) := ⟨_, rfl⟩
          rw [HE.out] at ho
          obtain ⟨g, cap, rfl, hcap⟩ := ho.form (n := E.size) (bc_len E)
          have HES : Hid (E.size = 64 * (E.size / 64)) := by unfold Hid; rw [← HE.out]; exact ended_size t
          have he0 : E.size ≤ 200000 := by rw [← HE.out]; unfold ended; rw [ByteArray.size_append, tailS_size]; omega
          go_wp2_with (go_at_call 30; refine (startS_any _).mono ?_; rintro e w4 ⟨v4, rfl, hst, hb4⟩)
          have ho4 := ho.below hb4
          have hb5 : Below w.heap.size w w4 := hb.trans (hb4.mono hb.size)
          clear ho hb hb4
          go_loopw [6, 7] (fun st q wr => ∃ (k : Nat), 64 * k ≤ E.size ∧ q = .int .i64 ((64 * k : Nat) : Int) ∧ St wr st (foldB reg0 E k) ∧ OwnB wr w.heap.size (.slice (some ⟨g, 0, none⟩) E.size cap) (Lib.byteCells E.data.toList) ∧ Below w.heap.size w wr) (fun _ q _ => E.size - (intOf q).toNat)
          case atStart => exact ⟨0, by omega, rfl, hst, ho4, hb5⟩
          case round =>
            clear hst ho4 hb5
            obtain ⟨k, hk, rfl, hst, ho, hb⟩ := hrel
            obtain ⟨a, HA⟩ : ∃ a, Hid (a = 64 * k) := ⟨_, rfl⟩
            rw [← HA.out]
            have ha : a ≤ E.size := by rw [HA.out]; exact hk
            by_cases hlt : a < E.size
            · have ha2 : a + 64 ≤ E.size := by have := HA.out; have := HES.out; omega
              have hcv := conv_part ho a ha2
              have hne : ¬ cap = a := by omega
              have p64 : 0 ≤ (a : Int) + 64 := by omega
              have q64 : (a : Int) + 64 ≤ (E.size : Int) := by omega
              have r64 : (a : Int) ≤ (a : Int) + 64 := by omega
              have t64 : ((a : Int) + 64).toNat = a + 64 := by omega
              have c64 : a + 64 ≤ cap := by omega
              have hx : Hid ((E.extract a (a + 64)).size = 64) := by unfold Hid; rw [ByteArray.size_extract]; omega
              go_wp2_with (go_at_call 31; refine (block_any _ _ _ _ hx.out hst (foldB_bd reg0_bd E k)).mono ?_; rintro e w5 ⟨v5, rfl, hst5, hb5⟩)
              have ho5 := ho.below hb5
              have hb6 : Below w.heap.size w w5 := hb.trans (hb5.mono hb.size)
              refine ⟨⟨k + 1, by have := HA.out; omega, ?_, ?_, ho5, hb6⟩, by simp [intOf]; omega⟩
              · have := HA.out; congr 1; omega
              · rw [HA.out] at hst5; exact hst5
            · have hkn : Hid (k = E.size / 64) := by unfold Hid; have := HA.out; have := HES.out; omega
              obtain ⟨R, HR⟩ : ∃ R, Hid (foldB reg0 E k = R) := ⟨_, rfl⟩
              have hRb : Hid R.Bd := by unfold Hid; rw [← HR.out]; exact foldB_bd reg0_bd E k
              have HF : Hid (sha t = strOfNums (R.upto 8)) := by unfold Hid sha; rw [HE.out, ← hkn.out, HR.out]; rfl
              rw [HR.out] at hst
              obtain ⟨gs, cs, rfl, hgs, hcs, hcell⟩ := hst
              have HC := Lib.hid hcell
              clear hcell
              have hbs := hb.size
              have ho0 := World.ownsRow_lit (base := w.heap.size) (e := 5) (size := 1) wr #[] 0 hbs (by simp) (by simp)
              have HO0 := Lib.hid ho0
              clear ho0
              go_wp2
              go_loopw [8, 9, 10] (fun o q _ wq => ∃ (i : Nat), i ≤ 8 ∧ q = .int .i64 i ∧ wq.ownsRow w.heap.size 5 1 o (R.upto i).length ((R.upto i).map (Value.int .u8)) ∧ Below w.heap.size w wq ∧ Hid (∀ i, i < 8 → wq.cell? ⟨gs, i, none⟩ = some (.int .i64 (R.at_ i))) ∧ Hid (some gs ≠ o.ownBlock) ∧ gs < wq.heap.size) (fun _ q _ _ => 8 - (intOf q).toNat)
              case atStart =>
                refine ⟨0, by omega, rfl, HO0.out, hb.alloc hbs _, fun i hi => ?_, ?_, by simp; omega⟩
                · rw [World.cell?_alloc_lt wr _ ⟨gs, i, none⟩ hgs]; exact HC.out i hi
                · unfold Hid; simp [Value.ownBlock]; omega
              case round =>
                obtain ⟨i, hi8', rfl, hown, hbq, HCq, hne, hlt8⟩ := hrel
                by_cases hlti : i < 8
                · have x1 := HCq.out i hlti
                  obtain ⟨q0, q1⟩ := Reg.at_bd hRb.out i
                  have HL := Lib.hid (upto_len R i hi8')
                  have hlt' : (i : Int) < 8 := by omega
                  have hsq := hbq.size
                  go_wp2_with (at_builtin; refine wpList_append_lies _ rfl _ _ 22 rfl w.heap.size 5 i0 (.int .u8 0) 1 1 Tryd.underlying22 hi hz0 hz1 hz2 rfl (by decide) _ _ _ rfl (hown.alloc _) ⟨wr.heap.size, 0, none⟩ 4 4 ((be4 (R.at_ i)).map (Value.int .u8)) rfl rfl (new_cells _ _ _) (be4_one _) (by omega) (by rw [HL.out]; unfold maxLen; omega) (by rw [HL.out]; omega) (by simp; omega) (wr.heap.size + 1) (by simp) ?_; intro gg cap' w' hown' hgrow' hat hlt')
                  have hr1 := upto_succ R i hlti
                  refine ⟨⟨i + 1, by omega, by go_num, ?_, below_app hbq (Nat.le_refl _) hown hgrow', fun q hq => ?_, ?_, ?_⟩, by simp [intOf]; omega⟩
                  · rw [hr1, List.map_append, List.length_append]; exact hown'
                  · rw [hgrow'.cell_far ⟨gs, q, none⟩ (by simp; omega) hne.out, World.cell?_alloc_lt wr _ ⟨gs, q, none⟩ hlt8]; exact HCq.out q hq
                  · unfold Hid
                    intro e
                    simp [Value.ownBlock] at e
                    rcases hat with h | h
                    · exact hne.out (by rw [e]; exact h.symm)
                    · omega
                  · have := hgrow'.size; simp at this; omega
                · obtain rfl : i = 8 := by omega
                  have hcv := own_string hown
                  go_wp2
                  go_ret
                  exact ⟨retS HF.out.symm, hbq⟩
end Go.Proofs.YtahfpcagblcdmaaDoor
