/- A hash in progress: add, finish, digestOf. -/
import Derived.Test.YtahfpcagblcdmaaDoorPad
import Derived.Test.YtahfpcagblcdmaaDoorShelf
import Derived.StillTailTactics
import Derived.Deep.DeepFit
namespace Go.Proofs.YtahfpcagblcdmaaDoor
open Go.RowKit
set_option linter.unusedVariables false

/-- The state behind the first k blocks of a text. -/
noncomputable def foldB (r : Reg) (s : ByteArray) : Nat → Reg
  | 0 => r
  | k + 1 => mixR (s.extract (64 * k) (64 * k + 64)) (foldB r s k)
theorem foldB_bd {r : Reg} (h : r.Bd) (s : ByteArray) (k : Nat) : (foldB r s k).Bd := by
  cases k with
  | zero => exact h
  | succ k => exact addR_bd _ _
def hcells (r : Reg) (rest : ByteArray) (n : Int) : List Value := r.cells ++ [.string rest, .int .u64 n]

set_option maxHeartbeats 1600000 in
set_option maxRecDepth 1000000 in
theorem add_any (t rest : ByteArray) (n : Int) (g B : Nat) (r : Reg) (w : World) (hs : rest.size + t.size ≤ 1048576) (n0 : 0 ≤ n) (n1 : n ≤ 1048576) (hg : Blk w g 51 (hcells r rest n)) (hK : Keys w) (hr : r.Bd) (hB : B ≤ g) (h1 : 1 ≤ B) :
    Calls Tryd.prog 28 #[.pointer (some ⟨g, 0, none⟩), .string t] w fun e w' => e = .returned (.tuple #[]) ∧
      Blk w' g 51 (hcells (foldB r (rest ++ t) ((rest ++ t).size / 64)) ((rest ++ t).extract (64 * ((rest ++ t).size / 64)) (rest ++ t).size) (n + t.size)) ∧ Below B w w' := by
  have c8 : w.cell? ⟨g, 8, none⟩ = some (.string rest) := hg.cell rfl
  have c9 : w.cell? ⟨g, 9, none⟩ = some (.int .u64 n) := hg.cell rfl
  have f9 := hg.froz 9
  have hl : B ≤ w.heap.size := Nat.le_of_lt (Nat.lt_of_le_of_lt hB hg.lt)
  have hl2 := hg.lt
  obtain ⟨s, HSe⟩ : ∃ s, Hid (rest ++ t = s) := ⟨_, rfl⟩
  have hsz : s.size ≤ 1048576 := by rw [← HSe.out]; simpa using hs
  rw [HSe.out]
  go_enter Tryd.func28, Tryd.ntmps28
  go_wp2_with (go_at_call 34; refine (joined_any _ _ _ hs).mono ?_; rintro e w1 ⟨rfl, hb1⟩; rw [HSe.out])
  have hg1 : Blk w1 g 51 (hcells r rest (n + t.size)) := (hg.put 9 (.int .u64 (n + t.size))).below hb1 (by simpa using hl2)
  have hB1 : Below B w w1 := ((Below.refl B w).setCell hB _).trans (hb1.mono (by simpa using hl))
  have hK1 : Keys w1 := hK.below hB1 (by omega)
  clear hb1 c8 c9 f9
  go_loopw [4] (fun a wr => ∃ k : Nat, 64 * k ≤ s.size ∧ a = .int .i64 ((64 * k : Nat) : Int) ∧ Blk wr g 51 (hcells (foldB r s k) rest (n + t.size)) ∧ Keys wr ∧ Below B w wr) (fun a _ => s.size - (intOf a).toNat)
  case atStart => exact ⟨0, by omega, rfl, hg1, hK1, hB1⟩
  case round =>
    clear hg1 hK1 hB1
    obtain ⟨k, hk, rfl, hgr, hKr, hbr⟩ := hrel
    obtain ⟨a, HA⟩ : ∃ a, Hid (a = 64 * k) := ⟨_, rfl⟩
    rw [← HA.out]
    have ha : a ≤ s.size := by rw [HA.out]; exact hk
    by_cases hlt : a + 64 ≤ s.size
    · have hd : decide ((a : Int) + 64 ≤ (s.size : Int)) = true := by simp; omega
      have e64 : IntKind.i64.wrap ((a : Int) + 64) = (a : Int) + 64 := IntWalk.i64_in _ (by omega)
      have p64 : 0 ≤ (a : Int) + 64 := by omega
      have t64 : ((a : Int) + 64).toNat = a + 64 := by omega
      have q64 : (a : Int) + 64 ≤ (s.size : Int) := by omega
      have r64 : (a : Int) ≤ (a : Int) + 64 := by omega
      go_wp2
      go_still_tail 8, (by kernel_rfl)
      change wpList _ _ _ _ _ wr.drew
      have hx : (s.extract a (a + 64)).size = 64 := by rw [ByteArray.size_extract]; omega
      have HX := Lib.hid hx
      clear hx
      go_wp2_with (go_at_call 35; refine (mix_any _ g B (foldB r s k) (.string rest) (.int .u64 (n + t.size)) _ HX.out hgr.drew (fun i hi => hKr i hi) (foldB_bd hr s k) hB h1).mono ?_; rintro e w3 ⟨rfl, hg3, hb3⟩)
      refine ⟨⟨k + 1, by rw [HA.out] at hlt; omega, ?_, ?_, ?_, ?_⟩, ?_⟩
      · have := HA.out; simp; omega
      · rw [HA.out] at hg3; exact hg3
      · exact hKr.below ((below_drew (Below.refl B wr)).trans hb3) (by omega)
      · exact hbr.trans ((below_drew (Below.refl B wr)).trans hb3)
      · simp [intOf]; omega
    · have hkn : Hid (k = s.size / 64) := by unfold Hid; have := HA.out; omega
      have f8 := hgr.froz 8
      have c8 : wr.cell? ⟨g, 8, none⟩ = some (.string rest) := hgr.cell rfl
      have hd : decide ((a : Int) + 64 ≤ (s.size : Int)) = false := by simp; omega
      go_wp2
      go_end0
      have hp := hgr.put 8 (.string (s.extract a s.size))
      rw [HA.out, hkn.out] at hp
      rw [HA.out, hkn.out]
      exact ⟨rfl, hp, hbr.setCell hB _⟩

def reg0 : Reg := ⟨1779033703, 3144134277, 1013904242, 2773480762, 1359893119, 2600822924, 528734635, 1541459225⟩
theorem reg0_bd : reg0.Bd := by simp [Reg.Bd, reg0]
set_option maxHeartbeats 1600000 in
theorem first_any (w : World) :
    Calls Tryd.prog 33 #[] w fun e w' => e = .returned (.agg reg0.cells.toArray) ∧ Below w.heap.size w w' := by
  go_enter Tryd.func33, Tryd.ntmps33
  go_wp2
  refine bodyPost_ret (v := .agg reg0.cells.toArray) (by simp [results, Tryd.results33, go_sem]; rfl) rfl ⟨rfl, (Below.refl _ _).alloc (Nat.le_refl _) _⟩
theorem one51 (r : Reg) (s : ByteArray) (n : Int) : (hcells r s n).toArray.all (·.oneCell') = true := by simp [hcells, Reg.cells, Value.oneCell']
theorem info51 : (Tryd.prog.info? 51).map (·.size) = some (hcells reg0 ⟨#[]⟩ 0).toArray.size := by kernel_rfl
set_option maxHeartbeats 1600000 in
theorem start_any (w : World) :
    Calls Tryd.prog 27 #[] w fun e w' => e = .returned (.agg (hcells reg0 ⟨#[]⟩ 0).toArray) ∧ Below w.heap.size w w' := by
  have hz : Blk (w.alloc (.cells #[.int .u32 0, .int .u32 0, .int .u32 0, .int .u32 0, .int .u32 0, .int .u32 0, .int .u32 0, .int .u32 0, .string ⟨#[]⟩, .int .u64 0] 51)) w.heap.size 51 [.int .u32 0, .int .u32 0, .int .u32 0, .int .u32 0, .int .u32 0, .int .u32 0, .int .u32 0, .int .u32 0, .string ⟨#[]⟩, .int .u64 0] := Blk.fresh w _ _
  go_enter Tryd.func27, Tryd.ntmps27
  go_wp2_with (first
    | (go_at_call 33; refine (first_any _).mono ?_; rintro e w1 ⟨rfl, hb1⟩; unfold reg0 Reg.cells; have h1 := hz.below hb1 (by simp))
    | (refine wpList_store_row rfl 51 (.tmp 0) (.tmp 2) rfl w.heap.size (hcells reg0 ⟨#[]⟩ 0).toArray rfl rfl 51 _ h1.heap info51 rfl (one51 _ _ _) ?_))
  have h2 := h1.setRow (hcells reg0 ⟨#[]⟩ 0)
  have l3 := run_loadVar_row (P := Tryd.prog) _ _ _ 51 _ (0, 0) _ h2 Tryd.underlying51 rfl info51
  exact bodyPost_ret (v := .agg (hcells reg0 ⟨#[]⟩ 0).toArray) (by simp only [results, Tryd.results27]; simp [Act.put, asAddr, l3]) rfl ⟨rfl, below_setRow (((Below.refl w.heap.size w).alloc (Nat.le_refl _) _).trans (hb1.mono (by simp))) (Nat.le_refl _) _⟩
theorem lengthText_int (a : Int) (w : World) (h0 : 0 ≤ a) (h1 : a ≤ 18446744073709551615) :
    Calls Tryd.prog 36 #[.int .u64 a] w fun e w' => e = .returned (.string (strOfNums (be8 a.toNat))) ∧ Below w.heap.size w w' := by
  obtain ⟨n, rfl⟩ := Int.eq_ofNat_of_zero_le h0
  exact lengthText_any n w (by omega)
/-- What is added at the end of a text of n bytes whose last m bytes fill no block. -/
def tailS (m n : Nat) : ByteArray := (⟨#[128]⟩ : ByteArray) ++ ⟨(Lib.repeatL [0] ((119 - m) % 64)).toArray⟩ ++ strOfNums (be8 (8 * n))
noncomputable def finR (r : Reg) (rest : ByteArray) (n : Nat) : Reg := foldB r (rest ++ tailS rest.size n) ((rest ++ tailS rest.size n).size / 64)
theorem rep_int (s : ByteArray) (a : Int) (w : World) (h0 : 0 ≤ a) (h1 : a ≤ 64) (hs : s.size = 1) :
    Calls Tryd.prog 37 #[.string s, .int .i64 a] w fun e w' => e = .returned (.string ⟨(Lib.repeatL s.data.toList a.toNat).toArray⟩) ∧ Below w.heap.size w w' := by
  obtain ⟨n, rfl⟩ := Int.eq_ofNat_of_zero_le h0
  exact Tryd.strings_Repeat s n w (by omega) (by rw [hs]; omega)
theorem be8_len (n : Nat) : (be8 n).length = 8 := by simp [be8]
theorem tailS_size (m n : Nat) : (tailS m n).size = 1 + (119 - m) % 64 + 8 := by
  unfold tailS
  rw [ByteArray.size_append, ByteArray.size_append, strOfNums_size, be8_len]
  show 1 + (Lib.repeatL [0] ((119 - m) % 64)).length + 8 = _
  rw [Lib.repeatL_length]; simp
set_option maxHeartbeats 1600000 in
theorem finish_any (rest : ByteArray) (n : Nat) (g B : Nat) (r : Reg) (w : World) (hs : rest.size < 64) (n1 : n ≤ 1000000) (hg : Blk w g 51 (hcells r rest n)) (hK : Keys w) (hr : r.Bd) (hB : B ≤ g) (h1 : 1 ≤ B) :
    Calls Tryd.prog 29 #[.pointer (some ⟨g, 0, none⟩)] w fun e w' => e = .returned (.string (strOfNums (finR r rest n).bytes)) ∧ Below B w w' := by
  have c8 : w.cell? ⟨g, 8, none⟩ = some (.string rest) := hg.cell rfl
  have c9 : w.cell? ⟨g, 9, none⟩ = some (.int .u64 n) := hg.cell rfl
  have hl : B ≤ w.heap.size := Nat.le_of_lt (Nat.lt_of_le_of_lt hB hg.lt)
  have hl2 := hg.lt
  have ht : (tailS rest.size n).size ≤ 128 := by rw [tailS_size]; omega
  obtain ⟨L, HL⟩ : ∃ L, Hid (strOfNums (be8 (8 * (n : Int)).toNat) = L) := ⟨_, Lib.hid rfl⟩
  have lb : L.size ≤ 8 := by rw [← HL.out, strOfNums_size, be8_len]; omega
  obtain ⟨z, HZ⟩ : ∃ z : ByteArray, Hid (⟨(Lib.repeatL (⟨#[0]⟩ : ByteArray).data.toList ((119 - (rest.size : Int)) % 64).toNat).toArray⟩ = z) := ⟨_, Lib.hid rfl⟩
  have zb : z.size ≤ 64 := by
    rw [← HZ.out]
    show (Lib.repeatL _ _).toArray.size ≤ 64
    rw [List.size_toArray, Lib.repeatL_length]
    show _ * 1 ≤ 64
    omega
  have HT : Hid ((⟨#[128]⟩ : ByteArray) ++ z ++ L = tailS rest.size n) := by
    unfold Hid
    rw [← HZ.out, ← HL.out]
    unfold tailS
    rw [show (8 * (n : Int)).toNat = 8 * n by omega, show ((119 - (rest.size : Int)) % 64).toNat = (119 - rest.size) % 64 by omega]
  go_enter Tryd.func29, Tryd.ntmps29
  go_wp2_with (first
    | (go_at_call 36; refine (lengthText_int _ _ (by omega) (by omega)).mono ?_; rintro e w1 ⟨rfl, hb1⟩; have hc1 := hb1.cell (p := ⟨g, 8, none⟩) hl2; have hz1 := hb1.size; have hg1 := hg.below hb1 hl2; rw [HL.out])
    | (go_at_call 37; refine (rep_int _ _ _ (by omega) (by omega) rfl).mono ?_; rintro e w2 ⟨rfl, hb2⟩; rw [HZ.out]; have hz2 := hb2.size; have hg2 := hg1.below hb2 (by omega); have hB2 : Below B w w2 := (hb1.mono hl).trans (hb2.mono (by omega)); have hK2 := hK.below hB2 (by omega))
    | (go_at_call 28; rw [HT.out]; go_fit (add_any (tailS rest.size n) rest n g B r _ (by omega) (by omega) (by omega) hg2 hK2 hr hB h1); rintro e w3 ⟨rfl, hg3, hb3⟩)
    | (go_at_call 38; refine (text_any g _ _ _ _ hg3 (foldB_bd hr _ _)).mono ?_; rintro e w4 ⟨rfl, hb4⟩))
  go_ret
  exact ⟨retS (by unfold finR; simp), hB2.trans (hb3.trans (hb4.mono (Nat.le_trans hB (Nat.le_of_lt hg3.lt))))⟩
end Go.Proofs.YtahfpcagblcdmaaDoor
