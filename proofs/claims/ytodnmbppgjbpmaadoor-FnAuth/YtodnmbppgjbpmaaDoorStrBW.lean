/- A hash in progress: add, finish, digestOf. The digest as a function of the text; impl.digestOf and impl.Digest compute it. spec.l01Dec of a number that is not negative: its decimal digits. Strings compared, as a walk spells it. -/
import Derived.Test.YtodnmbppgjbpmaaDoorBlkW
import Derived.Test.YtodnmbppgjbpmaaDoorPadW
import Derived.Test.YtodnmbppgjbpmaaDoorShelf
import Derived.StillTailTactics
import Derived.Deep.DeepFit
import Derived.Lib.ItoaMem
namespace Go.Proofs.YtodnmbppgjbpmaaDoor
open Go.RowKit
set_option linter.unusedVariables false

/-- The state behind the first k blocks of a text. -/
noncomputable def foldB (r : Reg) (s : ByteArray) : Nat → Reg
  | 0 => r
  | k + 1 => mixR (s.extract (64 * k) (64 * k + 64)) (foldB r s k)
theorem foldB_bd {r : Reg} (h : r.Bd) (s : ByteArray) (k : Nat) : (foldB r s k).Bd := by
  cases k with
  | zero => exact h
  | succ k => exact addR_bd _ _
def hcells (r : Reg) (rest : ByteArray) (n : Int) : List Value := r.cells ++ [.string rest, .int .u64 n]

set_option maxHeartbeats 1600000 in
set_option maxRecDepth 1000000 in
theorem add_any (t rest : ByteArray) (n : Int) (g B : Nat) (r : Reg) (w : World) (hs : rest.size + t.size ≤ 1048576) (n0 : 0 ≤ n) (n1 : n ≤ 1048576) (hg : Blk w g 132 (hcells r rest n)) (hK : Keys w) (hr : r.Bd) (hB : B ≤ g) (h1 : 2 < B) :
    Calls Tryd.prog 112 #[.pointer (some ⟨g, 0, none⟩), .string t] w fun e w' => e = .returned (.tuple #[]) ∧
      Blk w' g 132 (hcells (foldB r (rest ++ t) ((rest ++ t).size / 64)) ((rest ++ t).extract (64 * ((rest ++ t).size / 64)) (rest ++ t).size) (n + t.size)) ∧ Below B w w' := by
  have c8 : w.cell? ⟨g, 8, none⟩ = some (.string rest) := hg.cell rfl
  have c9 : w.cell? ⟨g, 9, none⟩ = some (.int .u64 n) := hg.cell rfl
  have f9 := hg.froz 9
  have hl : B ≤ w.heap.size := Nat.le_of_lt (Nat.lt_of_le_of_lt hB hg.lt)
  have hl2 := hg.lt
  obtain ⟨s, HSe⟩ : ∃ s, Hid (rest ++ t = s) := ⟨_, rfl⟩
  have hsz : s.size ≤ 1048576 := by rw [← HSe.out]; simpa using hs
  rw [HSe.out]
  go_enter Tryd.func112, Tryd.ntmps112
  go_wp2_with (go_at_call 133; refine (joined_any _ _ _ hs).mono ?_; rintro e w1 ⟨rfl, hb1⟩; rw [HSe.out])
  have hg1 : Blk w1 g 132 (hcells r rest (n + t.size)) := (hg.put 9 (.int .u64 (n + t.size))).below hb1 (by simpa using hl2)
  have hB1 : Below B w w1 := ((Below.refl B w).setCell hB _).trans (hb1.mono (by simpa using hl))
  have hK1 : Keys w1 := hK.below hB1 (by omega)
  clear hb1 c8 c9 f9
  go_loopw [4] (fun a wr => ∃ k : Nat, 64 * k ≤ s.size ∧ a = .int .i64 ((64 * k : Nat) : Int) ∧ Blk wr g 132 (hcells (foldB r s k) rest (n + t.size)) ∧ Keys wr ∧ Below B w wr) (fun a _ => s.size - (intOf a).toNat)
  case atStart => exact ⟨0, by omega, rfl, hg1, hK1, hB1⟩
  case round =>
    clear hg1 hK1 hB1
    obtain ⟨k, hk, rfl, hgr, hKr, hbr⟩ := hrel
    obtain ⟨a, HA⟩ : ∃ a, Hid (a = 64 * k) := ⟨_, rfl⟩
    rw [← HA.out]
    have ha : a ≤ s.size := by rw [HA.out]; exact hk
    by_cases hlt : a + 64 ≤ s.size
    · have hd : decide ((a : Int) + 64 ≤ (s.size : Int)) = true := by simp; omega
      have e64 : IntKind.i64.wrap ((a : Int) + 64) = (a : Int) + 64 := IntWalk.i64_in _ (by omega)
      have p64 : 0 ≤ (a : Int) + 64 := by omega
      have t64 : ((a : Int) + 64).toNat = a + 64 := by omega
      have q64 : (a : Int) + 64 ≤ (s.size : Int) := by omega
      have r64 : (a : Int) ≤ (a : Int) + 64 := by omega
      go_wp2
      go_still_tail 8, (by kernel_rfl)
      change wpList _ _ _ _ _ wr.drew
      have hx : (s.extract a (a + 64)).size = 64 := by rw [ByteArray.size_extract]; omega
      have HX := Lib.hid hx
      clear hx
      go_wp2_with (go_at_call 134; refine (mix_any _ g B (foldB r s k) (.string rest) (.int .u64 (n + t.size)) _ HX.out hgr.drew (fun i hi => hKr i hi) (foldB_bd hr s k) hB h1).mono ?_; rintro e w3 ⟨rfl, hg3, hb3⟩)
      refine ⟨⟨k + 1, by rw [HA.out] at hlt; omega, ?_, ?_, ?_, ?_⟩, ?_⟩
      · have := HA.out; simp; omega
      · rw [HA.out] at hg3; exact hg3
      · exact hKr.below ((below_drew (Below.refl B wr)).trans hb3) (by omega)
      · exact hbr.trans ((below_drew (Below.refl B wr)).trans hb3)
      · simp [intOf]; omega
    · have hkn : Hid (k = s.size / 64) := by unfold Hid; have := HA.out; omega
      have f8 := hgr.froz 8
      have c8 : wr.cell? ⟨g, 8, none⟩ = some (.string rest) := hgr.cell rfl
      have hd : decide ((a : Int) + 64 ≤ (s.size : Int)) = false := by simp; omega
      go_wp2
      go_end0
      have hp := hgr.put 8 (.string (s.extract a s.size))
      rw [HA.out, hkn.out] at hp
      rw [HA.out, hkn.out]
      exact ⟨rfl, hp, hbr.setCell hB _⟩

def reg0 : Reg := ⟨1779033703, 3144134277, 1013904242, 2773480762, 1359893119, 2600822924, 528734635, 1541459225⟩
theorem reg0_bd : reg0.Bd := by simp [Reg.Bd, reg0]
set_option maxHeartbeats 1600000 in
theorem first_any (w : World) :
    Calls Tryd.prog 132 #[] w fun e w' => e = .returned (.agg reg0.cells.toArray) ∧ Below w.heap.size w w' := by
  go_enter Tryd.func132, Tryd.ntmps132
  go_wp2
  refine bodyPost_ret (v := .agg reg0.cells.toArray) (by simp [results, Tryd.results132, go_sem]; rfl) rfl ⟨rfl, (Below.refl _ _).alloc (Nat.le_refl _) _⟩
theorem one51 (r : Reg) (s : ByteArray) (n : Int) : (hcells r s n).toArray.all (·.oneCell') = true := by simp [hcells, Reg.cells, Value.oneCell']
theorem info51 : (Tryd.prog.info? 132).map (·.size) = some (hcells reg0 ⟨#[]⟩ 0).toArray.size := by kernel_rfl
set_option maxHeartbeats 1600000 in
theorem start_any (w : World) :
    Calls Tryd.prog 111 #[] w fun e w' => e = .returned (.agg (hcells reg0 ⟨#[]⟩ 0).toArray) ∧ Below w.heap.size w w' := by
  have hz : Blk (w.alloc (.cells #[.int .u32 0, .int .u32 0, .int .u32 0, .int .u32 0, .int .u32 0, .int .u32 0, .int .u32 0, .int .u32 0, .string ⟨#[]⟩, .int .u64 0] 132)) w.heap.size 132 [.int .u32 0, .int .u32 0, .int .u32 0, .int .u32 0, .int .u32 0, .int .u32 0, .int .u32 0, .int .u32 0, .string ⟨#[]⟩, .int .u64 0] := Blk.fresh w _ _
  go_enter Tryd.func111, Tryd.ntmps111
  go_wp2_with (first
    | (go_at_call 132; refine (first_any _).mono ?_; rintro e w1 ⟨rfl, hb1⟩; unfold reg0 Reg.cells; have h1 := hz.below hb1 (by simp))
    | (refine wpList_store_row rfl 132 (.tmp 0) (.tmp 2) rfl w.heap.size (hcells reg0 ⟨#[]⟩ 0).toArray rfl rfl 132 _ h1.heap info51 rfl (one51 _ _ _) ?_))
  have h2 := h1.setRow (hcells reg0 ⟨#[]⟩ 0)
  have l3 := run_loadVar_row (P := Tryd.prog) _ _ _ 132 _ (0, 0) _ h2 Tryd.underlying132 rfl info51
  exact bodyPost_ret (v := .agg (hcells reg0 ⟨#[]⟩ 0).toArray) (by simp only [results, Tryd.results111]; simp [Act.put, asAddr, l3]) rfl ⟨rfl, below_setRow (((Below.refl w.heap.size w).alloc (Nat.le_refl _) _).trans (hb1.mono (by simp))) (Nat.le_refl _) _⟩
theorem lengthText_int (a : Int) (w : World) (h0 : 0 ≤ a) (h1 : a ≤ 18446744073709551615) :
    Calls Tryd.prog 135 #[.int .u64 a] w fun e w' => e = .returned (.string (strOfNums (be8 a.toNat))) ∧ Below w.heap.size w w' := by
  obtain ⟨n, rfl⟩ := Int.eq_ofNat_of_zero_le h0
  exact lengthText_any n w (by omega)
/-- What is added at the end of a text of n bytes whose last m bytes fill no block. -/
def tailS (m n : Nat) : ByteArray := (⟨#[128]⟩ : ByteArray) ++ ⟨(Lib.repeatL [0] ((119 - m) % 64)).toArray⟩ ++ strOfNums (be8 (8 * n))
noncomputable def finR (r : Reg) (rest : ByteArray) (n : Nat) : Reg := foldB r (rest ++ tailS rest.size n) ((rest ++ tailS rest.size n).size / 64)
theorem rep_int (s : ByteArray) (a : Int) (w : World) (h0 : 0 ≤ a) (h1 : a ≤ 64) (hs : s.size = 1) :
    Calls Tryd.prog 136 #[.string s, .int .i64 a] w fun e w' => e = .returned (.string ⟨(Lib.repeatL s.data.toList a.toNat).toArray⟩) ∧ Below w.heap.size w w' := by
  obtain ⟨n, rfl⟩ := Int.eq_ofNat_of_zero_le h0
  exact Tryd.strings_Repeat s n w (by omega) (by rw [hs]; omega)
theorem be8_len (n : Nat) : (be8 n).length = 8 := by simp [be8]
theorem tailS_size (m n : Nat) : (tailS m n).size = 1 + (119 - m) % 64 + 8 := by
  unfold tailS
  rw [ByteArray.size_append, ByteArray.size_append, strOfNums_size, be8_len]
  show 1 + (Lib.repeatL [0] ((119 - m) % 64)).length + 8 = _
  rw [Lib.repeatL_length]; simp
set_option maxHeartbeats 1600000 in
theorem finish_any (rest : ByteArray) (n : Nat) (g B : Nat) (r : Reg) (w : World) (hs : rest.size < 64) (n1 : n ≤ 1000000) (hg : Blk w g 132 (hcells r rest n)) (hK : Keys w) (hr : r.Bd) (hB : B ≤ g) (h1 : 2 < B) :
    Calls Tryd.prog 113 #[.pointer (some ⟨g, 0, none⟩)] w fun e w' => e = .returned (.string (strOfNums (finR r rest n).bytes)) ∧ Below B w w' := by
  have c8 : w.cell? ⟨g, 8, none⟩ = some (.string rest) := hg.cell rfl
  have c9 : w.cell? ⟨g, 9, none⟩ = some (.int .u64 n) := hg.cell rfl
  have hl : B ≤ w.heap.size := Nat.le_of_lt (Nat.lt_of_le_of_lt hB hg.lt)
  have hl2 := hg.lt
  have ht : (tailS rest.size n).size ≤ 128 := by rw [tailS_size]; omega
  obtain ⟨L, HL⟩ : ∃ L, Hid (strOfNums (be8 (8 * (n : Int)).toNat) = L) := ⟨_, Lib.hid rfl⟩
  have lb : L.size ≤ 8 := by rw [← HL.out, strOfNums_size, be8_len]; omega
  obtain ⟨z, HZ⟩ : ∃ z : ByteArray, Hid (⟨(Lib.repeatL (⟨#[0]⟩ : ByteArray).data.toList ((119 - (rest.size : Int)) % 64).toNat).toArray⟩ = z) := ⟨_, Lib.hid rfl⟩
  have zb : z.size ≤ 64 := by
    rw [← HZ.out]
    show (Lib.repeatL _ _).toArray.size ≤ 64
    rw [List.size_toArray, Lib.repeatL_length]
    show _ * 1 ≤ 64
    omega
  have HT : Hid ((⟨#[128]⟩ : ByteArray) ++ z ++ L = tailS rest.size n) := by
    unfold Hid
    rw [← HZ.out, ← HL.out]
    unfold tailS
    rw [show (8 * (n : Int)).toNat = 8 * n by omega, show ((119 - (rest.size : Int)) % 64).toNat = (119 - rest.size) % 64 by omega]
  go_enter Tryd.func113, Tryd.ntmps113
  go_wp2_with (first
    | (go_at_call 135; refine (lengthText_int _ _ (by omega) (by omega)).mono ?_; rintro e w1 ⟨rfl, hb1⟩; have hc1 := hb1.cell (p := ⟨g, 8, none⟩) hl2; have hz1 := hb1.size; have hg1 := hg.below hb1 hl2; rw [HL.out])
    | (go_at_call 136; refine (rep_int _ _ _ (by omega) (by omega) rfl).mono ?_; rintro e w2 ⟨rfl, hb2⟩; rw [HZ.out]; have hz2 := hb2.size; have hg2 := hg1.below hb2 (by omega); have hB2 : Below B w w2 := (hb1.mono hl).trans (hb2.mono (by omega)); have hK2 := hK.below hB2 (by omega))
    | (go_at_call 112; rw [HT.out]; go_fit (add_any (tailS rest.size n) rest n g B r _ (by omega) (by omega) (by omega) hg2 hK2 hr hB h1); rintro e w3 ⟨rfl, hg3, hb3⟩)
    | (go_at_call 137; refine (text_any g _ _ _ _ hg3 (foldB_bd hr _ _)).mono ?_; rintro e w4 ⟨rfl, hb4⟩))
  go_ret
  exact ⟨retS (by unfold finR; simp), hB2.trans (hb3.trans (hb4.mono (Nat.le_trans hB (Nat.le_of_lt hg3.lt))))⟩
end Go.Proofs.YtodnmbppgjbpmaaDoor

namespace Go.Proofs.YtodnmbppgjbpmaaDoor
open Go.RowKit
set_option linter.unusedVariables false

theorem ext_list (s : ByteArray) (a b : Nat) : (s.extract a b).data.toList = (s.data.toList.drop a).take (b - a) := by
  rw [ByteArray.data_extract]
  simp [Array.toList_extract, List.extract]
theorem ba_ext {a b : ByteArray} (h : a.data.toList = b.data.toList) : a = b := by
  apply ByteArray.ext
  rw [← Array.toArray_toList (xs := a.data), h, Array.toArray_toList]
theorem app_list (a b : ByteArray) : (a ++ b).data.toList = a.data.toList ++ b.data.toList := by simp
theorem len_list (a : ByteArray) : a.data.toList.length = a.size := by simp

theorem ext_shift (A C : ByteArray) (n i j : Nat) (h : n ≤ A.size) : (A.extract n A.size ++ C).extract i j = (A ++ C).extract (n + i) (n + j) := by
  apply ba_ext
  rw [ext_list, ext_list, app_list, app_list, ext_list]
  have hl := len_list A
  have e0 : List.take (A.size - n) (List.drop n A.data.toList) = List.drop n A.data.toList := List.take_of_length_le (by rw [List.length_drop]; omega)
  have e : List.drop n A.data.toList ++ C.data.toList = List.drop n (A.data.toList ++ C.data.toList) := by
    rw [List.drop_append_of_le_length (by omega)]
  rw [e0, e, List.drop_drop, show n + j - (n + i) = j - i by omega]
theorem foldB_shift (r : Reg) (A C : ByteArray) (n : Nat) (h : 64 * n ≤ A.size) (m : Nat) :
    foldB (foldB r (A ++ C) n) (A.extract (64 * n) A.size ++ C) m = foldB r (A ++ C) (n + m) := by
  induction m with
  | zero => rfl
  | succ m ih =>
    show mixR _ _ = mixR _ _
    rw [ih, ext_shift A C _ _ _ h, show 64 * n + 64 * m = 64 * (n + m) by omega, show 64 * n + (64 * m + 64) = 64 * (n + m) + 64 by omega]
    rfl
theorem ext_app (A C : ByteArray) (i j : Nat) (h : j ≤ A.size) : (A ++ C).extract i j = A.extract i j := by
  apply ba_ext
  rw [ext_list, ext_list, app_list]
  have hl := len_list A
  by_cases hi : i ≤ j
  · rw [List.drop_append_of_le_length (by omega), List.take_append_of_le_length (by rw [List.length_drop]; omega)]
  · rw [show j - i = 0 by omega]; simp
theorem foldB_app (r : Reg) (A C : ByteArray) (n : Nat) (h : 64 * n ≤ A.size) : foldB r (A ++ C) n = foldB r A n := by
  induction n with
  | zero => rfl
  | succ n ih =>
    show mixR _ _ = mixR _ _
    rw [ih (by omega), ext_app A C _ _ (by omega)]
theorem foldB_next (r : Reg) (A C : ByteArray) :
    foldB (foldB r A (A.size / 64)) (A.extract (64 * (A.size / 64)) A.size ++ C) ((A.extract (64 * (A.size / 64)) A.size ++ C).size / 64) = foldB r (A ++ C) ((A ++ C).size / 64) := by
  have h : 64 * (A.size / 64) ≤ A.size := by omega
  rw [← foldB_app r A C _ h, foldB_shift r A C _ h]
  congr 1
  rw [ByteArray.size_append, ByteArray.size_append, ByteArray.size_extract]
  omega
theorem rest_next (A C : ByteArray) :
    (A.extract (64 * (A.size / 64)) A.size ++ C).extract (64 * ((A.extract (64 * (A.size / 64)) A.size ++ C).size / 64)) (A.extract (64 * (A.size / 64)) A.size ++ C).size = (A ++ C).extract (64 * ((A ++ C).size / 64)) (A ++ C).size := by
  have h : 64 * (A.size / 64) ≤ A.size := by omega
  rw [ext_shift A C _ _ _ h]
  congr 1
  all_goals
    rw [ByteArray.size_append, ByteArray.size_append, ByteArray.size_extract]
    omega
/-- The text with its end. -/
def ended (t : ByteArray) : ByteArray := t ++ tailS (t.size % 64) t.size
noncomputable def sha (t : ByteArray) : ByteArray := strOfNums (foldB reg0 (ended t) ((ended t).size / 64)).bytes
theorem rest_size (t : ByteArray) : (t.extract (64 * (t.size / 64)) t.size).size = t.size % 64 := by rw [ByteArray.size_extract]; omega
theorem finR_sha (t : ByteArray) (n : Nat) (hn : n = t.size) : strOfNums (finR (foldB reg0 t (t.size / 64)) (t.extract (64 * (t.size / 64)) t.size) n).bytes = sha t := by
  subst hn
  unfold finR sha ended
  rw [rest_size, foldB_next]
theorem bytes_len (r : Reg) : r.bytes.length = 32 := by unfold Reg.bytes Reg.list be4; simp
theorem sha_size (t : ByteArray) : (sha t).size = 32 := by unfold sha; rw [strOfNums_size, bytes_len]

set_option maxHeartbeats 1600000 in
set_option maxRecDepth 1000000 in
theorem digestOf_any (a b : ByteArray) (w : World) (hs : a.size + b.size ≤ 1000000) (hK : Keys w) (hw : 2 < w.heap.size) :
    Calls Tryd.prog 91 #[.string a, .string b] w fun e w' => e = .returned (.string (sha (a ++ b))) ∧ Below w.heap.size w w' := by
  have he : (⟨#[]⟩ : ByteArray) ++ a = a := by apply ba_ext; simp
  have HE := Lib.hid he
  clear he
  go_enter Tryd.func91, Tryd.ntmps91
  go_wp2_with (first
    | (go_at_call 111; refine (start_any _).mono ?_; rintro e w1 ⟨rfl, hb1⟩; have hz1 := hb1.size)
    | (refine wpList_store_new rfl 132 (.tmp 5) (.tmp 6) rfl _ _ (hcells reg0 ⟨#[]⟩ 0) rfl rfl info51 rfl (one51 _ _ _) ?_; intro w2 hg2 hb2; have hB2 : Below w.heap.size w w2 := hb1.trans (hb2.mono hz1); have hK2 := hK.below hB2 hw))
  go_fit (add_any a _ 0 w1.heap.size w.heap.size reg0 _ (by show 0 + _ ≤ _; omega) (by omega) (by omega) hg2 hK2 reg0_bd hz1 hw)
  rintro e w3 ⟨rfl, hg3, hb3⟩
  rw [HE.out] at hg3
  have hK3 := hK2.below hb3 hw
  have hr3 := rest_size a
  have hm : a.size % 64 < 64 := Nat.mod_lt _ (by omega)
  go_wp2_with (fail)
  go_fit (add_any b _ _ w1.heap.size w.heap.size _ _ (by rw [hr3]; omega) (by omega) (by omega) hg3 hK3 (foldB_bd reg0_bd _ _) hz1 hw)
  clear hr3
  rintro e w4 ⟨rfl, hg4, hb4⟩
  rw [foldB_next, rest_next] at hg4
  have hK4 := hK3.below hb4 hw
  have hr4 := rest_size (a ++ b)
  have hn : 0 + (a.size : Int) + (b.size : Int) = ((a.size + b.size : Nat) : Int) := by omega
  rw [hn] at hg4
  clear hn
  have HF := Lib.hid (finR_sha (a ++ b) (a.size + b.size) (ByteArray.size_append).symm)
  have hr4' : ((a ++ b).extract (64 * ((a ++ b).size / 64)) (a ++ b).size).size < 64 := by rw [hr4]; omega
  clear hr4
  go_wp2_with (fail)
  go_fit (finish_any _ _ w1.heap.size w.heap.size _ _ hr4' hs hg4 hK4 (foldB_bd reg0_bd _ _) hz1 hw)
  rintro e w5 ⟨rfl, hb5⟩
  rw [HF.out]
  go_wp2
  go_ret
  exact ⟨rfl, hB2.trans (hb3.trans (hb4.trans hb5))⟩

def MaxB : Nat := 20000
set_option maxHeartbeats 1600000 in
theorem implDigest_any (t : ByteArray) (w : World) (hs : t.size ≤ 20000) (hK : Keys w) (hw : 2 < w.heap.size) :
    Calls Tryd.prog 70 #[.string t] w fun e w' => e = .returned (.string (sha t)) ∧ Below w.heap.size w w' := by
  have HE : Hid (t ++ (⟨#[]⟩ : ByteArray) = t) := by unfold Hid; apply ba_ext; simp
  have HD := Lib.hid (digestOf_any t ⟨#[]⟩ w (by show _ + 0 ≤ _; omega) hK hw)
  rw [HE.out] at HD
  go_enter Tryd.func70, Tryd.ntmps70
  go_wp2_with (first
    | (go_at_call 46; go_in)
    | (go_at_call 91; refine HD.out.mono ?_; rintro e w1 ⟨rfl, hb1⟩))
  go_ret
  exact ⟨rfl, hb1⟩
set_option maxHeartbeats 1600000 in
theorem implDigest_out (t : ByteArray) (w : World) (hs : t.size ≤ maxLen) (h : 20000 < t.size) :
    Calls Tryd.prog 70 #[.string t] w fun e w' => e = .returned (.string ⟨#[]⟩) ∧ Below w.heap.size w w' := by
  unfold maxLen at hs
  go_enter Tryd.func70, Tryd.ntmps70
  go_wp2
  go_ret
  exact ⟨rfl, Below.refl _ _⟩

noncomputable def padS (key : ByteArray) (p : Int) : ByteArray := strOfNums (padL key p)
theorem padS_size (key : ByteArray) (p : Int) : (padS key p).size = 64 := by unfold padS padL; rw [strOfNums_size]; simp
noncomputable def shortKey (key : ByteArray) : ByteArray := if key.size ≤ 64 then key else sha key
theorem shortKey_size (key : ByteArray) : (shortKey key).size ≤ 64 := by unfold shortKey; split; assumption; rw [sha_size]; omega
noncomputable def mac (key t : ByteArray) : ByteArray := sha (padS (shortKey key) 92 ++ sha (padS (shortKey key) 54 ++ t))
theorem mac_size (key t : ByteArray) : (mac key t).size = 32 := sha_size _

theorem padded_S (key : ByteArray) (p : Int) (w : World) (hs : key.size ≤ 64) (p0 : 0 ≤ p) (p1 : p ≤ 255) :
    Calls Tryd.prog 94 #[.string key, .int .u8 p] w fun e w' => e = .returned (.string (padS key p)) ∧ Below w.heap.size w w' := padded_any key p w hs p0 p1
set_option maxHeartbeats 1600000 in
theorem implMac_any (key t : ByteArray) (w : World) (hk : key.size ≤ 20000) (hs : t.size ≤ 20000) (hK : Keys w) (hw : 2 < w.heap.size) :
    Calls Tryd.prog 74 #[.string key, .string t] w fun e w' => e = .returned (.string (mac key t)) ∧ Below w.heap.size w w' := by
  obtain ⟨sk, HSK⟩ : ∃ sk, Hid (shortKey key = sk) := ⟨_, Lib.hid rfl⟩
  have hsk : sk.size ≤ 64 := by rw [← HSK.out]; exact shortKey_size key
  have HM : Hid (mac key t = sha (padS sk 92 ++ sha (padS sk 54 ++ t))) := by unfold Hid mac; rw [HSK.out]
  have hp1 := padS_size sk 54
  have hp2 := padS_size sk 92
  have hd1 := sha_size (padS sk 54 ++ t)
  have HP1 := Lib.hid hp1
  have HP2 := Lib.hid hp2
  have HD1 := Lib.hid hd1
  clear hp1 hp2 hd1
  by_cases h64 : key.size ≤ 64
  · obtain rfl : key = sk := by rw [← HSK.out]; unfold shortKey; rw [if_pos h64]
    go_enter Tryd.func74, Tryd.ntmps74
    go_wp2_with (go_at_call 46; go_in)
    refine (padded_S key 54 _ h64 (by omega) (by omega)).mono ?_
    rintro e w1 ⟨rfl, hb1⟩
    have hz1 := hb1.size
    have hK1 := hK.below hb1 hw
    go_wp2_with (fail)
    refine (digestOf_any (padS key 54) t _ (by rw [HP1.out]; omega) hK1 (by omega)).mono ?_
    rintro e w2 ⟨rfl, hb2⟩
    have hz2 := hb2.size
    have hK2 := hK1.below hb2 (by omega)
    go_wp2_with (fail)
    refine (padded_S key 92 _ h64 (by omega) (by omega)).mono ?_
    rintro e w3 ⟨rfl, hb3⟩
    have hz3 := hb3.size
    have hK3 := hK2.below hb3 (by omega)
    go_wp2_with (fail)
    refine (digestOf_any (padS key 92) _ _ (by rw [HP2.out, HD1.out]; omega) hK3 (by omega)).mono ?_
    rintro e w4 ⟨rfl, hb4⟩
    go_wp2
    go_ret
    exact ⟨retS HM.out.symm, hb1.trans ((hb2.mono hz1).trans ((hb3.mono (Nat.le_trans hz1 hz2)).trans (hb4.mono (Nat.le_trans hz1 (Nat.le_trans hz2 hz3)))))⟩
  · have HS : Hid (sha key = sk) := by unfold Hid; rw [← HSK.out]; unfold shortKey; rw [if_neg h64]
    go_enter Tryd.func74, Tryd.ntmps74
    go_wp2_with (first
      | (go_at_call 46; go_in)
      | (go_at_call 70; refine (implDigest_any key _ hk hK hw).mono ?_; rintro e w0 ⟨rfl, hb0⟩; rw [HS.out]; have hz0 := hb0.size; have hK0 := hK.below hb0 hw))
    refine (padded_S sk 54 _ hsk (by omega) (by omega)).mono ?_
    rintro e w1 ⟨rfl, hb1⟩
    have hz1 := hb1.size
    have hK1 := hK0.below hb1 (by omega)
    go_wp2_with (fail)
    refine (digestOf_any (padS sk 54) t _ (by rw [HP1.out]; omega) hK1 (by omega)).mono ?_
    rintro e w2 ⟨rfl, hb2⟩
    have hz2 := hb2.size
    have hK2 := hK1.below hb2 (by omega)
    go_wp2_with (fail)
    refine (padded_S sk 92 _ hsk (by omega) (by omega)).mono ?_
    rintro e w3 ⟨rfl, hb3⟩
    have hz3 := hb3.size
    have hK3 := hK2.below hb3 (by omega)
    go_wp2_with (fail)
    refine (digestOf_any (padS sk 92) _ _ (by rw [HP2.out, HD1.out]; omega) hK3 (by omega)).mono ?_
    rintro e w4 ⟨rfl, hb4⟩
    go_wp2
    go_ret
    exact ⟨retS HM.out.symm, hb0.trans ((hb1.mono hz0).trans ((hb2.mono (Nat.le_trans hz0 hz1)).trans ((hb3.mono (Nat.le_trans hz0 (Nat.le_trans hz1 hz2))).trans (hb4.mono (Nat.le_trans hz0 (Nat.le_trans hz1 (Nat.le_trans hz2 hz3)))))))⟩

set_option maxHeartbeats 1600000 in
theorem implMac_out (key t : ByteArray) (w : World) (hk : key.size ≤ maxLen) (hs : t.size ≤ maxLen) (h : 20000 < key.size ∨ 20000 < t.size) :
    Calls Tryd.prog 74 #[.string key, .string t] w fun e w' => e = .returned (.string ⟨#[]⟩) ∧ Below w.heap.size w w' := by
  unfold maxLen at hs hk
  by_cases k1 : 20000 < key.size <;> by_cases k2 : 20000 < t.size <;> try omega
  all_goals
    go_enter Tryd.func74, Tryd.ntmps74
    go_wp2
    go_ret
    exact ⟨rfl, Below.refl _ _⟩

/-- A password stretched. -/
noncomputable def stretch (pass : ByteArray) : Nat → ByteArray
  | 0 => ⟨#[115, 97, 108, 116]⟩
  | k + 1 => mac pass (stretch pass k)
theorem stretch_size (pass : ByteArray) (k : Nat) : (stretch pass k).size ≤ 32 := by
  cases k with
  | zero => show 4 ≤ 32; omega
  | succ k => show (mac _ _).size ≤ 32; rw [mac_size]; omega
end Go.Proofs.YtodnmbppgjbpmaaDoor

namespace Go.Proofs.YtodnmbppgjbpmaaDoor
open Go.RowKit
set_option linter.unusedVariables false
set_option maxRecDepth 1000000

theorem one_str8 (b : Int) (w : World) : (convert 22 9 (.slice (some ⟨w.heap.size, 0, none⟩) 1 1)).run Tryd.prog (w.alloc (.cells #[.int .u8 b] 5)) = .ok (.string (strOfNums [b])) (w.alloc (.cells #[.int .u8 b] 5)) :=
  own_string (base := w.heap.size) (n := 1) (ns := [b]) (World.ownsRow_lit w #[.int .u8 b] 1 (Nat.le_refl _) (by decide) rfl)
/-- The digits of a number. -/
def decB (n : Nat) : ByteArray := ⟨(Lib.decDigits n).toArray⟩
theorem decB_size (n : Nat) : (decB n).size = Lib.nDigits n := by
  show (Lib.decDigits n).toArray.size = _
  simp [Lib.decDigits_length]
theorem nDigits_le (n : Nat) (h : n ≤ 999999) : 1 ≤ Lib.nDigits n ∧ Lib.nDigits n ≤ 6 := by
  refine ⟨Lib.nDigits_pos n, ?_⟩
  by_cases h1 : n < 10
  · rw [Lib.nDigits_small h1]; omega
  rw [Lib.nDigits_big h1]
  by_cases h2 : n / 10 < 10
  · rw [Lib.nDigits_small h2]; omega
  rw [Lib.nDigits_big h2]
  by_cases h3 : n / 10 / 10 < 10
  · rw [Lib.nDigits_small h3]; omega
  rw [Lib.nDigits_big h3]
  by_cases h4 : n / 10 / 10 / 10 < 10
  · rw [Lib.nDigits_small h4]; omega
  rw [Lib.nDigits_big h4]
  by_cases h5 : n / 10 / 10 / 10 / 10 < 10
  · rw [Lib.nDigits_small h5]; omega
  rw [Lib.nDigits_big h5, Lib.nDigits_small (by omega)]
  omega
theorem decB_step (n q : Nat) (s : ByteArray) (h : 0 < q) (e : decB n = decB q ++ s) : decB n = (if q / 10 = 0 then strOfNums [48 + (q % 10 : Nat)] ++ s else decB (q / 10) ++ (strOfNums [48 + (q % 10 : Nat)] ++ s)) := by
  have hc : strOfNums [48 + ((q % 10 : Nat) : Int)] = ⟨#[UInt8.ofNat (48 + q % 10)]⟩ := by
    unfold strOfNums
    simp only [List.map_cons, List.map_nil]
    congr 3
  rw [e, hc]
  split
  · rename_i h0
    have : q < 10 := by omega
    have e1 : decB q = ⟨#[UInt8.ofNat (48 + q % 10)]⟩ := by
      unfold decB
      rw [Lib.decDigits_one this, Nat.mod_eq_of_lt this]
    rw [e1]
  · rename_i h0
    have : ¬ q < 10 := by omega
    have e1 : decB q = decB (q / 10) ++ ⟨#[UInt8.ofNat (48 + q % 10)]⟩ := by
      unfold decB
      rw [show Lib.decDigits q = Lib.decDigits (q / 10) ++ [UInt8.ofNat (48 + q % 10)] by rw [Lib.decDigits, dif_neg this]]
      rw [← str_append]
    rw [e1, ByteArray.append_assoc]

set_option maxHeartbeats 2000000 in
theorem l01Dec_nat (n : Nat) (w : World) (h1 : n ≤ 999999) :
    Calls Tryd.prog 42 #[.int .i64 (n : Int)] w fun e w' => e = .returned (.string (decB n)) ∧ Below w.heap.size w w' := by
  by_cases hz : n = 0
  · subst hz
    go_enter Tryd.func42, Tryd.ntmps42
    go_wp2
    go_ret
    refine ⟨retS ?_, Below.refl _ _⟩
    unfold decB
    rw [Lib.decDigits_one (by omega)]
    rfl
  have d0 : ((n : Int) == 0) = false := by simp; omega
  have d1 : decide ((n : Int) < 0) = false := by simp
  go_enter Tryd.func42, Tryd.ntmps42
  go_wp2
  go_loopw [0, 4] (fun m o wr => ∃ (q : Nat) (s : ByteArray), m = .int .i64 q ∧ o = .string s ∧ q ≤ 999999 ∧ Hid (if q = 0 then decB n = s else decB n = decB q ++ s) ∧ s.size ≤ 6 ∧ Below w.heap.size w wr) (fun m _ _ => (intOf m).toNat)
  case atStart => exact ⟨n, ⟨#[]⟩, rfl, rfl, by omega, Lib.hid (by rw [if_neg hz]; exact (ByteArray.append_empty ..).symm), by show 0 ≤ 6; omega, Below.refl _ _⟩
  case round =>
    obtain ⟨q, s, rfl, rfl, q9, HQ, hss, hb⟩ := hrel
    by_cases hq : q = 0
    · subst hq
      have e := HQ.out
      rw [if_pos rfl] at e
      clear HQ
      have HE := Lib.hid e
      clear e
      go_wp2
      go_ret
      exact ⟨retS HE.out.symm, hb⟩
    · have dz : ((q : Int) != 0) = true := by simpa using hq
      have hm0 := Int.emod_nonneg (q : Int) (show (10 : Int) ≠ 0 by decide)
      have hm1 := Int.emod_lt_of_pos (q : Int) (show (0 : Int) < 10 by decide)
      have dl : decide ((q : Int) % 10 < 0) = false := by simp; omega
      have hcv := fun W => one_str8 (48 + (q : Int) % 10) W
      have e := HQ.out
      rw [if_neg hq] at e
      have HS := Lib.hid (decB_step n q s (by omega) e)
      obtain ⟨c, HC⟩ : ∃ c, Hid (strOfNums [48 + (q : Int) % 10] = c) := ⟨_, Lib.hid rfl⟩
      have hc1 : c.size ≤ 1 := by rw [← HC.out, strOfNums_size]; exact Nat.le_refl _
      rw [HC.out] at hcv
      clear e HQ
      go_wp2
      have e2 : (q : Int) / 10 = ((q / 10 : Nat) : Int) := by omega
      have e3 : (q : Int) % 10 = ((q % 10 : Nat) : Int) := by omega
      have hs := HS.out
      rw [← e3, HC.out] at hs
      have hl := decB_size n
      have hn := (nDigits_le n h1).2
      refine ⟨⟨q / 10, c ++ s, by rw [e2], rfl, by omega, Lib.hid ?_, ?_, hb.alloc hb.size _⟩, by simp [intOf]; omega⟩
      · split
        · rename_i h0; rw [if_pos h0] at hs; exact hs
        · rename_i h0; rw [if_neg h0] at hs; exact hs
      · split at hs
        · rw [← hs]; omega
        · have := congrArg ByteArray.size hs
          rw [ByteArray.size_append (a := decB (q / 10))] at this
          omega
end Go.Proofs.YtodnmbppgjbpmaaDoor

namespace Go.Proofs.YtodnmbppgjbpmaaDoor
open Go.RowKit
set_option linter.unusedVariables false

theorem str_beq_t {a b : ByteArray} (h : a = b) : (a.toList == b.toList) = true := by rw [h]; simp
theorem str_beq_f {a b : ByteArray} (h : ¬ a = b) : (a.toList == b.toList) = false := by
  rw [beq_eq_false_iff_ne]; intro e; rw [Lib.toList_data, Lib.toList_data] at e; exact h (ByteArray.ext (Array.toList_inj.1 e))
theorem str_bne_f {a b : ByteArray} (h : a = b) : (a.toList != b.toList) = false := by rw [bne, str_beq_t h]; rfl
theorem str_bne_t {a b : ByteArray} (h : ¬ a = b) : (a.toList != b.toList) = true := by rw [bne, str_beq_f h]; rfl
end Go.Proofs.YtodnmbppgjbpmaaDoor
