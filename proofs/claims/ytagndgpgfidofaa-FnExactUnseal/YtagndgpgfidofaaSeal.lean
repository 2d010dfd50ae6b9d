/- Contracts of Seal and Unseal. -/
import Derived.Test.YtagndgpgfidofaaText
import Derived.Test.YtagndgpgfidofaaCrc
import Derived.Lib.UnsafeStr
namespace Go.Proofs.Ytagndgpgfidofaa
open Go.RowKit
set_option linter.unusedVariables false

theorem cellsU8 : Try.prog.cellsOf 5 = 1 := by kernel_rfl
theorem splice_one {α : Type} (Z X : List α) (hZ : Z.length = X.length) : splice Z 0 X = X := by simp [splice, hZ]

/-- unsafe.String over the whole of a new row of bytes. -/
theorem run_clone {w : World} {g : Nat} {Z : List Value} {s : ByteArray} (hp : 0 < s.size) (hs : s.size ≤ 1048576)
    (h : Hid (w.heap[g]? = some (.cells (splice Z 0 (Lib.byteCells s.data.toList)).toArray 5 (0, 0)))) (hZ : Hid (Z.length = s.size)) :
    (Builtin.unsafeString_ #[41, 3] 9 #[.pointer (some ⟨g, 0, none⟩), .int .i64 s.size]).run Try.prog w = .ok (.string s) (w.freeze ⟨g, 0, none⟩ s.size) := by
  have e : splice Z 0 (Lib.byteCells s.data.toList) = Lib.byteCells s.data.toList := splice_one _ _ (by rw [bc_len]; exact hZ.out)
  have h' := h.out
  rw [e] at h'
  have hl : s.data.toList.length = s.size := by simp
  have := Lib.run_unsafeString_row (P := Try.prog) w 41 3 9 5 Try.underlying41 cellsU8 g s.size (by simp [World.shape?, h', bc_len]) s.data.toList
    (by intro e; rw [e] at hl; simp at hl; omega) (by omega) (by omega) (by
      intro j x hj
      have hjl : j < s.data.toList.length := (List.getElem?_eq_some_iff.1 hj).1
      have hadd : (⟨g, 0, none⟩ : Addr).add j = ⟨g, j, none⟩ := by unfold Addr.add; split <;> simp_all
      rw [hadd]
      simp [World.cell?, h', Lib.byteCells, hj])
  rw [hl] at this
  exact this

set_option maxHeartbeats 1600000 in
set_option maxRecDepth 1000000 in
theorem slClone_any (s : ByteArray) (w : World) (hs : s.size ≤ 1048576) :
    Calls Try.prog 36 #[.string s] w fun e w' => e = .returned (.string s) ∧ Below w.heap.size w w' := by
  obtain ⟨i0, hi, hz0, hz1, hz2⟩ := info_parts infoU8
  by_cases hz : s.size = 0
  · have he : s = ByteArray.empty := ByteArray.size_eq_zero_iff.1 hz
    subst he
    go_enter Try.func36, Try.ntmps36
    go_wp2
    go_ret
    exact ⟨rfl, Below.refl _ _⟩
  · have hp : 0 < s.size := by omega
    have hne : ((s.size : Int) == 0) = false := by simpa using ne_empty hp
    clear hz
    go_enter Try.func36, Try.ntmps36
    go_wp2_with (first
    | (at_make; refine wpList_make_full _ rfl _ _ 35 rfl w.heap.size 5 i0 (.int .u8 0) 1 Try.underlying35 hi hz0 hz1 _ _ _ _ s.size rfl rfl rfl rfl (by rw [hz2]; omega) (by unfold maxLen; omega) (Nat.le_refl _) ?_; intro w1 hown1 hgrow1; obtain ⟨Z, HG1, hZ⟩ := own_heap' hown1; have HZ := Lib.hid hZ; clear hZ; have hb1 := (Below.refl w.heap.size w).grown hgrow1 (Nat.le_refl _) (fun k e => by cases e); clear hown1 hgrow1)
    | ((with_reducible refine wpList_copy_str rfl (.tmp 10) (.tmp 11) 35 9 rfl 5 Try.underlying35 sizeU8 _ _ _ s rfl rfl w.heap.size 0 _ 5 HG1.out (by omega) (fun _ => rfl) (by rw [HZ.out]; omega) w.heap.size w hb1 (Nat.le_refl _) ?_); intro w2 HG2 hb2; clear HG1 hb1; have hcl := run_clone hp hs HG2 HZ))
    go_ret
    exact ⟨rfl, Lib.below_freeze hb2 (p := ⟨w.heap.size, 0, none⟩) (Nat.le_refl _) _⟩

theorem clone_any (s : ByteArray) (w : World) (hs : s.size ≤ 1048576) :
    Calls Try.prog 35 #[.string s] w fun e w' => e = .returned (.string s) ∧ Below w.heap.size w w' := by
  go_enter Try.func35, Try.ntmps35
  go_wp2_with (go_at_call 36; refine (slClone_any _ _ hs).mono ?_; rintro e w1 ⟨rfl, hb1⟩)
  go_ret
  exact ⟨rfl, hb1⟩

def fourN (n : Int) : List Int := [n % 256, n / 256 % 256, n / 65536 % 256, n / 16777216]
theorem conv_four (a b c d : Int) (w : World) :
    (convert 35 9 (.slice (some ⟨w.heap.size, 0, none⟩) 4 4)).run Try.prog (w.alloc (.cells #[.int .u8 a, .int .u8 b, .int .u8 c, .int .u8 d] 5)) =
      .ok (.string (strOfNums [a, b, c, d])) (w.alloc (.cells #[.int .u8 a, .int .u8 b, .int .u8 c, .int .u8 d] 5)) :=
  own_string (base := w.heap.size) (n := 4) (ns := [a, b, c, d]) (World.ownsRow_lit w #[.int .u8 a, .int .u8 b, .int .u8 c, .int .u8 d] 4 (Nat.le_refl _) (by decide) rfl)

set_option maxHeartbeats 1600000 in
set_option maxRecDepth 1000000 in
theorem four_any (n : Int) (w : World) (h0 : 0 ≤ n) (h1 : n ≤ 4294967295) :
    Calls Try.prog 33 #[.int .i64 n] w fun e w' => e = .returned (.string (strOfNums (fourN n))) ∧ Below w.heap.size w w' := by
  have hcv := conv_four (n % 256) (n / 256 % 256) (n / 65536 % 256) (n / 16777216) w
  go_enter Try.func33, Try.ntmps33
  go_wp2
  go_ret
  exact ⟨rfl, (Below.refl _ _).alloc (Nat.le_refl _) _⟩

set_option maxHeartbeats 1600000 in
set_option maxRecDepth 1000000 in
theorem crcText_any (n : Int) (w : World) (h0 : 0 ≤ n) (h1 : n ≤ 4294967295) :
    Calls Try.prog 34 #[.int .i64 n] w fun e w' => e = .returned (.string (strOfNums (fourN n))) ∧ Below w.heap.size w w' := by
  have hmk : ∀ w, (Instr.makeSlice 35 (.int .i64 4) (.int .i64 4)).run Try.prog w = .ok (.slice (some ⟨w.heap.size, 0, none⟩) 4 4) (w.alloc (.cells #[.int .u8 0, .int .u8 0, .int .u8 0, .int .u8 0] 5)) := fun _ => by kernel_rfl
  have hcv := conv_four (n % 256) (n / 256 % 256) (n / 256 / 256 % 256) (n / 256 / 256 / 256) w
  go_enter Try.func34, Try.ntmps34
  go_wp2
  refine wp_loop_rounds 5 ?_
  rw [rounds_succ]
  go_wp2
  rw [rounds_succ]
  go_wp2
  rw [rounds_succ]
  go_wp2
  rw [rounds_succ]
  go_wp2
  rw [rounds_succ]
  go_wp2
  go_ret
  refine ⟨retS ?_, (Below.refl _ _).alloc (Nat.le_refl _) _⟩
  have e2 : n / 256 / 256 = n / 65536 := by omega
  have e3 : n / 65536 / 256 = n / 16777216 := by omega
  rw [e2, e3]
  rfl

noncomputable def sealS (t : ByteArray) : ByteArray := t ++ strOfNums (fourN (crcOf 0 t))
theorem four_size (n : Int) : (strOfNums (fourN n)).size = 4 := by rw [strOfNums_size]; rfl

set_option maxHeartbeats 1000000 in
theorem specSeal_any (t : ByteArray) (w : World) (h : t.size ≤ 19996) :
    Calls Try.prog 20 #[.string t] w fun e w' => e = .returned (.string (sealS t)) ∧ Below w.heap.size w w' := by
  obtain ⟨c0, c1⟩ := crcOf_bd 0 t
  have HC := Lib.hid (fun w => l01Crc_any 0 t w (by omega) (by omega) (by unfold maxLen; omega))
  obtain ⟨c, HE⟩ : ∃ c, Hid (crcOf 0 t = c) := ⟨_, rfl⟩
  rw [HE.out] at HC c0 c1
  have HF := Lib.hid (fun w => four_any c w c0 c1)
  have hsz := Lib.hid (four_size c)
  obtain ⟨s, HS⟩ : ∃ s, Hid (strOfNums (fourN c) = s) := ⟨_, rfl⟩
  rw [HS.out] at HF hsz
  have hs4 : s.size ≤ 4 := Nat.le_of_eq hsz.out
  go_enter Try.func20, Try.ntmps20
  go_wp2_with (first
    | (go_at_call 31; refine (HC.out _).mono ?_; rintro e w1 ⟨rfl, rfl⟩)
    | (go_at_call 33; refine (HF.out _).mono ?_; rintro e w2 ⟨rfl, hb2⟩))
  go_ret
  exact ⟨retS (by unfold sealS; rw [HE.out, HS.out]), hb2⟩

set_option maxHeartbeats 1000000 in
theorem specSeal_out (t : ByteArray) (w : World) (hs : t.size ≤ maxLen) (h : 19996 < t.size) :
    Calls Try.prog 20 #[.string t] w fun e w' => e = .returned (.string ⟨#[]⟩) ∧ Below w.heap.size w w' := by
  unfold maxLen at hs
  go_enter Try.func20, Try.ntmps20
  go_wp2
  go_ret
  exact ⟨rfl, Below.refl _ _⟩

set_option maxHeartbeats 1000000 in
theorem implSeal_any (t : ByteArray) (w : World) (h : t.size ≤ 19996) :
    Calls Try.prog 21 #[.string t] w fun e w' => e = .returned (.string (sealS t)) ∧ Below w.heap.size w w' := by
  obtain ⟨c0, c1⟩ := crcOf_bd 0 t
  have HC := Lib.hid (fun w => implCrc_any t w (by omega))
  obtain ⟨c, HE⟩ : ∃ c, Hid (crcOf 0 t = c) := ⟨_, rfl⟩
  rw [HE.out] at HC c0 c1
  have HF := Lib.hid (fun w => crcText_any c w c0 c1)
  have hsz := Lib.hid (four_size c)
  obtain ⟨s, HS⟩ : ∃ s, Hid (strOfNums (fourN c) = s) := ⟨_, rfl⟩
  rw [HS.out] at HF hsz
  have hs4 : s.size ≤ 4 := Nat.le_of_eq hsz.out
  go_enter Try.func21, Try.ntmps21
  go_wp2_with (first
    | (go_at_call 17; refine (HC.out _).mono ?_; rintro e w1 ⟨rfl, rfl⟩)
    | (go_at_call 34; refine (HF.out _).mono ?_; rintro e w2 ⟨rfl, hb2⟩)
    | (go_at_call 28; refine (joined_any _ _ _ (by omega)).mono ?_; rintro e w3 ⟨rfl, hb3⟩))
  go_ret
  exact ⟨retS (by unfold sealS; rw [HE.out, HS.out]), hb2.trans (hb3.mono hb2.size)⟩

set_option maxHeartbeats 1000000 in
theorem implSeal_out (t : ByteArray) (w : World) (hs : t.size ≤ maxLen) (h : 19996 < t.size) :
    Calls Try.prog 21 #[.string t] w fun e w' => e = .returned (.string ⟨#[]⟩) ∧ Below w.heap.size w w' := by
  unfold maxLen at hs
  go_enter Try.func21, Try.ntmps21
  go_wp2
  go_ret
  exact ⟨rfl, Below.refl _ _⟩

set_option maxHeartbeats 1000000 in
theorem lawSeal (t : ByteArray) (w0 : t.size ≤ maxLen) (w : World) :
    Calls Try.prog 8 #[.string t] w fun e w' => e = .returned (.bool true) ∧ Below w.heap.size w w' := by
  have hs := w0
  unfold maxLen at hs
  by_cases hl : t.size ≤ 1048576
  · obtain ⟨s, hv⟩ : ∃ s : ByteArray, ∀ w, (Calls Try.prog 20 #[.string t] w fun e w' => e = .returned (.string s) ∧ Below w.heap.size w w') ∧ (Calls Try.prog 21 #[.string t] w fun e w' => e = .returned (.string s) ∧ Below w.heap.size w w') := by
      by_cases k : t.size ≤ 19996
      · exact ⟨_, fun w => ⟨specSeal_any t w k, implSeal_any t w k⟩⟩
      · exact ⟨_, fun w => ⟨specSeal_out t w w0 (by omega), implSeal_out t w w0 (by omega)⟩⟩
    have HV := Lib.hid hv
    clear hv
    go_enter Try.func8, Try.ntmps8
    go_wp2_with (first
      | (go_at_call 20; refine (HV.out _).1.mono ?_; rintro e w1 ⟨rfl, hb1⟩)
      | (go_at_call 21; refine (HV.out _).2.mono ?_; rintro e w2 ⟨rfl, hb2⟩))
    go_ret
    exact ⟨rfl, hb1.trans (hb2.mono hb1.size)⟩
  · go_enter Try.func8, Try.ntmps8
    go_wp2
    go_ret
    exact ⟨rfl, Below.refl _ _⟩

end Go.Proofs.Ytagndgpgfidofaa
