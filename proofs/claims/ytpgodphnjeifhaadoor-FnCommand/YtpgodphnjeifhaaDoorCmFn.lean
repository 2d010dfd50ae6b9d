/- FnCommand: what a draw of commands shows. -/
import Derived.Test.YtpgodphnjeifhaaDoorDrCmD
import Derived.Test.YtpgodphnjeifhaaDoorCmReadT
import Derived.Test.YtpgodphnjeifhaaDoorCmName
namespace Go.Proofs.YtpgodphnjeifhaaDoor
open Go.RowKit
set_option linter.unusedVariables false
set_option linter.unusedSimpArgs false
set_option maxRecDepth 1000000

theorem read_back {d : Cmd} (hd : d.drawn) (h : cmdB d = true) : readCmd d.enc = (d, 0) := by
  have hz := enc_size hd
  obtain ⟨h1, h2, h3, h4, h5, h6, h7⟩ := hd
  have hr := readC_of h1 h2 h3 h4 (by omega) (by omega) (by omega)
  have hg : goodR d.enc = true := by unfold goodR; rw [hr]; simp [h]
  unfold readCmd
  rw [if_neg (by omega), if_pos hg, hr]
theorem enc_pos (d : Cmd) : 0 < d.enc.size := by
  have := numS_size d.client
  have := vint_pos (zig d.client)
  unfold Cmd.enc
  simp only [ByteArray.size_append]
  omega
theorem list_pos {s : ByteArray} (h : 0 < s.size) : s.toList.isEmpty = false := by
  have := empty_list (s := s) (decide_eq_false (by omega))
  cases hl : s.toList with
  | nil => rw [hl] at this; cases this
  | cons y l => rfl
theorem kindN_pos {k : Int} (h1 : 1 ≤ k) (h2 : k ≤ 7) : 0 < (kindN k).size := by
  rcases (show k = 1 ∨ k = 2 ∨ k = 3 ∨ k = 4 ∨ k = 5 ∨ k = 6 ∨ k = 7 by omega) with rfl | rfl | rfl | rfl | rfl | rfl | rfl <;> decide
theorem read_ok {s : ByteArray} (h : (readCmd s).2 = 0) : cmdBytes (readCmd s).1 = s ∧ (readCmd s).1.small := by
  unfold readCmd at h ⊢
  split
  · rename_i h1; rw [if_pos h1] at h; cases h
  · rename_i h1
    rw [if_neg h1] at h
    split
    · rename_i h2
      refine ⟨?_, read_small (by omega)⟩
      cases ho : (readC s).2 with
      | none => rw [good_none ho] at h2; cases h2
      | some q =>
        rw [good_some ho, str_eq_b] at h2
        exact of_decide_eq_true h2
    · rename_i h2; rw [if_neg h2] at h; cases h
theorem eqCo (a b k : Int) (t g x : ByteArray) (n cd : Int) (w : World) : (Op.equalIn 10000 31 (coutV a b k t g x n cd) (coutV a b k t g x n cd)).run Tryd.prog w = .ok true w := by
  have u2 := Tryd.underlying2
  have u9 := Tryd.underlying9
  have hS : Tryd.prog.underlying 31 = some (.struct (Tryd.prog.fieldsOf 31)) := by kernel_rfl
  have hp : Tryd.prog.stoodInHeld 31 = false := by kernel_rfl
  have hS1 : Tryd.prog.underlying 24 = some (.struct (Tryd.prog.fieldsOf 24)) := by kernel_rfl
  have hp1 : Tryd.prog.stoodInHeld 24 = false := by kernel_rfl
  have hq : ∀ W, (Op.equalIn 9999 24 (cmdV a b k t g x n) (cmdV a b k t g x n)).run Tryd.prog W = .ok true W := by
    intro W
    rw [show (9999 : Nat) = 9998 + 1 from rfl, run_equalIn_agg W 9998 24 _ _ hS1 hp1]
    simp only [Program.fieldsOf, Tryd.underlying24]
    go_simp
  rw [show (10000 : Nat) = 9999 + 1 from rfl, run_equalIn_agg w 9999 31 _ _ hS hp]
  simp only [Program.fieldsOf, Tryd.underlying31]
  go_simp
theorem noGuardO : Tryd.prog.eqGuardType Tryd.prog.depth 31 = false := by kernel_rfl
theorem lawCommandBig (A1 A2 : Option Addr) (n1 n2 c1 c2 : Nat) (w : World) (h : 1048576 < n1 ∨ 1048576 < n2) (hn1 : n1 ≤ maxLen) (hn2 : n2 ≤ maxLen) :
    Calls Tryd.prog 3 #[.slice A1 n1 c1, .slice A2 n2 c2] w fun e w' => e = .returned (.bool true) ∧ Below w.heap.size w w' := by
  unfold maxLen at hn1 hn2
  by_cases k1 : 1048576 < n1 <;> by_cases k2 : 1048576 < n2 <;> try omega
  all_goals
    go_enter Tryd.func3, Tryd.ntmps3
    go_wp2
    go_ret
    exact ⟨rfl, Below.refl _ _⟩
theorem bts_upC {w w' : World} {A : Option Addr} {n : Nat} (h : Bts w w.heap.size A n) (hb : Below w.heap.size w w') : Bts w' w'.heap.size A n :=
  ⟨h.1, fun i hi => by
    obtain ⟨a, x, e, h1, h2, h3⟩ := h.2 i hi
    refine ⟨a, x, e, Nat.lt_of_lt_of_le h1 hb.size, ?_, h3⟩
    rw [hb.cell (p := a.add i) (by rw [add_block]; exact h1)]; exact h2⟩
set_option maxHeartbeats 8000000 in
theorem lawCommandIn (A1 A2 : Option Addr) (n1 n2 c1 c2 : Nat) (w : World) (h1 : Bts w w.heap.size A1 n1) (h2 : Bts w w.heap.size A2 n2) (hg : Handle w) :
    Calls Tryd.prog 3 #[.slice A1 n1 c1, .slice A2 n2 c2] w fun e w' => e = .returned (.bool true) ∧ Below w.heap.size w w' := by
  have l1 := h1.1
  have l2 := h2.1
  have b1 : decide (1048576 < (n1 : Int)) = false := by simp; omega
  have b2 : decide (1048576 < (n2 : Int)) = false := by simp; omega
  have heg := noGuardO
  go_enter Tryd.func3, Tryd.ntmps3
  go_wp2_with (fail)
  refine (drawCommandBytes_any A1 n1 c1 _ h1).mono ?_
  rintro e w1 ⟨d, rfl, hdr, hw1⟩
  have hsm := hdr.small
  have BI := Lib.hid (implCommandBytes_any d hsm)
  have BS := Lib.hid (specCommandBytes_any d hsm)
  have RI := Lib.hid (implCommandRight_any d hsm)
  have RS := Lib.hid (specCommandRight_any d hsm)
  have RB := Lib.hid (fun h => read_back hdr h)
  have hz := cmdBytes_size hdr
  have HK := Lib.hid (fun h => kindN_pos (cmdB_sizes (c := d) h).2.2.1.1 (cmdB_sizes h).2.2.1.2)
  have HB : Hid (cmdB d = true → cmdBytes d = d.enc) := Lib.hid fun h => by simp [cmdBytes, h]
  have HZ : Hid (cmdB d = false → cmdBytes d = ⟨#[]⟩) := Lib.hid fun h => by simp [cmdBytes, h]
  have HP := Lib.hid (enc_pos d)
  have ID := Lib.hid (fun W h => implCommandRead_any (cmdBytes d) W h (by have := hz; unfold maxLen; omega))
  obtain ⟨rr, hrr⟩ : ∃ r, cmdB d = r := ⟨_, rfl⟩
  cases rr
  case' true => rw [HB.out hrr, RB.out hrr] at ID; have HN := Lib.hid (list_pos (HK.out hrr)); have HL := Lib.hid (list_pos HP.out); rw [← HB.out hrr] at HL ID; generalize cmdBytes d = bs at BI BS ID HL hz
  case' false => rw [HZ.out hrr] at BI BS
  all_goals
    rw [hrr] at RI RS
    clear HB HZ RB HP HK hdr hsm hrr
    obtain ⟨a, b, k, t, g, x, n⟩ := d
    have KN := Lib.hid (implCommandName_any k)
    unfold Cmd.v at BI BS RI RS ⊢
    unfold Cmd.out at ID
    simp only at BI BS RI RS ID ⊢
    first | (simp only at HN; generalize kindN k = kn at KN HN) | generalize kindN k = kn at KN
    have hB := Blk.fresh w1 24 [.int .i64 a, .int .i64 b, .int .i64 k, .string t, .string g, .string x, .int .i64 n]
    have hw2 := hw1.alloc hw1.size (.cells #[.int .i64 a, .int .i64 b, .int .i64 k, .string t, .string g, .string x, .int .i64 n] 24)
    simp only [List.toArray] at hB
    have d0 := hB.cell (i := 0) rfl
    have d1 := hB.cell (i := 1) rfl
    have d2 := hB.cell (i := 2) rfl
    have d3 := hB.cell (i := 3) rfl
    have d4 := hB.cell (i := 4) rfl
    have d5 := hB.cell (i := 5) rfl
    have d6 := hB.cell (i := 6) rfl
    go_wp2_with (fail)
    clear d0 d1 d2 d3 d4 d5 d6
    generalize w1.alloc (.cells #[.int .i64 a, .int .i64 b, .int .i64 k, .string t, .string g, .string x, .int .i64 n] 24) = w2 at hB hw2 ⊢
    generalize w1.heap.size = p at hB ⊢
    refine (BI.out _).mono ?_
    rintro e w3 ⟨rfl, hb3⟩
    replace hB := hB.below hb3 hB.lt
    have hw3 := hw2.trans (hb3.mono hw2.size)
    clear hb3 hw2
    go_wp2_with (fail)
    refine (drawCommandName_any A2 n2 c2 _ (bts_upC h2 hw3)).mono ?_
    rintro e w6 ⟨v, rfl, hb6⟩
    replace hB := hB.below hb6 hB.lt
    have hw6 := hw3.trans (hb6.mono hw3.size)
    clear hb6 hw3
    have NI := Lib.hid (implCommandName_any v)
    have NS := Lib.hid (specCommandName_any v)
    generalize kindN v = nm at NI NS
    go_wp2_with (fail)
    try (have HLo := HL.out; have HNo := HN.out; clear HL HN)
    have hqd := fun W => eqCo a b k t g x n 0 W
    obtain ⟨I, f, hI, g0, gk, gc, ge⟩ := class_grown w6
    have x0 := fun s => kept_cell (gk s) (hB.cell (i := 0) rfl)
    have x1 := fun s => kept_cell (gk s) (hB.cell (i := 1) rfl)
    have x2 := fun s => kept_cell (gk s) (hB.cell (i := 2) rfl)
    have x3 := fun s => kept_cell (gk s) (hB.cell (i := 3) rfl)
    have x4 := fun s => kept_cell (gk s) (hB.cell (i := 4) rfl)
    have x5 := fun s => kept_cell (gk s) (hB.cell (i := 5) rfl)
    have x6 := fun s => kept_cell (gk s) (hB.cell (i := 6) rfl)
    refine wp_region_kept f (by kernel_rfl) (by kernel_rfl) g0 ?_
    repeat (first
        | go_big_quiet_skip
        | (go_big_quiet_want; go_big_quiet_op; first
          | go_big_quiet_on
          | (apply Exists.intro; refine ⟨fun s => ?_, ?_⟩; (go_at_call 8; (with_reducible refine (BS.out _).mono ?_); rintro e w4 ⟨rfl, hb4⟩; exact ⟨rfl, gc _ _ hb4⟩); go_big_quiet_on)
          | (apply Exists.intro; refine ⟨fun s => ?_, ?_⟩; (go_at_call 9; (with_reducible refine (RI.out _).mono ?_); rintro e w4 ⟨rfl, hb4⟩; exact ⟨rfl, gc _ _ hb4⟩); go_big_quiet_on)
          | (apply Exists.intro; refine ⟨fun s => ?_, ?_⟩; (go_at_call 10; (with_reducible refine (RS.out _).mono ?_); rintro e w4 ⟨rfl, hb4⟩; exact ⟨rfl, gc _ _ hb4⟩); go_big_quiet_on)
          | (apply Exists.intro; refine ⟨fun s => ?_, ?_⟩; (go_at_call 11; (with_reducible refine (NI.out _).mono ?_); rintro e w4 ⟨rfl, hb4⟩; exact ⟨rfl, gc _ _ hb4⟩); go_big_quiet_on)
          | (apply Exists.intro; refine ⟨fun s => ?_, ?_⟩; (go_at_call 11; (with_reducible refine (KN.out _).mono ?_); rintro e w4 ⟨rfl, hb4⟩; exact ⟨rfl, gc _ _ hb4⟩); go_big_quiet_on)
          | (apply Exists.intro; refine ⟨fun s => ?_, ?_⟩; (go_at_call 12; (with_reducible refine (NS.out _).mono ?_); rintro e w4 ⟨rfl, hb4⟩; exact ⟨rfl, gc _ _ hb4⟩); go_big_quiet_on)
          | (apply Exists.intro; refine ⟨fun s => ?_, ?_⟩; (go_at_call 13; (with_reducible refine (ID.out _ (Handle.below hg (hw6.trans ((gk _).mono hw6.size)))).mono ?_); rintro e w4 ⟨rfl, hb4⟩; exact ⟨rfl, gc _ _ hb4⟩); go_big_quiet_on)))
    refine wpQuiet_nil ?_
    intro w5 h5
    have hb5 := ge _ h5
    clear x0 x1 x2 x3 x4 x5 x6
    have hw7 := hw6.trans (hb5.mono hw6.size)
    clear hB hb5 hw6
    go_wp2_with (fail)
    refine (drawCommandRead_any A2 n2 c2 _ (bts_upC h2 hw7)).mono ?_
    rintro e w8 ⟨u, rfl, hu, hb8⟩
    have hw8 := hw7.trans (hb8.mono hw7.size)
    clear hb8 hw7
    have UI := Lib.hid (fun W h => implCommandRead_any u W h (by unfold maxLen; omega))
    have US := Lib.hid (fun W => specCommandRead_any u W (by unfold maxLen; omega))
    have UO := Lib.hid (fun h => read_ok (s := u) h)
    obtain ⟨⟨d', cd⟩, hres⟩ : ∃ r, readCmd u = r := ⟨_, rfl⟩
    rw [hres] at UI US UO
    have UB := Lib.hid (fun h W => implCommandBytes_any d' (UO.out h).2 W)
    have UE := Lib.hid (fun h => (UO.out h).1)
    simp only at UI US UB UE
    clear hres UO
    obtain ⟨a', b', k', t', g', x', n'⟩ := d'
    unfold Cmd.out at UI US
    unfold Cmd.v at UB
    simp only at UI US UB
    go_wp2_with (fail)
    refine (UI.out _ (Handle.below hg hw8)).mono ?_
    rintro e w9 ⟨rfl, hb9⟩
    have hw9 := hw8.trans (hb9.mono hw8.size)
    have hB := Blk.fresh w9 31 [.int .i64 a', .int .i64 b', .int .i64 k', .string t', .string g', .string x', .int .i64 n', .int .i64 cd]
    have hwa := hw9.alloc hw9.size (.cells #[.int .i64 a', .int .i64 b', .int .i64 k', .string t', .string g', .string x', .int .i64 n', .int .i64 cd] 31)
    simp only [List.toArray] at hB
    clear hb9 hw9 hw8
    have hq := fun W => eqCo a' b' k' t' g' x' n' cd W
    go_wp2_with (fail)
    generalize w9.alloc (.cells #[.int .i64 a', .int .i64 b', .int .i64 k', .string t', .string g', .string x', .int .i64 n', .int .i64 cd] 31) = wa at hB hwa ⊢
    generalize w9.heap.size = p at hB ⊢
    by_cases hcd : cd = 0
    · have BB := Lib.hid (UB.out hcd)
      have BE := Lib.hid (UE.out hcd)
      rw [BE.out] at BB
      have dcd : (cd != 0) = false := by simp [hcd]
      clear hcd UB UE BE
      obtain ⟨I, f, hI, g0, gk, gc, ge⟩ := class_grown wa
      have x0 := fun s => kept_cell (gk s) (hB.cell (i := 0) rfl)
      have x1 := fun s => kept_cell (gk s) (hB.cell (i := 1) rfl)
      have x2 := fun s => kept_cell (gk s) (hB.cell (i := 2) rfl)
      have x3 := fun s => kept_cell (gk s) (hB.cell (i := 3) rfl)
      have x4 := fun s => kept_cell (gk s) (hB.cell (i := 4) rfl)
      have x5 := fun s => kept_cell (gk s) (hB.cell (i := 5) rfl)
      have x6 := fun s => kept_cell (gk s) (hB.cell (i := 6) rfl)
      have x7 := fun s => kept_cell (gk s) (hB.cell (i := 7) rfl)
      refine wp_region_kept f (by kernel_rfl) (by kernel_rfl) g0 ?_
      repeat (first
          | go_big_quiet_skip
          | (go_big_quiet_want; go_big_quiet_op; first
            | go_big_quiet_on
            | (apply Exists.intro; refine ⟨fun s => ?_, ?_⟩; (go_at_call 15; (with_reducible refine (US.out _).mono ?_); rintro e w4 ⟨rfl, hb4⟩; exact ⟨rfl, gc _ _ hb4⟩); go_big_quiet_on)
            | (apply Exists.intro; refine ⟨fun s => ?_, ?_⟩; (go_at_call 6; (with_reducible refine (BB.out _).mono ?_); rintro e w4 ⟨rfl, hb4⟩; exact ⟨rfl, gc _ _ hb4⟩); go_big_quiet_on)))
      refine wpQuiet_nil ?_
      intro w5 h5
      have hb5 := ge _ h5
      clear x0 x1 x2 x3 x4 x5 x6 x7
      have hwb := hwa.trans (hb5.mono hwa.size)
      go_wp2
      go_ret
      exact ⟨rfl, hwb⟩
    · have dcd : (cd != 0) = true := by simp [hcd]
      clear hcd UB UE
      obtain ⟨I, f, hI, g0, gk, gc, ge⟩ := class_grown wa
      have x0 := fun s => kept_cell (gk s) (hB.cell (i := 0) rfl)
      have x1 := fun s => kept_cell (gk s) (hB.cell (i := 1) rfl)
      have x2 := fun s => kept_cell (gk s) (hB.cell (i := 2) rfl)
      have x3 := fun s => kept_cell (gk s) (hB.cell (i := 3) rfl)
      have x4 := fun s => kept_cell (gk s) (hB.cell (i := 4) rfl)
      have x5 := fun s => kept_cell (gk s) (hB.cell (i := 5) rfl)
      have x6 := fun s => kept_cell (gk s) (hB.cell (i := 6) rfl)
      have x7 := fun s => kept_cell (gk s) (hB.cell (i := 7) rfl)
      refine wp_region_kept f (by kernel_rfl) (by kernel_rfl) g0 ?_
      repeat (first
          | go_big_quiet_skip
          | (go_big_quiet_want; go_big_quiet_op; first
            | go_big_quiet_on
            | (apply Exists.intro; refine ⟨fun s => ?_, ?_⟩; (go_at_call 15; (with_reducible refine (US.out _).mono ?_); rintro e w4 ⟨rfl, hb4⟩; exact ⟨rfl, gc _ _ hb4⟩); go_big_quiet_on)))
      refine wpQuiet_nil ?_
      intro w5 h5
      have hb5 := ge _ h5
      clear x0 x1 x2 x3 x4 x5 x6 x7
      have hwb := hwa.trans (hb5.mono hwa.size)
      go_wp2
      go_ret
      exact ⟨rfl, hwb⟩
theorem lawCommandAll (A1 : Option Addr) (n1 c1 : Nat) (A2 : Option Addr) (n2 c2 : Nat) (w : World) (h1 : Byt w A1 n1) (h2 : Byt w A2 n2) (hg : Handle w) :
    Calls Tryd.prog 3 #[.slice A1 n1 c1, .slice A2 n2 c2] w fun e w' => e = .returned (.bool true) ∧ Below w.heap.size w w' := by
  by_cases k1 : n1 ≤ 1048576
  · by_cases k2 : n2 ≤ 1048576
    · exact lawCommandIn A1 A2 n1 n2 c1 c2 w (h1.2 k1) (h2.2 k2) hg
    · exact lawCommandBig A1 A2 n1 n2 c1 c2 w (by omega) h1.1 h2.1
  · exact lawCommandBig A1 A2 n1 n2 c1 c2 w (by omega) h1.1 h2.1
end Go.Proofs.YtpgodphnjeifhaaDoor
