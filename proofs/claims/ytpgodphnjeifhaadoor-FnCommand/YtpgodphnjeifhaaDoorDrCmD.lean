/- DrawCommandBytes, DrawCommandName, DrawCommandRead. -/
import Derived.Test.YtpgodphnjeifhaaDoorDrCm
import Derived.Test.YtpgodphnjeifhaaDoorSpoil
import Derived.Test.YtpgodphnjeifhaaDoorCmB
namespace Go.Proofs.YtpgodphnjeifhaaDoor
open Go.RowKit
set_option linter.unusedVariables false
set_option linter.unusedSimpArgs false
set_option maxRecDepth 1000000

theorem Cmd.drawn.small {c : Cmd} (h : c.drawn) : c.small := by
  obtain ⟨_, _, _, _, h1, h2, h3⟩ := h
  exact ⟨by unfold maxLen; omega, by unfold maxLen; omega, by unfold maxLen; omega⟩
theorem enc_size {c : Cmd} (h : c.drawn) : c.enc.size ≤ 400 := by
  obtain ⟨⟨a1, a2⟩, ⟨b1, b2⟩, ⟨k1, k2⟩, ⟨n1, n2⟩, h1, h2, h3⟩ := h
  have e1 := numS_le a1 a2
  have e2 := numS_le b1 b2
  have e3 := numS_le k1 k2
  have e4 := numS_le n1 n2
  have e5 := ptext_le (t := c.topic) (by omega)
  have e6 := ptext_le (t := c.group) (by omega)
  have e7 := ptext_le (t := c.text) (by omega)
  unfold Cmd.enc
  simp only [ByteArray.size_append]
  omega
theorem cmdBytes_size {c : Cmd} (h : c.drawn) : (cmdBytes c).size ≤ 400 := by
  unfold cmdBytes
  split
  · exact enc_size h
  · exact Nat.zero_le _
set_option maxHeartbeats 2000000 in
theorem drawCommandBytes_any (A : Option Addr) (n c : Nat) (w : World) (h : Bts w w.heap.size A n) :
    Calls Tryd.prog 5 #[.slice A n c] w fun e w' => ∃ d : Cmd, e = .returned d.v ∧ d.drawn ∧ Below w.heap.size w w' := by
  have hR : Blk (w.alloc (.cells #[.int .i64 0, .int .i64 0, .int .i64 0, .string ⟨#[]⟩, .string ⟨#[]⟩, .string ⟨#[]⟩, .int .i64 0] 24)) w.heap.size 24 [.int .i64 0, .int .i64 0, .int .i64 0, .string ⟨#[]⟩, .string ⟨#[]⟩, .string ⟨#[]⟩, .int .i64 0] := Blk.fresh w _ _
  have hw0 := below_box w (.cells #[.int .i64 0, .int .i64 0, .int .i64 0, .string ⟨#[]⟩, .string ⟨#[]⟩, .string ⟨#[]⟩, .int .i64 0] 24)
  go_enter Tryd.func5, Tryd.ntmps5
  go_wp2_with (fail)
  generalize w.alloc (.cells #[.int .i64 0, .int .i64 0, .int .i64 0, .string ⟨#[]⟩, .string ⟨#[]⟩, .string ⟨#[]⟩, .int .i64 0] 24) = v0 at hR hw0 ⊢
  refine (source_any A n c w.heap.size _ (h.of_block fun k hk => hw0.block k hk) hw0.size).mono ?_
  rintro e w1 ⟨g, rfl, hg, hd1, hb1⟩
  have hR1 := hR.below hb1 hR.lt
  have hw1 := hw0.trans (hb1.mono hw0.size)
  have hgl := hR.lt
  go_wp2_with (fail)
  refine (l06Command_any w.heap.size g _ hd1).mono ?_
  rintro e w2 ⟨⟨a, b, k, t, g2, x, m⟩, rfl, hdr, hd2, ho2⟩
  have hR2 := hR1.grown ho2 (fun e => by have := Option.some.inj e; omega)
  have hw2 := below_grown hw1 ho2 (by omega)
  unfold Cmd.v
  simp only
  have z0 := hR2.cell (i := 0) rfl
  have z1 := hR2.cell (i := 1) rfl
  have z2 := hR2.cell (i := 2) rfl
  have z3 := hR2.cell (i := 3) rfl
  have z4 := hR2.cell (i := 4) rfl
  have z5 := hR2.cell (i := 5) rfl
  have z6 := hR2.cell (i := 6) rfl
  have y0 := hR2.froz 0
  have y1 := hR2.froz 1
  have y2 := hR2.froz 2
  have y3 := hR2.froz 3
  have y4 := hR2.froz 4
  have y5 := hR2.froz 5
  have y6 := hR2.froz 6
  clear hd1 hb1 hR1 hw1 ho2 hd2 hR hw0
  go_wp2
  have hF := ((((((hR2.put 0 (.int .i64 a)).put 1 (.int .i64 b)).put 2 (.int .i64 k)).put 3 (.string t)).put 4 (.string g2)).put 5 (.string x)).put 6 (.int .i64 m)
  have hb := ((((((hw2.setCell (Nat.le_refl _) (.int .i64 a) (p := ⟨w.heap.size, 0, none⟩)).setCell (Nat.le_refl _) (.int .i64 b) (p := ⟨w.heap.size, 1, none⟩)).setCell (Nat.le_refl _) (.int .i64 k) (p := ⟨w.heap.size, 2, none⟩)).setCell (Nat.le_refl _) (.string t) (p := ⟨w.heap.size, 3, none⟩)).setCell (Nat.le_refl _) (.string g2) (p := ⟨w.heap.size, 4, none⟩)).setCell (Nat.le_refl _) (.string x) (p := ⟨w.heap.size, 5, none⟩)).setCell (Nat.le_refl _) (.int .i64 m) (p := ⟨w.heap.size, 6, none⟩)
  simp only [List.set_cons_succ, List.set_cons_zero] at hF
  clear z0 z1 z2 z3 z4 z5 z6 y0 y1 y2 y3 y4 y5 y6
  generalize ((((((w2.setCell ⟨w.heap.size, 0, none⟩ (.int .i64 a)).setCell ⟨w.heap.size, 1, none⟩ (.int .i64 b)).setCell ⟨w.heap.size, 2, none⟩ (.int .i64 k)).setCell ⟨w.heap.size, 3, none⟩ (.string t)).setCell ⟨w.heap.size, 4, none⟩ (.string g2)).setCell ⟨w.heap.size, 5, none⟩ (.string x)).setCell ⟨w.heap.size, 6, none⟩ (.int .i64 m) = WF at hF hb ⊢
  have k0 := hF.cell (i := 0) rfl
  have k1 := hF.cell (i := 1) rfl
  have k2 := hF.cell (i := 2) rfl
  have k3 := hF.cell (i := 3) rfl
  have k4 := hF.cell (i := 4) rfl
  have k5 := hF.cell (i := 5) rfl
  have k6 := hF.cell (i := 6) rfl
  exact bodyPost_ret (v := cmdV a b k t g2 x m) (by simp [results, Tryd.results5, go_sem, k0, k1, k2, k3, k4, k5, k6]) rfl ⟨⟨a, b, k, t, g2, x, m⟩, rfl, hdr, hb⟩
set_option maxHeartbeats 2000000 in
theorem drawCommandName_any (A : Option Addr) (n c : Nat) (w : World) (h : Bts w w.heap.size A n) :
    Calls Tryd.prog 7 #[.slice A n c] w fun e w' => ∃ v : Int, e = .returned (.int .i64 v) ∧ Below w.heap.size w w' := by
  go_enter Tryd.func7, Tryd.ntmps7
  go_wp2_with (fail)
  refine (source_any A n c w.heap.size _ h (Nat.le_refl _)).mono ?_
  rintro e w1 ⟨g, rfl, hg, hd1, hb1⟩
  go_wp2_with (fail)
  refine (one_any w.heap.size g 4 _ hd1 (by omega) (by omega)).mono ?_
  rintro e w2 ⟨b, rfl, hd2, ho2⟩
  have hw2 := below_grown hb1 ho2 (by omega)
  cases b
  · go_wp2_with (fail)
    refine (n_any w.heap.size g 9 _ hd2 (by omega) (by omega)).mono ?_
    rintro e w3 ⟨v, rfl, _, _, _, hd3, ho3⟩
    go_wp2
    go_ret
    exact ⟨v, rfl, below_grown hw2 ho3 (by omega)⟩
  · go_wp2_with (fail)
    refine (edge_any w.heap.size g _ hd2).mono ?_
    rintro e w3 ⟨v, rfl, _, _, hd3, ho3⟩
    go_wp2
    go_ret
    exact ⟨v, rfl, below_grown hw2 ho3 (by omega)⟩
set_option maxHeartbeats 2000000 in
theorem drawCommandRead_any (A : Option Addr) (n c : Nat) (w : World) (h : Bts w w.heap.size A n) :
    Calls Tryd.prog 14 #[.slice A n c] w fun e w' => ∃ u : ByteArray, e = .returned (.string u) ∧ u.size ≤ 500 ∧ Below w.heap.size w w' := by
  go_enter Tryd.func14, Tryd.ntmps14
  go_wp2_with (fail)
  refine (source_any A n c w.heap.size _ h (Nat.le_refl _)).mono ?_
  rintro e w1 ⟨g, rfl, hg, hd1, hb1⟩
  go_wp2_with (fail)
  refine (l06Command_any w.heap.size g _ hd1).mono ?_
  rintro e w2 ⟨d, rfl, hdr, hd2, ho2⟩
  have hw2 := below_grown hb1 ho2 (by omega)
  have CB := Lib.hid (specCommandBytes_any d hdr.small)
  have hz := cmdBytes_size hdr
  generalize cmdBytes d = t at CB hz
  obtain ⟨a, b, k, t0, g2, x, m⟩ := d
  unfold Cmd.v at CB ⊢
  simp only at CB ⊢
  clear hdr hb1 hd1 ho2
  go_wp2_with (fail)
  refine (CB.out _).mono ?_
  rintro e w3 ⟨rfl, hb3⟩
  have hw3 := hw2.trans (hb3.mono hw2.size)
  have hd3 := hd2.below hb3
  clear hb3 hd2 hw2
  go_wp2_with (fail)
  refine (n_any w.heap.size g 4 _ hd3 (by omega) (by omega)).mono ?_
  rintro e w4 ⟨v, rfl, v0, v1', _, hd4, ho4⟩
  have v1 := v1' (by omega)
  have hw4 := below_grown hw3 ho4 (by omega)
  clear v1' hd3 ho4 hw3
  rcases (show v = 0 ∨ v = 1 ∨ ((v == 0) = false ∧ (v == 1) = false) by simp; omega) with rfl | rfl | ⟨e0, e1⟩
  · go_wp2_with (fail)
    refine (spoil_any w.heap.size g t _ hd4 (by omega)).mono ?_
    rintro e w5 ⟨u, rfl, hu, hd5, ho5⟩
    go_wp2
    go_ret
    exact ⟨u, rfl, by omega, below_grown hw4 ho5 (by omega)⟩
  · go_wp2_with (fail)
    refine (n_any w.heap.size g ((t.size : Int) + 1) _ hd4 (by omega) (by omega)).mono ?_
    rintro e w5 ⟨q, rfl, q0, q1, q2, hd5, ho5⟩
    have q3 : q ≤ t.size := by by_cases h1 : 1 < (t.size : Int) + 1; (have := q1 h1; omega); (have := q2 (by omega); omega)
    clear q1 q2
    obtain ⟨j, rfl⟩ : ∃ j : Nat, q = j := ⟨q.toNat, by omega⟩
    have q4 : j ≤ t.size := by omega
    go_wp2
    go_ret
    exact ⟨_, rfl, by simp; omega, below_grown hw4 ho5 (by omega)⟩
  · clear v0 v1
    go_wp2
    go_ret
    exact ⟨t, rfl, by omega, hw4⟩
end Go.Proofs.YtpgodphnjeifhaaDoor
