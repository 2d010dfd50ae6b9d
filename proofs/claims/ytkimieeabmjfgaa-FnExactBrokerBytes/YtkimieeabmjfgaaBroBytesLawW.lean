/- The contract of spec.BrokerBytes. The walk of the law on BrokerBytes. -/
import Derived.Test.YtkimieeabmjfgaaBrByIW
import Derived.Test.YtkimieeabmjfgaaRowW
import Derived.Deep.RegionHeld3
namespace Go.Proofs.Ytkimieeabmjfgaa
open Go.RowKit
set_option linter.unusedVariables false
set_option maxRecDepth 1000000
theorem sputNum_e (n : Int) (h0 : -9223372036854775808 ≤ n) (h1 : n ≤ 9223372036854775807) : ∀ W, Calls Try.prog 110 #[.int .i64 n] W fun e w' => e = .returned (.string (numS n)) ∧ Below W.heap.size W w' := fun W => specPutNum_any n W h0 h1
set_option maxHeartbeats 16000000 in
theorem l08Bytes_any (b : Bro) (A : Option Addr) (c : Nat) (B : Option Addr) (d : Nat) (w : World) (ho : topsOK b.topics ∧ repsOK b.replies) (hA : Tops w w.heap.size A b.topics) (hB : Rps w w.heap.size B b.replies) :
    Calls Try.prog 75 #[broV (.slice A b.topics.length c) (.slice B b.replies.length d)] w fun e w' => e = .returned (.string (broE b)) ∧ Below w.heap.size w w' := by
  have HE : Hid (broE b = numS b.topics.length ++ cat topE b.topics ++ numS b.replies.length ++ cat repE b.replies) := rfl
  obtain ⟨T, R⟩ := b
  obtain ⟨ho1, ho2⟩ := ho
  simp only at HE hA hB ho1 ho2 ⊢
  generalize broE ⟨T, R⟩ = r at HE ⊢
  have hK := Blk.fresh w 48 [.slice A T.length c, .slice B R.length d]
  have hb0 := below_box w (.cells #[.slice A T.length c, .slice B R.length d] 48)
  simp only [List.toArray] at hK
  have hl1 : T.length ≤ 4 := ho1.1
  have hl2 : R.length ≤ 9 := ho2.1
  have ZT := Lib.hid (fun i (h : i < T.length) => topSz (topB_iff.1 (ho1.2 i h).1))
  have ZR := Lib.hid (fun i (h : i < R.length) => repSz (ho2.2 i h).1)
  clear ho1 ho2
  have PT := Lib.hid (sputNum_e T.length (by omega) (by omega))
  have PR := Lib.hid (sputNum_e R.length (by omega) (by omega))
  have lt := numS10 (n := (T.length : Int)) (by omega) (by omega)
  have lr := numS10 (n := (R.length : Int)) (by omega) (by omega)
  generalize numS (T.length : Int) = st at PT lt HE
  generalize numS (R.length : Int) = sr at PR lr HE
  go_enter Try.func75, Try.ntmps75
  go_wp2_with (fail)
  generalize w.alloc (.cells #[.slice A T.length c, .slice B R.length d] 48) = v0 at hK hb0 ⊢
  refine (PT.out _).mono ?_
  rintro e w1 ⟨rfl, hb1⟩
  have hK1 := hK.below hb1 hK.lt
  have hw1 := hb0.trans (hb1.mono hb0.size)
  clear hK hb0 hb1 PT
  go_wp2
  go_loopw [3, 4, 5, 6, 7] (fun v i _ _ _ wr => ∃ (k : Nat) (acc : ByteArray), k ≤ T.length ∧ i = .int .i64 k ∧ v = .string acc ∧ acc = st ++ cat topE (T.take k) ∧ acc.size ≤ 10 + k * 1220 ∧ Blk wr w.heap.size 48 [.slice A T.length c, .slice B R.length d] ∧ Below w.heap.size w wr) (fun _ i _ _ _ _ => T.length - (intOf i).toNat)
  case atStart => exact ⟨0, st, by omega, rfl, rfl, (cat_zero _ _ _).symm, by omega, hK1, hw1⟩
  case round =>
    obtain ⟨k, acc, hk, rfl, rfl, hacc, hl, hK3, hw3⟩ := hrel
    have HA := Lib.hid hacc
    clear hacc hK1 hw1
    have k0 := hK3.cell (i := 0) rfl
    by_cases hlt : k < T.length
    · obtain ⟨a, rfl, hab, C, c1, D, d1, a0, a1, a2, a3, hC, hD⟩ := (hA.on hw3).at k hlt
      have hlt' : (k : Int) < (T.length : Int) := by omega
      have hTE := Lib.hid (show ∀ nm bs H G, T[k] = ⟨nm, bs, H, G⟩ → topE T[k] = ptext nm ++ numS bs ++ numS H.length ++ cat ptext H ++ numS G.length ++ cat grpE G from fun nm bs H G h => by rw [h]; rfl)
      have le := topE_le (ZT.out k hlt)
      have HC := Lib.hid (cat_next topE T hlt st)
      have hz := ZT.out k hlt
      generalize T[k] = t at a0 a1 a2 a3 hC hD hTE le HC hz
      obtain ⟨nm, bs, H, G⟩ := t
      obtain ⟨z1, z2, z3, z4, z5, z6⟩ := hz
      simp only at a0 a1 a2 a3 hC hD z1 z2 z3 z4 z5 z6
      have HT2 := Lib.hid (hTE.out nm bs H G rfl)
      clear hTE
      obtain ⟨se, HSE⟩ : ∃ se, Hid (topE ⟨nm, bs, H, G⟩ = se) := ⟨_, Lib.hid rfl⟩
      rw [HSE.out] at HT2 le HC
      clear HSE
      have Z4 := Lib.hid z4
      have Z6 := Lib.hid z6
      clear z4 z6
      have hG := Blk.fresh wr 29 [.string nm, .int .i64 bs, .slice C H.length c1, .slice D G.length d1]
      have hbx := below_box wr (.cells #[.string nm, .int .i64 bs, .slice C H.length c1, .slice D G.length d1] 29)
      have hK4 := hK3.alloc (.cells #[.string nm, .int .i64 bs, .slice C H.length c1, .slice D G.length d1] 29)
      have hw4 := hw3.alloc hw3.size (.cells #[.string nm, .int .i64 bs, .slice C H.length c1, .slice D G.length d1] 29)
      have hC4 := hC.on hbx
      have hD4 := hD.on hbx
      simp only [List.toArray] at hG
      have PN := Lib.hid (fun W => specPutText_any nm W (by omega))
      have PB := Lib.hid (sputNum_e bs (by omega) (by omega))
      have PS := Lib.hid (sputNum_e H.length (by omega) (by omega))
      have PG := Lib.hid (sputNum_e G.length (by omega) (by omega))
      have ln := ptext_le (t := nm) (by omega)
      have lb := numS10 z2.1 z2.2
      have ls := numS10 (n := (H.length : Int)) (by omega) (by omega)
      have lg := numS10 (n := (G.length : Int)) (by omega) (by omega)
      generalize ptext nm = sn at PN ln HT2
      generalize numS bs = sb at PB lb HT2
      generalize numS (H.length : Int) = ss at PS ls HT2
      generalize numS (G.length : Int) = sg at PG lg HT2
      have ln' : sn.size ≤ 30 := by omega
      clear ln
      have hcc : ∀ x : ByteArray, x.size ≤ 30 → True := fun _ _ => trivial
      clear hcc
      go_wp2_with (fail)
      have bG := hG.lt
      generalize hWB : wr.heap.size = q at hG
      clear hWB
      generalize wr.alloc (.cells #[.string nm, .int .i64 bs, .slice C H.length c1, .slice D G.length d1] 29) = v3 at hG hK4 hw4 hC4 hD4 bG ⊢
      clear a0 a1 a2 a3 hC hD hbx hK3 hw3 k0
      obtain ⟨I, f, hI, g0, gk, gc, ge⟩ := class_grown v3
      have x0 := fun s => kept_cell (gk s) (hG.cell (i := 0) rfl)
      have x1 := fun s => kept_cell (gk s) (hG.cell (i := 1) rfl)
      have x2 := fun s => kept_cell (gk s) (hG.cell (i := 2) rfl)
      refine wp_region_kept f (by kernel_rfl) (by kernel_rfl) g0 ?_
      repeat (first
        | go_big_quiet_skip
        | (go_big_quiet_want; go_big_quiet_op; first
          | go_big_quiet_on
          | (apply Exists.intro; refine ⟨fun s => ?_, ?_⟩; (go_at_call 111; (with_reducible refine (PN.out _).mono ?_); rintro e w4 ⟨rfl, hb4⟩; exact ⟨rfl, gc _ _ hb4⟩); go_big_quiet_on)
          | (apply Exists.intro; refine ⟨fun s => ?_, ?_⟩; (go_at_call 110; (with_reducible refine (PB.out _).mono ?_); rintro e w4 ⟨rfl, hb4⟩; exact ⟨rfl, gc _ _ hb4⟩); go_big_quiet_on)
          | (apply Exists.intro; refine ⟨fun s => ?_, ?_⟩; (go_at_call 110; (with_reducible refine (PS.out _).mono ?_); rintro e w4 ⟨rfl, hb4⟩; exact ⟨rfl, gc _ _ hb4⟩); go_big_quiet_on)))
      refine wpQuiet_nil ?_
      intro w5 h5
      have hb5 := ge _ h5
      have hG5 := hG.below hb5 hG.lt
      have hK5 := hK4.below hb5 hK4.lt
      have hw5 := hw4.trans (hb5.mono hw4.size)
      have hC5 := hC4.on hb5
      have hD5 := hD4.on hb5
      clear x0 x1 x2 gk gc ge g0 hI h5 hb5 hG hK4 hw4 hC4 hD4 bG PN PB PS
      obtain ⟨e1, HE1⟩ : ∃ e1, Hid (acc ++ sn ++ sb ++ ss = e1) := ⟨_, Lib.hid rfl⟩
      have l1 : e1.size ≤ 60 + k * 1220 := by rw [← HE1.out]; simp only [ByteArray.size_append]; omega
      have HF := Lib.hid (show acc ++ se = e1 ++ cat ptext H ++ sg ++ cat grpE G by rw [HT2.out, ← HE1.out]; simp only [app_assoc])
      have c2 := hG5.cell (i := 2) rfl
      go_wp2
      rw [HE1.out]
      clear HE1 HT2 ln' lb ls
      go_loopw [3, 6] (fun v i wr => ∃ (j : Nat) (ac : ByteArray), j ≤ H.length ∧ i = .int .i64 j ∧ v = .string ac ∧ ac = e1 ++ cat ptext (H.take j) ∧ ac.size ≤ 60 + k * 1220 + j * 50 ∧ Blk wr q 29 [.string nm, .int .i64 bs, .slice C H.length c1, .slice D G.length d1] ∧ Blk wr w.heap.size 48 [.slice (some a) T.length c, .slice B R.length d] ∧ Below w.heap.size w wr ∧ Below w5.heap.size w5 wr) (fun _ i _ => H.length - (intOf i).toNat)
      case atStart => exact ⟨0, e1, by omega, rfl, rfl, (cat_zero _ _ _).symm, by omega, hG5, hK5, hw5, Below.refl _ _⟩
      case round =>
        obtain ⟨j, ac, hj, rfl, rfl, hacc, hlj, hG6, hK6, hw6, hv6⟩ := hrel
        have HA6 := Lib.hid hacc
        clear hacc c2 hG5 hK5 hw5
        have c2 := hG6.cell (i := 2) rfl
        by_cases hjt : j < H.length
        · obtain ⟨a6, rfl, hab6, c0⟩ := (hC5.below hv6 (Nat.le_refl _)).2 j hjt
          have hjt' : (j : Int) < (H.length : Int) := by omega
          have hs := Z4.out j hjt
          have PX := Lib.hid (fun W => specPutText_any H[j] W (by omega))
          have lx := ptext_le (t := H[j]) (by omega)
          have HC6 := Lib.hid (cat_next ptext H hjt e1)
          generalize ptext H[j] = sx at PX lx HC6
          go_wp2_with (go_at_call 111; (with_reducible refine (PX.out _).mono ?_); rintro e w7 ⟨rfl, hb7⟩)
          refine ⟨⟨j + 1, ac ++ sx, by omega, by go_num, rfl, by rw [HC6.out, HA6.out], by rw [ByteArray.size_append]; omega, hG6.below hb7 hG6.lt, hK6.below hb7 hK6.lt, hw6.trans (hb7.mono hw6.size), hv6.trans (hb7.mono hv6.size)⟩, by simp [intOf]; omega⟩
        · obtain rfl : j = H.length := by omega
          have HA7 : Hid (ac = e1 ++ cat ptext H) := Lib.hid (by rw [HA6.out, cat_all])
          rw [← HA7.out] at HF
          have hl7 : ac.size ≤ 1060 + k * 1220 := by omega
          clear HA6 HA7 hlj l1
          have c3 := hG6.cell (i := 3) rfl
          go_wp2_with (go_at_call 110; (with_reducible refine (PG.out _).mono ?_); rintro e w7 ⟨rfl, hb7⟩; have hG7 := hG6.below hb7 hG6.lt; have c4 := hG7.cell (i := 3) rfl)
          have hK7 := hK6.below hb7 hK6.lt
          have hw7 := hw6.trans (hb7.mono hw6.size)
          have hv7 := hv6.trans (hb7.mono hv6.size)
          obtain ⟨e2, HE3⟩ : ∃ e2, Hid (ac ++ sg = e2) := ⟨_, Lib.hid rfl⟩
          have l2 : e2.size ≤ 1070 + k * 1220 := by rw [← HE3.out]; simp only [ByteArray.size_append]; omega
          rw [HE3.out] at HF ⊢
          clear HE3 hl7 lg c2 c3 hG6 hK6 hw6 hv6 hb7 PG
          go_loopw [3, 7] (fun v i wr => ∃ (j : Nat) (ac : ByteArray), j ≤ G.length ∧ i = .int .i64 j ∧ v = .string ac ∧ ac = e2 ++ cat grpE (G.take j) ∧ ac.size ≤ 1070 + k * 1220 + j * 40 ∧ Blk wr q 29 [.string nm, .int .i64 bs, .slice C H.length c1, .slice D G.length d1] ∧ Blk wr w.heap.size 48 [.slice (some a) T.length c, .slice B R.length d] ∧ Below w.heap.size w wr ∧ Below w5.heap.size w5 wr) (fun _ i _ => G.length - (intOf i).toNat)
          case atStart => exact ⟨0, e2, by omega, rfl, rfl, (cat_zero _ _ _).symm, by omega, hG7, hK7, hw7, hv7⟩
          case round =>
            obtain ⟨j, ac2, hj, rfl, rfl, hacc, hlj, hG8, hK8, hw8, hv8⟩ := hrel
            have HA8 := Lib.hid hacc
            clear hacc c4 hG7 hK7 hw7 hv7
            have c3 := hG8.cell (i := 3) rfl
            by_cases hjt : j < G.length
            · obtain ⟨a8, rfl, hab8, c0, c1'⟩ := (hD5.below hv8 (Nat.le_refl _)).at j hjt
              have hjt' : (j : Int) < (G.length : Int) := by omega
              have hs := Z6.out j hjt
              have PX := Lib.hid (fun W => specPutText_any G[j].name W (by omega))
              have PU := Lib.hid (sputNum_e G[j].acked (by omega) (by omega))
              have lx := ptext_le (t := G[j].name) (by omega)
              have lu := numS10 hs.2.1 hs.2.2
              have HC8 := Lib.hid (cat_next grpE G hjt e2)
              have HGx : Hid (grpE G[j] = ptext G[j].name ++ numS G[j].acked) := rfl
              rw [HGx.out] at HC8
              clear HGx
              generalize ptext G[j].name = sx at PX lx HC8
              generalize numS G[j].acked = su at PU lu HC8
              have lx' : sx.size ≤ 30 := by omega
              clear lx hs
              go_wp2_with (fail)
              obtain ⟨I, f, hI, g0, gk, gc, ge⟩ := class_grown wr
              have x3 := fun s => kept_cell (gk s) c3
              have y0 := fun s => kept_cell (gk s) c0
              have y1 := fun s => kept_cell (gk s) c1'
              clear c0 c1' c3
              refine wp_region_kept f (by kernel_rfl) (by kernel_rfl) g0 ?_
              repeat (first
                | go_big_quiet_skip
                | (go_big_quiet_want; go_big_quiet_op; first
                  | go_big_quiet_on
                  | (apply Exists.intro; refine ⟨fun s => ?_, ?_⟩; (go_at_call 111; (with_reducible refine (PX.out _).mono ?_); rintro e w4 ⟨rfl, hb4⟩; exact ⟨rfl, gc _ _ hb4⟩); go_big_quiet_on)
                  | (apply Exists.intro; refine ⟨fun s => ?_, ?_⟩; (go_at_call 110; (with_reducible refine (PU.out _).mono ?_); rintro e w4 ⟨rfl, hb4⟩; exact ⟨rfl, gc _ _ hb4⟩); go_big_quiet_on)))
              refine wpQuiet_nil ?_
              intro w9 h9
              have hb9 := ge _ h9
              go_wp2
              refine ⟨⟨j + 1, ac2 ++ sx ++ su, by omega, by go_num, rfl, by rw [HC8.out, HA8.out]; simp only [app_assoc], by simp only [ByteArray.size_append]; omega, hG8.below hb9 hG8.lt, hK8.below hb9 hK8.lt, hw8.trans (hb9.mono hw8.size), hv8.trans (hb9.mono hv8.size)⟩, by simp [intOf]; omega⟩
            · obtain rfl : j = G.length := by omega
              have HA9 := Lib.hid (show ac2 = st ++ cat topE (T.take (k + 1)) by rw [HC.out, ← HA.out, HF.out, HA8.out, cat_all])
              have HA10 := Lib.hid (show ac2 = acc ++ se by rw [HF.out, HA8.out, cat_all])
              clear HA8 HF
              go_wp2
              refine ⟨⟨k + 1, ac2, by omega, by go_num, rfl, HA9.out, by rw [HA10.out, ByteArray.size_append]; omega, hK8, hw8⟩, by simp [intOf]; omega⟩
    · obtain rfl : k = T.length := by omega
      have HA2 : Hid (acc = st ++ cat topE T) := Lib.hid (by rw [HA.out, cat_all])
      rw [← HA2.out] at HE
      have hl2' : acc.size ≤ 4890 := by omega
      clear HA HA2 hl lt
      have k1 := hK3.cell (i := 1) rfl
      go_wp2_with (go_at_call 110; (with_reducible refine (PR.out _).mono ?_); rintro e w4 ⟨rfl, hb4⟩; have hK4 := hK3.below hb4 hK3.lt; have c4 := hK4.cell (i := 1) rfl)
      have hw4 := hw3.trans (hb4.mono hw3.size)
      obtain ⟨e2, HE3⟩ : ∃ e2, Hid (acc ++ sr = e2) := ⟨_, Lib.hid rfl⟩
      have l2 : e2.size ≤ 4900 := by rw [← HE3.out]; simp only [ByteArray.size_append]; omega
      rw [HE3.out] at HE ⊢
      clear HE3 hl2' lr k1 k0 hK3 hw3 hb4 PR
      go_loopw [3, 8] (fun v i wr => ∃ (k : Nat) (acc : ByteArray), k ≤ R.length ∧ i = .int .i64 k ∧ v = .string acc ∧ acc = e2 ++ cat repE (R.take k) ∧ acc.size ≤ 4900 + k * 930 ∧ Blk wr w.heap.size 48 [.slice A T.length c, .slice B R.length d] ∧ Below w.heap.size w wr) (fun _ i _ => R.length - (intOf i).toNat)
      case atStart => exact ⟨0, e2, by omega, rfl, rfl, (cat_zero _ _ _).symm, by omega, hK4, hw4⟩
      case round =>
        obtain ⟨k, acc, hk, rfl, rfl, hacc, hl, hK5, hw5⟩ := hrel
        have HA := Lib.hid hacc
        clear hacc c4 hK4 hw4
        have k1 := hK5.cell (i := 1) rfl
        by_cases hlt : k < R.length
        · obtain ⟨a, rfl, hab, c0, c1, c2⟩ := (hB.below hw5 (Nat.le_refl _)).at k hlt
          have hlt' : (k : Int) < (R.length : Int) := by omega
          obtain ⟨s1, s2, s3⟩ := ZR.out k hlt
          have PA := Lib.hid (sputNum_e R[k].client (by omega) (by omega))
          have PB := Lib.hid (sputNum_e R[k].number (by omega) (by omega))
          have PC := Lib.hid (fun W => specPutText_any R[k].text W (by omega))
          have la := numS10 (n := R[k].client) (by omega) (by omega)
          have lb := numS10 (n := R[k].number) (by omega) (by omega)
          have lc := ptext_le (t := R[k].text) (by omega)
          have HC := Lib.hid (cat_next repE R hlt e2)
          have HG : Hid (repE R[k] = numS R[k].client ++ numS R[k].number ++ ptext R[k].text) := rfl
          rw [HG.out] at HC
          clear HG
          generalize numS R[k].client = sa at PA la HC
          generalize numS R[k].number = sb at PB lb HC
          generalize ptext R[k].text = sc at PC lc HC
          have lc' : sc.size ≤ 910 := by omega
          clear s1 s2 s3 lc
          go_wp2_with (fail)
          obtain ⟨I, f, hI, g0, gk, gc, ge⟩ := class_grown wr
          have x1 := fun s => kept_cell (gk s) k1
          have y0 := fun s => kept_cell (gk s) c0
          have y1 := fun s => kept_cell (gk s) c1
          have y2 := fun s => kept_cell (gk s) c2
          clear c0 c1 c2 k1
          refine wp_region_kept f (by kernel_rfl) (by kernel_rfl) g0 ?_
          repeat (first
            | go_big_quiet_skip
            | (go_big_quiet_want; go_big_quiet_op; first
              | go_big_quiet_on
              | (apply Exists.intro; refine ⟨fun s => ?_, ?_⟩; (go_at_call 110; (with_reducible refine (PA.out _).mono ?_); rintro e w4 ⟨rfl, hb4⟩; exact ⟨rfl, gc _ _ hb4⟩); go_big_quiet_on)
              | (apply Exists.intro; refine ⟨fun s => ?_, ?_⟩; (go_at_call 110; (with_reducible refine (PB.out _).mono ?_); rintro e w4 ⟨rfl, hb4⟩; exact ⟨rfl, gc _ _ hb4⟩); go_big_quiet_on)
              | (apply Exists.intro; refine ⟨fun s => ?_, ?_⟩; (go_at_call 111; (with_reducible refine (PC.out _).mono ?_); rintro e w4 ⟨rfl, hb4⟩; exact ⟨rfl, gc _ _ hb4⟩); go_big_quiet_on)))
          refine wpQuiet_nil ?_
          intro w7 h7
          have hb7 := ge _ h7
          go_wp2
          refine ⟨⟨k + 1, acc ++ sa ++ sb ++ sc, by omega, by go_num, rfl, by rw [HC.out, HA.out]; simp only [app_assoc], by simp only [ByteArray.size_append]; omega, hK5.below hb7 hK5.lt, hw5.trans (hb7.mono hw5.size)⟩, by simp [intOf]; omega⟩
        · obtain rfl : k = R.length := by omega
          have HA2 : Hid (r = acc) := Lib.hid (by rw [HE.out, HA.out, cat_all])
          clear HA HE
          go_wp2
          go_ret
          exact ⟨by rw [HA2.out]; rfl, hw5⟩
set_option maxHeartbeats 4000000 in
theorem specBrokerBytes_any (b : Bro) (A : Option Addr) (c : Nat) (B : Option Addr) (d : Nat) (w : World) (hf : b.fits) (hA : Tops w w.heap.size A b.topics) (hB : Rps w w.heap.size B b.replies) :
    Calls Try.prog 35 #[broV (.slice A b.topics.length c) (.slice B b.replies.length d)] w fun e w' => e = .returned (.string (broBytes b)) ∧ Below w.heap.size w w' := by
  have BR := Lib.hid (fun W (h : Below w.heap.size w W) => specBrokerRight_any b A c B d W hf (hA.on h) (hB.on h))
  have BY := Lib.hid (fun W (h : Below w.heap.size w W) (ho : topsOK b.topics ∧ repsOK b.replies) => l08Bytes_any b A c B d W ho (hA.on h) (hB.on h))
  have F0 : Hid (broB b = false → broBytes b = ⟨#[]⟩) := Lib.hid bytes_no
  have F1 : Hid (broB b = true → broBytes b = broE b) := Lib.hid bytes_ok
  have HO := Lib.hid (broB_iff (b := b))
  obtain ⟨T, R⟩ := b
  simp only at BR BY F0 F1 HO hA hB ⊢
  obtain ⟨r, HR⟩ : ∃ r, Hid (broBytes ⟨T, R⟩ = r) := ⟨_, Lib.hid rfl⟩
  rw [HR.out] at F0 F1 ⊢
  have hK := Blk.fresh w 48 [.slice A T.length c, .slice B R.length d]
  have hb0 := below_box w (.cells #[.slice A T.length c, .slice B R.length d] 48)
  simp only [List.toArray] at hK
  rcases Bool.eq_false_or_eq_true (broB ⟨T, R⟩) with hT | hT
  rotate_left
  · have H0 := Lib.hid (F0.out hT)
    rw [hT] at BR
    clear hT
    go_enter Try.func35, Try.ntmps35
    have k0 := hK.cell (i := 0) rfl
    have k1 := hK.cell (i := 1) rfl
    go_wp2_with (fail)
    clear k0 k1
    generalize w.alloc (.cells #[.slice A T.length c, .slice B R.length d] 48) = v0 at hK hb0 ⊢
    refine (BR.out _ hb0).mono ?_
    rintro e w1 ⟨rfl, hb1⟩
    go_wp2
    go_ret
    exact ⟨by rw [H0.out]; rfl, hb0.trans (hb1.mono hb0.size)⟩
  have BY2 := Lib.hid (fun W (h : Below w.heap.size w W) => BY.out W h (HO.out.1 hT))
  have HE := Lib.hid (F1.out hT)
  rw [hT] at BR
  clear hT HO F0 F1 HR BY
  generalize broE ⟨T, R⟩ = s at BY2 HE
  go_enter Try.func35, Try.ntmps35
  have k0 := hK.cell (i := 0) rfl
  have k1 := hK.cell (i := 1) rfl
  go_wp2_with (fail)
  clear k0 k1
  generalize w.alloc (.cells #[.slice A T.length c, .slice B R.length d] 48) = v0 at hK hb0 ⊢
  refine (BR.out _ hb0).mono ?_
  rintro e w1 ⟨rfl, hb1⟩
  have hK1 := hK.below hb1 hK.lt
  have hw1 := hb0.trans (hb1.mono hb0.size)
  clear hK hb0 hb1
  have k0 := hK1.cell (i := 0) rfl
  have k1 := hK1.cell (i := 1) rfl
  go_wp2_with (fail)
  refine (BY2.out _ hw1).mono ?_
  rintro e w2 ⟨rfl, hb2⟩
  go_wp2
  go_ret
  exact ⟨by rw [HE.out]; rfl, hw1.trans (hb2.mono hw1.size)⟩
theorem bothBrokerBytes (b : Bro) (hf : b.fits) (hs : b.small) : ∃ r : ByteArray,
    (∀ A c B d W, Tops W W.heap.size A b.topics → Rps W W.heap.size B b.replies → Calls Try.prog 35 #[broV (.slice A b.topics.length c) (.slice B b.replies.length d)] W fun e w' => e = .returned (.string r) ∧ Below W.heap.size W w') ∧
    (∀ A c B d W, Tops W W.heap.size A b.topics → Rps W W.heap.size B b.replies → Calls Try.prog 36 #[broV (.slice A b.topics.length c) (.slice B b.replies.length d)] W fun e w' => e = .returned (.string r) ∧ Below W.heap.size W w') :=
  ⟨broBytes b, fun A c B d W h1 h2 => specBrokerBytes_any b A c B d W hf h1 h2, fun A c B d W h1 h2 => implBrokerBytes_any b A c B d W hf h1 h2⟩
end Go.Proofs.Ytkimieeabmjfgaa

namespace Go.Proofs.Ytkimieeabmjfgaa
open Go.RowKit
set_option linter.unusedVariables false

set_option maxHeartbeats 8000000 in
set_option maxRecDepth 1000000 in
theorem lawBrokerBytes (b : Bro) (A : Option Addr) (c : Nat) (B : Option Addr) (d : Nat) (w : World) (hf : b.fits) (hA : Tops w w.heap.size A b.topics) (hB : Rps w w.heap.size B b.replies) :
    Calls Try.prog 9 #[broV (.slice A b.topics.length c) (.slice B b.replies.length d)] w fun e w' => e = .returned (.bool true) ∧ Below w.heap.size w w' := by
  obtain ⟨T, R⟩ := b
  simp only at hA hB ⊢
  have HA : Hid (∀ W, Below w.heap.size w W → Tops W W.heap.size A T) := Lib.hid fun W h => hA.on h
  have HB : Hid (∀ W, Below w.heap.size w W → Rps W W.heap.size B R) := Lib.hid fun W h => hB.on h
  have hB0 := Blk.fresh w 42 [.slice A T.length c, .slice B R.length d]
  have hb0 : Below w.heap.size w (w.alloc (.cells #[.slice A T.length c, .slice B R.length d] 42)) := (Below.refl _ _).alloc (Nat.le_refl _) _
  have hz0 : (w.alloc (.cells #[.slice A T.length c, .slice B R.length d] 42)).heap.size = w.heap.size + 1 := by simp
  simp only [List.toArray] at hB0
  go_enter Try.func9, Try.ntmps9
  have q0 := hB0.cell (i := 0) rfl
  have q1 := hB0.cell (i := 1) rfl
  go_wp2_with (fail)
  clear q0 q1
  generalize w.alloc (.cells #[.slice A T.length c, .slice B R.length d] 42) = v0 at hB0 hb0 hz0 ⊢
  refine (szBroker_any ⟨T, R⟩ A c B d _ hf (HA.out _ hb0) (HB.out _ hb0)).mono ?_
  rintro e v1 ⟨r, rfl, r0, r1, hS, hb1⟩
  have hz1 := hb1.size
  have hB1 := hB0.below hb1 (by omega)
  have hw1 := hb0.trans (hb1.mono (by omega))
  clear hB0
  by_cases hr : r < 0
  · go_wp2
    go_ret
    exact ⟨rfl, hw1⟩
  · have hS' := hS (by omega)
    have hnH : T.length ≤ 1048576 := hS'.1.1
    have hnG : R.length ≤ 1048576 := hS'.2.1
    obtain ⟨r9, hsp, him⟩ := bothBrokerBytes ⟨T, R⟩  hf hS' 
    have Sp := Lib.hid hsp
    have Im := Lib.hid him
    clear hsp him
    have chB0 := hB1.cell (i := 0) rfl
    have chB1 := hB1.cell (i := 1) rfl
    go_wp2_with (fail)
    refine (toBroker_rd ⟨T, R⟩ A c B d _ hS' (HA.out _ hw1) (HB.out _ hw1)).mono ?_
    rintro e v2 ⟨g2, c2, h2, d2, rfl, TS2, TG2, hb2⟩
    have hz2 := hb2.size
    have hB2 := hB1.below hb2 hB1.lt
    have hw2 := hw1.trans (hb2.mono hw1.size)
    clear hB1
    clear chB0 chB1
    go_wp2_with (fail)
    refine (Sp.out _ _ _ _ _ TS2 TG2).mono ?_
    rintro e v3 ⟨rfl, hb3⟩
    have hz3 := hb3.size
    have hB3 := hB2.below hb3 hB2.lt
    have TS3 := TS2.on hb3
    have TG3 := TG2.on hb3
    have hw3 := hw2.trans (hb3.mono hw2.size)
    clear hB2 TS2 TG2
    clear TS3 TG3
    have chB0 := hB3.cell (i := 0) rfl
    have chB1 := hB3.cell (i := 1) rfl
    go_wp2_with (fail)
    refine (toBroker_rd ⟨T, R⟩ A c B d _ hS' (HA.out _ hw3) (HB.out _ hw3)).mono ?_
    rintro e v4 ⟨g4, c4, h4, d4, rfl, XS4, XG4, hb4⟩
    have hz4 := hb4.size
    have hB4 := hB3.below hb4 hB3.lt
    have hw4 := hw3.trans (hb4.mono hw3.size)
    clear hB3
    clear chB0 chB1
    have hP5 := Blk.fresh v4 48 [.slice (some ⟨g4, 0, none⟩) T.length c4, .slice (some ⟨h4, 0, none⟩) R.length d4]
    replace hP5 : Blk (v4.alloc (.cells #[.slice (some ⟨g4, 0, none⟩) T.length c4, .slice (some ⟨h4, 0, none⟩) R.length d4] 48)) v4.heap.size 48 [.slice (some ⟨g4, 0, none⟩) T.length c4, .slice (some ⟨h4, 0, none⟩) R.length d4] := hP5
    have hb5 : Below v4.heap.size v4 (v4.alloc (.cells #[.slice (some ⟨g4, 0, none⟩) T.length c4, .slice (some ⟨h4, 0, none⟩) R.length d4] 48)) := (Below.refl _ _).alloc (Nat.le_refl _) _
    have hs5 : (v4.alloc (.cells #[.slice (some ⟨g4, 0, none⟩) T.length c4, .slice (some ⟨h4, 0, none⟩) R.length d4] 48)).heap.size = v4.heap.size + 1 := by simp
    have qq0 := hP5.cell (i := 0) rfl
    have qq1 := hP5.cell (i := 1) rfl
    go_wp2_with (fail)
    clear qq0 qq1
    generalize v4.alloc (.cells #[.slice (some ⟨g4, 0, none⟩) T.length c4, .slice (some ⟨h4, 0, none⟩) R.length d4] 48) = v5 at hP5 hb5 hs5 ⊢
    have hz5 := hb5.size
    have hB5 := hB4.below hb5 hB4.lt
    have XS5 := XS4.on hb5
    have XG5 := XG4.on hb5
    have hw5 := hw4.trans (hb5.mono hw4.size)
    clear hB4 XS4 XG4
    have chP0 := hP5.cell (i := 0) rfl
    have chP1 := hP5.cell (i := 1) rfl
    go_wp2_with (fail)
    refine (Im.out _ _ _ _ _ XS5 XG5).mono ?_
    rintro e v6 ⟨rfl, hb6⟩
    have hz6 := hb6.size
    have hB6 := hB5.below hb6 hB5.lt
    have hP6 := hP5.below hb6 hP5.lt
    have XS6 := XS5.on hb6
    have XG6 := XG5.on hb6
    have hw6 := hw5.trans (hb6.mono hw5.size)
    clear hB5 hP5 XS5 XG5
    clear chP0 chP1
    have chB0 := hB6.cell (i := 0) rfl
    have chB1 := hB6.cell (i := 1) rfl
    have chP0 := hP6.cell (i := 0) rfl
    have chP1 := hP6.cell (i := 1) rfl
    go_wp2_with (fail)
    have z0 : v6.drew.cell? ⟨w.heap.size, 0, none⟩ = some (.slice A T.length c) := chB0
    have z1 : v6.drew.cell? ⟨w.heap.size, 1, none⟩ = some (.slice B R.length d) := chB1
    have z2 : v6.drew.cell? ⟨v4.heap.size, 0, none⟩ = some (.slice (some ⟨g4, 0, none⟩) T.length c4) := chP0
    have z3 : v6.drew.cell? ⟨v4.heap.size, 1, none⟩ = some (.slice (some ⟨h4, 0, none⟩) R.length d4) := chP1
    have XSd : Tops v6.drew v6.drew.heap.size (some ⟨g4, 0, none⟩) T := XS6
    have XGd : Rps v6.drew v6.drew.heap.size (some ⟨h4, 0, none⟩) R := XG6
    go_region_held3 (fun W => W.cell? ⟨w.heap.size, 0, none⟩ = some (.slice A T.length c) ∧ W.cell? ⟨w.heap.size, 1, none⟩ = some (.slice B R.length d) ∧ W.cell? ⟨v4.heap.size, 0, none⟩ = some (.slice (some ⟨g4, 0, none⟩) T.length c4) ∧ W.cell? ⟨v4.heap.size, 1, none⟩ = some (.slice (some ⟨h4, 0, none⟩) R.length d4))
      (first
        | with_reducible exact ⟨z0, z1, z2, z3⟩
        | with_reducible exact ⟨kept_cell hb7 z0, kept_cell hb7 z1, kept_cell hb7 z2, kept_cell hb7 z3⟩
        | with_reducible exact ⟨kept_cell hb8 (kept_cell hb7 z0), kept_cell hb8 (kept_cell hb7 z1), kept_cell hb8 (kept_cell hb7 z2), kept_cell hb8 (kept_cell hb7 z3)⟩)
      (first
        | (go_at_call 25; (with_reducible refine (toBroker_rd ⟨T, R⟩ A c B d _ hS' (HA.out _ (below_drew hw6)) (HB.out _ (below_drew hw6))).mono ?_); rintro e v7 ⟨g7, c7, h7, d7, rfl, hF7, hG7, hb7⟩)
        | (go_at_call 27; (with_reducible refine (eqBroker_same _ _ _ _ T R _ _ _ _ v7 (XSd.on hb7) hF7 (XGd.on hb7) hG7).mono ?_); rintro e v8 ⟨rfl, hb8⟩))
    have hbz : Below v6.heap.size v6 v8 := (below_drew (Below.refl _ v6)).trans ((hb7.trans (hb8.mono hb7.size)).mono (Nat.le_refl _))
    clear chB0 chB1 chP0 chP1
    clear z0 z1 z2 z3 XSd XGd hF7 hG7
    have hz8 := hbz.size
    have hB8 := hB6.below hbz hB6.lt
    have hP8 := hP6.below hbz hP6.lt
    have XS8 := XS6.on hbz
    have XG8 := XG6.on hbz
    have hw8 := hw6.trans (hbz.mono hw6.size)
    clear hB6 hP6 XS6 XG6
    go_wp2
    go_ret
    exact ⟨rfl, hw8⟩
end Go.Proofs.Ytkimieeabmjfgaa
