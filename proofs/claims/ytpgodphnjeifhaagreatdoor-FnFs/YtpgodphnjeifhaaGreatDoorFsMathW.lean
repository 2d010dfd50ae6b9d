/- Strings compared, as a walk spells it. lwBut: two file systems have the same files but for two names. What a change of a file system leaves right, and what it leaves as it was: plain mathematics. -/
import Derived.Test.YtpgodphnjeifhaaGreatDoorFilRightW
import Derived.Test.YtpgodphnjeifhaaGreatDoorLwFsW
import Derived.Deep.RegionLaw
import Derived.Deep.AppendLies
import Derived.Test.YtpgodphnjeifhaaGreatDoorFOpenW
import Derived.Test.YtpgodphnjeifhaaGreatDoorFsHowW
namespace Go.Proofs.YtpgodphnjeifhaaGreatDoor
open Go.RowKit
set_option linter.unusedVariables false

theorem str_beq_t {a b : ByteArray} (h : a = b) : (a.toList == b.toList) = true := by rw [h]; simp
theorem str_beq_f {a b : ByteArray} (h : ¬ a = b) : (a.toList == b.toList) = false := by
  rw [beq_eq_false_iff_ne]; intro e; rw [Lib.toList_data, Lib.toList_data] at e; exact h (ByteArray.ext (Array.toList_inj.1 e))
theorem str_bne_f {a b : ByteArray} (h : a = b) : (a.toList != b.toList) = false := by rw [bne, str_beq_t h]; rfl
theorem str_bne_t {a b : ByteArray} (h : ¬ a = b) : (a.toList != b.toList) = true := by rw [bne, str_beq_f h]; rfl
end Go.Proofs.YtpgodphnjeifhaaGreatDoor

namespace Go.Proofs.YtpgodphnjeifhaaGreatDoor
open Go.RowKit
set_option linter.unusedVariables false
set_option linter.unusedSimpArgs false
set_option maxRecDepth 1000000

def keepF (one two : ByteArray) (f : Fil) : Bool := !decide (f.name = one) && !decide (f.name = two)
theorem filter_take (keep : Fil → Bool) (L : List Fil) (k : Nat) (h : k < L.length) : (L.take (k + 1)).filter keep = (L.take k).filter keep ++ if keep L[k] = true then [L[k]] else [] := by
  rw [List.take_succ_eq_append_getElem h, List.filter_append]
  congr 1
  simp [List.filter_cons]
set_option maxHeartbeats 8000000 in
theorem lwBut_same (A B : Option Addr) (L M : List Fil) (c d : Nat) (one two : ByteArray) (w : World) (hL : Fls w w.heap.size A L) (hM : Fls w w.heap.size B M) (hl : L.length ≤ 1048576) (hm : M.length ≤ 1048576) (hsame : L.filter (keepF one two) = M.filter (keepF one two)) :
    Calls Tryz.prog 19 #[.agg #[.slice A L.length c], .agg #[.slice B M.length d], .string one, .string two] w fun e w' => e = .returned (.bool true) ∧ Below w.heap.size w w' := by
  obtain ⟨keep, HKP⟩ : ∃ keep, Hid (∀ f : Fil, keep f = (!decide (f.name = one) && !decide (f.name = two))) := ⟨keepF one two, Lib.hid fun f => rfl⟩
  have HS : Hid (L.filter keep = M.filter keep) := Lib.hid (by rw [show keep = keepF one two from funext fun f => HKP.out f]; exact hsame)
  clear hsame
  have hb0 : Below w.heap.size w ((((w.alloc (.cells #[.slice A L.length c] 25)).alloc (.cells #[.slice B M.length d] 25)).alloc (.cells #[.slice none 0 0] 25)).alloc (.cells #[.slice none 0 0] 25)) := ((((Below.refl _ w).alloc (Nat.le_refl _) _).alloc (by simp) _).alloc (by simp; omega) _).alloc (by simp; omega) _
  have h0 := (((Blk.fresh w 25 [.slice A L.length c]).alloc (.cells #[.slice B M.length d] 25)).alloc (.cells #[.slice none 0 0] 25)).alloc (.cells #[.slice none 0 0] 25)
  have h1 := ((Blk.fresh (w.alloc (.cells #[.slice A L.length c] 25)) 25 [.slice B M.length d]).alloc (.cells #[.slice none 0 0] 25)).alloc (.cells #[.slice none 0 0] 25)
  have h2 := (Blk.fresh ((w.alloc (.cells #[.slice A L.length c] 25)).alloc (.cells #[.slice B M.length d] 25)) 25 [.slice none 0 0]).alloc (.cells #[.slice none 0 0] 25)
  have h3 := Blk.fresh (((w.alloc (.cells #[.slice A L.length c] 25)).alloc (.cells #[.slice B M.length d] 25)).alloc (.cells #[.slice none 0 0] 25)) 25 [.slice none 0 0]
  simp only [List.toArray, World.size_alloc] at h0 h1 h2 h3
  have hz0 : ((((w.alloc (.cells #[.slice A L.length c] 25)).alloc (.cells #[.slice B M.length d] 25)).alloc (.cells #[.slice none 0 0] 25)).alloc (.cells #[.slice none 0 0] 25)).heap.size = w.heap.size + 4 := by simp
  go_enter Tryz.func19, Tryz.ntmps19
  go_wp2
  generalize (((w.alloc (.cells #[.slice A L.length c] 25)).alloc (.cells #[.slice B M.length d] 25)).alloc (.cells #[.slice none 0 0] 25)).alloc (.cells #[.slice none 0 0] 25) = w1 at hb0 h0 h1 h2 h3 hz0 ⊢
  go_loopw [11] (fun i wr => ∃ (k : Nat) (G : List Fil) (v : Value), k ≤ L.length ∧ i = .int .i64 k ∧ (L.take k).filter keep = G ∧ w.heap.size + 4 ≤ wr.heap.size ∧ OwnF wr (w.heap.size + 4) v G ∧ Blk wr (w.heap.size + 1 + 1) 25 [v] ∧ Blk wr w.heap.size 25 [.slice A L.length c] ∧ Blk wr (w.heap.size + 1) 25 [.slice B M.length d] ∧ Blk wr (w.heap.size + 1 + 1 + 1) 25 [.slice none 0 0] ∧ Below w.heap.size w wr) (fun i _ => L.length - (intOf i).toNat)
  case atStart => exact ⟨0, [], .slice none 0 0, by omega, rfl, by simp, by omega, ⟨World.ownsRow_nil _ _ _ _, by simp⟩, h2, h0, h1, h3, hb0⟩
  case round =>
    obtain ⟨k, G, v, hk, rfl, hG, hbz, hF, ht, hs, hsB, htB, hb⟩ := hrel
    by_cases hlt : k < L.length
    · skip
      obtain ⟨a, rfl, hab, c0, c1, c2, hff⟩ := (hL.below hb (Nat.le_refl _)).at k hlt
      have hlt' : (k : Int) < (L.length : Int) := by omega
      obtain ⟨n0, n1, n2, HE⟩ : ∃ n0 n1 n2, Hid (L[k] = ⟨n0, n1, n2⟩) := ⟨_, _, _, Lib.hid rfl⟩
      have hfits : (⟨n0, n1, n2⟩ : Fil).fits := by have := hff; rw [HE.out] at this; exact this
      rw [HE.out] at c0 c1 c2
      simp only at c0 c1 c2
      have hft := filter_take keep L k hlt
      rw [HE.out] at hft
      have HFT := Lib.hid hft
      clear hft
      have s0 := hs.cell (i := 0) rfl
      by_cases h1 : n0 = one
      · have dn := str_bne_f h1; have dn2 := str_beq_t h1
        have HK := Lib.hid (show keep ⟨n0, n1, n2⟩ = false by simp [HKP.out, h1])
        clear h1
        go_wp2
        exact ⟨⟨k + 1, G, v, by omega, by go_num, by rw [HFT.out, HK.out]; simpa using hG, hbz, hF, ht, hs, hsB, htB, hb⟩, by simp [intOf]; omega⟩
      · have dn := str_bne_t h1; have dn2 := str_beq_f h1
        by_cases h2 : n0 = two
        · have dm := str_bne_f h2; have dm2 := str_beq_t h2
          have HK := Lib.hid (show keep ⟨n0, n1, n2⟩ = false by simp [HKP.out, h2])
          clear h1 h2
          go_wp2
          exact ⟨⟨k + 1, G, v, by omega, by go_num, by rw [HFT.out, HK.out]; simpa using hG, hbz, hF, ht, hs, hsB, htB, hb⟩, by simp [intOf]; omega⟩
        · have dm := str_bne_t h2; have dm2 := str_beq_f h2
          have HK := Lib.hid (show keep ⟨n0, n1, n2⟩ = true by simp [HKP.out, h1, h2])
          clear h1 h2
          obtain ⟨i0, hi, hz0, hz1, hz2⟩ := info_parts infoFile
          have nvo : v.ownBlock ≠ some (w.heap.size + 1 + 1) := fun e => by have := (hF.1.lt _ e).1; omega
          have nvhsB : v.ownBlock ≠ some (w.heap.size + 1) := fun e => by have := (hF.1.lt _ e).1; omega
          have nvhtB : v.ownBlock ≠ some (w.heap.size + 1 + 1 + 1) := fun e => by have := (hF.1.lt _ e).1; omega
          have nvhs : v.ownBlock ≠ some (w.heap.size) := fun e => by have := (hF.1.lt _ e).1; omega
          have y0 := ht.drew.cell (i := 0) rfl
          have s0d := hs.drew.cell (i := 0) rfl
          have y0a := (ht.alloc (.cells #[.string n0, .string n1, .int .i64 n2] 53)).cell (i := 0) rfl
          have s0a := (hs.alloc (.cells #[.string n0, .string n1, .int .i64 n2] 53)).cell (i := 0) rfl
          have c0d : wr.drew.cell? (a.add (k * 3)) = some (.string n0) := c0
          have c1d : wr.drew.cell? ⟨(a.add (k * 3)).block, (a.add (k * 3)).off + 1, none⟩ = some (.string n1) := c1
          have c2d : wr.drew.cell? ⟨(a.add (k * 3)).block, (a.add (k * 3)).off + 2, none⟩ = some (.int .i64 n2) := c2
          have hGl : G.length ≤ 1048576 := by rw [← hG]; have := List.length_filter_le keep (L.take k); simp at this; omega
          have HG := Lib.hid hG
          clear hG
          have hFd := hF.drew
          have htd := ht.drew
          have q4 : Below wr.drew.heap.size wr.drew (wr.drew.alloc (.cells #[.string n0, .string n1, .int .i64 n2] 53)) := (Below.refl _ _).alloc (Nat.le_refl _) _
          go_wp2
          go_region_law
            (first
              | (refine step_append_lies _ (by rfl) _ _ _ (by rfl) (w.heap.size + 4) 53 i0 _ 3 40 Tryz.underlying23 hi hz0 hz1 hz2 rfl (by omega) v G.length _ (by rfl) (World.ownsRow.alloc hFd.1 _)
                        ⟨wr.heap.size, 0, none⟩ 1 1 [.string n0, .string n1, .int .i64 n2] (by rfl) (by rfl) (World.news_of_block (cs := #[.string n0, .string n1, .int .i64 n2]) (t := 53) (fr := (0, 0)) (heap_alloc_new wr _)) (by simp [Value.oneCell'])
                        (by omega) (by unfold maxLen; omega) (by omega) (by simp; omega) (wr.heap.size + 1) (by simp) ?_; intro gg cap' w5 hown5 hgrow5 hat5 hlt5; have hO5 := (htd.below q4 htd.lt).grown hgrow5 (Ne.symm nvo); have y5 := hO5.cell (i := 0) rfl; have f5 := hO5.froz 0))
          all_goals
            have hsB6 := ((hsB.drew.below q4 hsB.drew.lt).grown hgrow5 (Ne.symm nvhsB)).far (p := ⟨w.heap.size + 1 + 1, 0, none⟩) (by simp; try omega) (.slice (some ⟨gg, 0, none⟩) (G.length + 1) cap')
            have htB6 := ((htB.drew.below q4 htB.drew.lt).grown hgrow5 (Ne.symm nvhtB)).far (p := ⟨w.heap.size + 1 + 1, 0, none⟩) (by simp; try omega) (.slice (some ⟨gg, 0, none⟩) (G.length + 1) cap')
            have hs6 := ((hs.drew.below q4 hs.drew.lt).grown hgrow5 (Ne.symm nvhs)).far (p := ⟨w.heap.size + 1 + 1, 0, none⟩) (by simp; try omega) (.slice (some ⟨gg, 0, none⟩) (G.length + 1) cap')
            have hw6 := (((below_drew hb).trans (q4.mono (by exact hb.size))).grown hgrow5 (by have h3 := hb.size; simp; omega) (fun j e => by have := (hF.1.lt _ e).1; omega)).setCell (p := ⟨w.heap.size + 1 + 1, 0, none⟩) (by simp; try omega) (.slice (some ⟨gg, 0, none⟩) (G.length + 1) cap')
            have ht6 := hO5.put 0 (.slice (some ⟨gg, 0, none⟩) (G.length + 1) cap')
            have hsz6 := hgrow5.size
            simp only [World.size_alloc, World.size_drew] at hsz6
            have hF6 : OwnF (w5.setCell ⟨w.heap.size + 1 + 1, 0, none⟩ (.slice (some ⟨gg, 0, none⟩) (G.length + 1) cap')) (w.heap.size + 4) (.slice (some ⟨gg, 0, none⟩) (G.length + 1) cap') (G ++ [⟨n0, n1, n2⟩]) := by
              refine ⟨row_far (p := ⟨w.heap.size + 1 + 1, 0, none⟩) ?_ (by simp; try omega) _, fun f h => ?_⟩
              · rw [List.length_append, flat_append]
                exact hown5
              · rcases List.mem_append.1 h with h | h
                · exact hF.2 f h
                · obtain rfl := List.mem_singleton.1 h
                  exact hfits
            go_wp2
            exact ⟨⟨k + 1, G ++ [⟨n0, n1, n2⟩], _, by omega, by go_num, by rw [HFT.out, HK.out, HG.out]; rfl, by simp; omega, hF6, ht6, hs6, hsB6, htB6, hw6⟩, by simp [intOf]; omega⟩
    · obtain rfl : k = L.length := by omega
      rw [List.take_length] at hG
      have HGx := Lib.hid hG
      clear hG hlt hk h0 h1 h2 h3 hb0 hz0
      have hF0z := hbz
      clear hbz
      have s0 := hs.cell (i := 0) rfl
      have hxlt : Hid (∀ b, v.ownBlock = some b → b < wr.heap.size) := Lib.hid fun b e => (hF.1.lt b e).2
      go_wp2
      clear s0
      have hbz2 := hF0z
      obtain ⟨B2, hB2⟩ : ∃ B2, B2 = wr.heap.size := ⟨_, rfl⟩
      rw [← hB2] at hbz2
      rw [← hB2] at hxlt
      have hB2' : B2 ≤ wr.heap.size := by omega
      clear hB2
      generalize hvx : v = vx at *
      generalize hGG : G = Gx at *
      clear hvx hGG
      generalize hww : wr = w2 at *
      clear hww
      go_loopw [12] (fun i wr => ∃ (k : Nat) (G : List Fil) (v : Value), k ≤ M.length ∧ i = .int .i64 k ∧ (M.take k).filter keep = G ∧ B2 ≤ wr.heap.size ∧ OwnF wr B2 v G ∧ Blk wr (w.heap.size + 1 + 1 + 1) 25 [v] ∧ Blk wr (w.heap.size + 1) 25 [.slice B M.length d] ∧ Blk wr w.heap.size 25 [.slice A L.length c] ∧ Blk wr (w.heap.size + 1 + 1) 25 [vx] ∧ OwnF wr (w.heap.size + 4) vx Gx ∧ Below w.heap.size w wr) (fun i _ => M.length - (intOf i).toNat)
      case atStart => exact ⟨0, [], .slice none 0 0, by omega, rfl, by simp, hB2', ⟨World.ownsRow_nil _ _ _ _, by simp⟩, htB, hsB, hs, ht, hF, hb⟩
      case round =>
        clear hs hsB ht htB hF hb hB2'
        obtain ⟨k, G, v, hk, rfl, hG, hbz, hF, ht, hs, hsA, hxb, hx, hb⟩ := hrel
        by_cases hlt : k < M.length
        · skip
          obtain ⟨a, rfl, hab, c0, c1, c2, hff⟩ := (hM.below hb (Nat.le_refl _)).at k hlt
          have hlt' : (k : Int) < (M.length : Int) := by omega
          obtain ⟨n0, n1, n2, HE⟩ : ∃ n0 n1 n2, Hid (M[k] = ⟨n0, n1, n2⟩) := ⟨_, _, _, Lib.hid rfl⟩
          have hfits : (⟨n0, n1, n2⟩ : Fil).fits := by have := hff; rw [HE.out] at this; exact this
          rw [HE.out] at c0 c1 c2
          simp only at c0 c1 c2
          have hft := filter_take keep M k hlt
          rw [HE.out] at hft
          have HFT := Lib.hid hft
          clear hft
          have s0 := hs.cell (i := 0) rfl
          by_cases h1 : n0 = one
          · have dn := str_bne_f h1; have dn2 := str_beq_t h1
            have HK := Lib.hid (show keep ⟨n0, n1, n2⟩ = false by simp [HKP.out, h1])
            clear h1
            go_wp2
            exact ⟨⟨k + 1, G, v, by omega, by go_num, by rw [HFT.out, HK.out]; simpa using hG, hbz, hF, ht, hs, hsA, hxb, hx, hb⟩, by simp [intOf]; omega⟩
          · have dn := str_bne_t h1; have dn2 := str_beq_f h1
            by_cases h2 : n0 = two
            · have dm := str_bne_f h2; have dm2 := str_beq_t h2
              have HK := Lib.hid (show keep ⟨n0, n1, n2⟩ = false by simp [HKP.out, h2])
              clear h1 h2
              go_wp2
              exact ⟨⟨k + 1, G, v, by omega, by go_num, by rw [HFT.out, HK.out]; simpa using hG, hbz, hF, ht, hs, hsA, hxb, hx, hb⟩, by simp [intOf]; omega⟩
            · have dm := str_bne_t h2; have dm2 := str_beq_f h2
              have HK := Lib.hid (show keep ⟨n0, n1, n2⟩ = true by simp [HKP.out, h1, h2])
              clear h1 h2
              obtain ⟨i0, hi, hz0, hz1, hz2⟩ := info_parts infoFile
              have nvo : v.ownBlock ≠ some (w.heap.size + 1 + 1 + 1) := fun e => by have := (hF.1.lt _ e).1; omega
              have nvhsA : v.ownBlock ≠ some (w.heap.size) := fun e => by have := (hF.1.lt _ e).1; omega
              have nvhxb : v.ownBlock ≠ some (w.heap.size + 1 + 1) := fun e => by have := (hF.1.lt _ e).1; omega
              have nvhs : v.ownBlock ≠ some (w.heap.size + 1) := fun e => by have := (hF.1.lt _ e).1; omega
              have y0 := ht.drew.cell (i := 0) rfl
              have s0d := hs.drew.cell (i := 0) rfl
              have y0a := (ht.alloc (.cells #[.string n0, .string n1, .int .i64 n2] 53)).cell (i := 0) rfl
              have s0a := (hs.alloc (.cells #[.string n0, .string n1, .int .i64 n2] 53)).cell (i := 0) rfl
              have c0d : wr.drew.cell? (a.add (k * 3)) = some (.string n0) := c0
              have c1d : wr.drew.cell? ⟨(a.add (k * 3)).block, (a.add (k * 3)).off + 1, none⟩ = some (.string n1) := c1
              have c2d : wr.drew.cell? ⟨(a.add (k * 3)).block, (a.add (k * 3)).off + 2, none⟩ = some (.int .i64 n2) := c2
              have hGl : G.length ≤ 1048576 := by rw [← hG]; have := List.length_filter_le keep (M.take k); simp at this; omega
              have hxv : vx.ownBlock = none ∨ vx.ownBlock ≠ v.ownBlock := by
                cases hvo : vx.ownBlock with
                | none => exact .inl rfl
                | some b => exact .inr fun e => by have h8 := hxlt.out b hvo; have h9 := (hF.1.lt b e.symm).1; omega
              have hxo : vx.ownBlock ≠ some (w.heap.size + 1 + 1 + 1) := fun e => by have := (hx.1.lt _ e).1; omega
              have HG := Lib.hid hG
              clear hG
              have hFd := hF.drew
              have htd := ht.drew
              have q4 : Below wr.drew.heap.size wr.drew (wr.drew.alloc (.cells #[.string n0, .string n1, .int .i64 n2] 53)) := (Below.refl _ _).alloc (Nat.le_refl _) _
              go_wp2
              go_region_law
                (first
                  | (refine step_append_lies _ (by rfl) _ _ _ (by rfl) (B2) 53 i0 _ 3 40 Tryz.underlying23 hi hz0 hz1 hz2 rfl (by omega) v G.length _ (by rfl) (World.ownsRow.alloc hFd.1 _)
                            ⟨wr.heap.size, 0, none⟩ 1 1 [.string n0, .string n1, .int .i64 n2] (by rfl) (by rfl) (World.news_of_block (cs := #[.string n0, .string n1, .int .i64 n2]) (t := 53) (fr := (0, 0)) (heap_alloc_new wr _)) (by simp [Value.oneCell'])
                            (by omega) (by unfold maxLen; omega) (by omega) (by simp; omega) (wr.heap.size + 1) (by simp) ?_; intro gg cap' w5 hown5 hgrow5 hat5 hlt5; have hO5 := (htd.below q4 htd.lt).grown hgrow5 (Ne.symm nvo); have y5 := hO5.cell (i := 0) rfl; have f5 := hO5.froz 0))
              all_goals
                have hsA6 := ((hsA.drew.below q4 hsA.drew.lt).grown hgrow5 (Ne.symm nvhsA)).far (p := ⟨w.heap.size + 1 + 1 + 1, 0, none⟩) (by simp; try omega) (.slice (some ⟨gg, 0, none⟩) (G.length + 1) cap')
                have hxb6 := ((hxb.drew.below q4 hxb.drew.lt).grown hgrow5 (Ne.symm nvhxb)).far (p := ⟨w.heap.size + 1 + 1 + 1, 0, none⟩) (by simp; try omega) (.slice (some ⟨gg, 0, none⟩) (G.length + 1) cap')
                have hs6 := ((hs.drew.below q4 hs.drew.lt).grown hgrow5 (Ne.symm nvhs)).far (p := ⟨w.heap.size + 1 + 1 + 1, 0, none⟩) (by simp; try omega) (.slice (some ⟨gg, 0, none⟩) (G.length + 1) cap')
                have hw6 := (((below_drew hb).trans (q4.mono (by exact hb.size))).grown hgrow5 (by have h3 := hb.size; simp; omega) (fun j e => by have := (hF.1.lt _ e).1; omega)).setCell (p := ⟨w.heap.size + 1 + 1 + 1, 0, none⟩) (by simp; try omega) (.slice (some ⟨gg, 0, none⟩) (G.length + 1) cap')
                have ht6 := hO5.put 0 (.slice (some ⟨gg, 0, none⟩) (G.length + 1) cap')
                have hsz6 := hgrow5.size
                simp only [World.size_alloc, World.size_drew] at hsz6
                have hF6 : OwnF (w5.setCell ⟨w.heap.size + 1 + 1 + 1, 0, none⟩ (.slice (some ⟨gg, 0, none⟩) (G.length + 1) cap')) (B2) (.slice (some ⟨gg, 0, none⟩) (G.length + 1) cap') (G ++ [⟨n0, n1, n2⟩]) := by
                  refine ⟨row_far (p := ⟨w.heap.size + 1 + 1 + 1, 0, none⟩) ?_ (by simp; try omega) _, fun f h => ?_⟩
                  · rw [List.length_append, flat_append]
                    exact hown5
                  · rcases List.mem_append.1 h with h | h
                    · exact hF.2 f h
                    · obtain rfl := List.mem_singleton.1 h
                      exact hfits
                have hx6 : OwnF (w5.setCell ⟨w.heap.size + 1 + 1 + 1, 0, none⟩ (.slice (some ⟨gg, 0, none⟩) (G.length + 1) cap')) (w.heap.size + 4) vx Gx := ⟨row_off ((row_below hx.1.drew q4 (Nat.le_refl _)).kept hgrow5 hxv) (p := ⟨w.heap.size + 1 + 1 + 1, 0, none⟩) hxo _, hx.2⟩
                go_wp2
                exact ⟨⟨k + 1, G ++ [⟨n0, n1, n2⟩], _, by omega, by go_num, by rw [HFT.out, HK.out, HG.out]; rfl, by simp; omega, hF6, ht6, hs6, hsA6, hxb6, hx6, hw6⟩, by simp [intOf]; omega⟩
        · obtain rfl : k = M.length := by omega
          rw [List.take_length] at hG
          have HGG : Hid (Gx = G) := Lib.hid (by rw [← HGx.out, ← hG]; exact HS.out)
          clear hG
          obtain ⟨Ax, cx, rfl, hfx⟩ := hx.slice
          obtain ⟨Ay, cy, rfl, hfy⟩ := hF.slice
          have s0 := hs.cell (i := 0) rfl
          have x0 := hxb.cell (i := 0) rfl
          have y0 := ht.cell (i := 0) rfl
          obtain rfl := HGG.out
          have HE := Lib.hid (lwFiles_same Ax Ay Gx cx cy wr hfx hfy)
          clear hfx hfy
          go_wp2_with (fail)
          refine HE.out.mono ?_
          rintro e w5 ⟨rfl, hb5⟩
          go_wp2
          go_ret
          exact ⟨rfl, hb.trans (hb5.mono hb.size)⟩
end Go.Proofs.YtpgodphnjeifhaaGreatDoor

namespace Go.Proofs.YtpgodphnjeifhaaGreatDoor
open Go.RowKit
set_option linter.unusedVariables false

theorem fsOK_of {L : List Fil} (hl : L.length ≤ 12) (hR : Rising L) (h : ∀ f ∈ L, okF f = true) : fsOK L = true :=
  fsOK_true hl fun i hi => ⟨h _ (List.getElem_mem hi), fun h0 => lt_of_rising hR (i := i - 1) (by omega) hi⟩
theorem fsOK_mem {L : List Fil} (h : fsOK L = true) {f : Fil} (hf : f ∈ L) : okF f = true := by
  obtain ⟨i, hi, rfl⟩ := List.mem_iff_getElem.1 hf
  exact ((fsOK_iff.1 h).2 i hi).1
theorem ok_del {L : List Fil} (h : fsOK L = true) (s : ByteArray) : fsOK (delL L s) = true := by
  refine fsOK_of ?_ (rising_del (rising_of_ok h) s) fun f hf => fsOK_mem h (del_mem hf).1
  have h1 := (fsOK_iff.1 h).1
  have h2 := List.length_filter_le (fun g : Fil => !decide (g.name = s)) L
  unfold delL
  omega
theorem ok_put {L : List Fil} (h : fsOK L = true) {f : Fil} (hf : okF f = true) (hl : (putL L f).length ≤ 12) : fsOK (putL L f) = true := by
  refine fsOK_of hl (rising_put (rising_of_ok h) f) fun g hg => ?_
  rcases put_mem hg with rfl | hg
  · exact hf
  · exact fsOK_mem h hg
theorem find_mem {L : List Fil} {s : ByteArray} {f : Fil} (h : findF L s = some f) : f ∈ L ∧ f.name = s :=
  ⟨List.mem_of_find?_eq_some h, by have := List.find?_some h; simpa using this⟩
theorem put_len_in {L : List Fil} {f g : Fil} (hg : g ∈ L) (hn : g.name = f.name) : (putL L f).length ≤ L.length := by
  unfold putL
  rw [ins_len]
  have : (L.filter fun g => !decide (g.name = f.name)).length < L.length := by
    rw [List.length_filter_lt_length_iff_exists]
    exact ⟨g, hg, by simp [hn]⟩
  omega
theorem del_len_in {L : List Fil} {g : Fil} {s : ByteArray} (hg : g ∈ L) (hn : g.name = s) : (delL L s).length + 1 ≤ L.length := by
  unfold delL
  have : (L.filter fun g => !decide (g.name = s)).length < L.length := by
    rw [List.length_filter_lt_length_iff_exists]
    exact ⟨g, hg, by simp [hn]⟩
  omega
theorem find_ins {f : Fil} : ∀ {K : List Fil}, (∀ g ∈ K, g.name ≠ f.name) → findF (insF f K) f.name = some f
  | [], _ => by simp [findF, insF]
  | g :: K, h => by
    have h1 := h g (by simp)
    have ih := find_ins (f := f) (K := K) fun x hx => h x (by simp [hx])
    unfold insF
    split
    · simp [findF]
    · unfold findF at ih ⊢
      rw [List.find?_cons]
      simp only [h1, decide_false]
      exact ih
theorem find_put (L : List Fil) (f : Fil) : findF (putL L f) f.name = some f := find_ins fun g hg => by
  have := (List.mem_filter.1 hg).2
  simpa using this
theorem find_del (L : List Fil) (s : ByteArray) : findF (delL L s) s = none := by
  unfold findF
  rw [List.find?_eq_none]
  intro g hg
  have := (del_mem hg).2
  simpa using this
theorem filter_ins (keep : Fil → Bool) {f : Fil} (hf : keep f = false) : ∀ K : List Fil, (insF f K).filter keep = K.filter keep
  | [] => by simp [insF, hf]
  | g :: K => by
    unfold insF
    split
    · rw [List.filter_cons, hf]; rfl
    · rw [List.filter_cons, List.filter_cons, filter_ins keep hf K]
theorem filter_del (keep : Fil → Bool) (s : ByteArray) (h : ∀ g : Fil, g.name = s → keep g = false) (L : List Fil) : (delL L s).filter keep = L.filter keep := by
  unfold delL
  rw [List.filter_filter]
  refine List.filter_congr fun g _ => ?_
  by_cases hg : g.name = s
  · simp [h g hg]
  · simp [hg]
theorem filter_put (keep : Fil → Bool) (f : Fil) (h : ∀ g : Fil, g.name = f.name → keep g = false) (L : List Fil) : (putL L f).filter keep = L.filter keep := by
  unfold putL
  rw [filter_ins keep (h f rfl)]
  exact filter_del keep f.name h L
theorem keep_one {one two : ByteArray} (g : Fil) (h : g.name = one ∨ g.name = two) : keepF one two g = false := by
  unfold keepF
  rcases h with h | h <;> simp [h]

theorem okF_iff {f : Fil} : okF f = true ↔ nameB f.name = true ∧ f.data.size ≤ 3000 ∧ 0 ≤ f.sync ∧ f.sync ≤ f.data.size := by simp [okF]
theorem okF_new {s t : ByteArray} (hs : nameB s = true) (ht : t.size ≤ 3000) : okF ⟨s, ⟨#[]⟩ ++ t, 0⟩ = true :=
  okF_iff.2 ⟨hs, by show ((⟨#[]⟩ : ByteArray) ++ t).size ≤ 3000; rw [ByteArray.size_append]; show 0 + t.size ≤ 3000; omega, by show (0 : Int) ≤ 0; omega, by show (0 : Int) ≤ _; omega⟩
theorem okF_more {f : Fil} {t : ByteArray} (hf : okF f = true) (ht : f.data.size + t.size ≤ 3000) : okF ⟨f.name, f.data ++ t, f.sync⟩ = true := by
  obtain ⟨h1, h2, h3, h4⟩ := okF_iff.1 hf
  have hz : (f.data ++ t).size = f.data.size + t.size := ByteArray.size_append
  exact okF_iff.2 ⟨h1, by show (f.data ++ t).size ≤ 3000; omega, h3, by show f.sync ≤ ((f.data ++ t).size : Int); omega⟩
theorem okF_name {f : Fil} {t : ByteArray} (hf : okF f = true) (ht : nameB t = true) : okF ⟨t, f.data, f.sync⟩ = true := by
  obtain ⟨h1, h2, h3, h4⟩ := okF_iff.1 hf
  exact okF_iff.2 ⟨ht, h2, h3, h4⟩

/-- The text that a name has: empty where there is no file. -/
def textF (L : List Fil) (s : ByteArray) : ByteArray := match findF L s with | some f => f.data | none => ⟨#[]⟩
theorem ApHow.out {L M : List Fil} {s t : ByteArray} (h : ApHow L s t M) : fsOK M = true ∧ L.filter (keepF s s) = M.filter (keepF s s) ∧ ∃ g, findF M s = some g ∧ g.data = textF L s ++ t := by
  obtain ⟨h1, h2, ⟨h3, h4, h5, rfl⟩ | ⟨f, h3, h4, rfl⟩⟩ := h
  · refine ⟨ok_put h1 (okF_new h2 h5) (by have := put_len L ⟨s, ⟨#[]⟩ ++ t, 0⟩; omega), (filter_put (keepF s s) ⟨s, ⟨#[]⟩ ++ t, 0⟩ (fun g hg => keep_one g (.inl hg)) L).symm, ⟨s, ⟨#[]⟩ ++ t, 0⟩, find_put L ⟨s, ⟨#[]⟩ ++ t, 0⟩, ?_⟩
    simp [textF, h3]
  · obtain ⟨hm, hn⟩ := find_mem h3
    have h12 := (fsOK_iff.1 h1).1
    refine ⟨ok_put h1 (okF_more (fsOK_mem h1 hm) h4) (by have := put_len_in (f := ⟨f.name, f.data ++ t, f.sync⟩) hm rfl; omega), (filter_put (keepF s s) ⟨f.name, f.data ++ t, f.sync⟩ (fun g hg => keep_one g (.inl (hg.trans hn))) L).symm, ⟨f.name, f.data ++ t, f.sync⟩, ?_, ?_⟩
    · exact Eq.trans (congrArg (findF _) hn.symm) (find_put L ⟨f.name, f.data ++ t, f.sync⟩)
    · simp [textF, h3]
theorem RnHow.out {L M : List Fil} {s t : ByteArray} (h : RnHow L s t M) : fsOK M = true ∧ L.filter (keepF s t) = M.filter (keepF s t) ∧ ∃ f g, findF L s = some f ∧ findF M t = some g ∧ g.data = f.data := by
  obtain ⟨h1, h2, f, h3, rfl⟩ := h
  obtain ⟨hm, hn⟩ := find_mem h3
  have h12 := (fsOK_iff.1 h1).1
  refine ⟨ok_put (ok_del h1 s) (okF_name (fsOK_mem h1 hm) h2) (by have := put_len (delL L s) ⟨t, f.data, f.sync⟩; have := del_len_in hm hn; omega), ?_, f, ⟨t, f.data, f.sync⟩, h3, find_put (delL L s) ⟨t, f.data, f.sync⟩, rfl⟩
  rw [filter_put (keepF s t) ⟨t, f.data, f.sync⟩ (fun g hg => keep_one g (.inr hg)), filter_del (keepF s t) s (fun g hg => keep_one g (.inl hg))]
theorem RmHow.out {L M : List Fil} {s : ByteArray} (h : RmHow L s M) : fsOK M = true ∧ L.filter (keepF s s) = M.filter (keepF s s) ∧ findF M s = none := by
  obtain ⟨h1, f, h3, rfl⟩ := h
  exact ⟨ok_del h1 s, (filter_del (keepF s s) s (fun g hg => keep_one g (.inl hg)) L).symm, find_del L s⟩

end Go.Proofs.YtpgodphnjeifhaaGreatDoor
