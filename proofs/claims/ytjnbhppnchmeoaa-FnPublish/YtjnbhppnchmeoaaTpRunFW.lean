/- The draws of topics. What is fetched behind a seek, and what an ack that goes through says (plain mathematics). The draws of topics with a group's name and a number. The method run of topicWork, with any operation (For). -/
import Derived.Test.YtjnbhppnchmeoaaDrTpLW
import Derived.Test.YtjnbhppnchmeoaaTpFtW
import Derived.Test.YtjnbhppnchmeoaaRwkW
import Derived.Test.YtjnbhppnchmeoaaTpPubXW
import Derived.Test.YtjnbhppnchmeoaaTpOpFW
namespace Go.Proofs.Ytjnbhppnchmeoaa
open Go.RowKit
set_option linter.unusedVariables false
set_option linter.unusedSimpArgs false
set_option maxRecDepth 1000000

/-- In the midst of a draw, which began at w: the result's box, the source g, the topic's box q and its rows. -/
structure DQ (w : World) (g q : Nat) (t : Tpc) (A : Option Addr) (a : Nat) (C : Option Addr) (c : Nat) (W : World) : Prop where
  drw : Drw W w.heap.size g
  bel : Below w.heap.size w W
  res : Blk W w.heap.size 26 [.string ⟨#[]⟩, .int .i64 0, .slice none 0 0, .slice none 0 0]
  box : Blk W q 26 [.string t.name, .int .i64 t.base, .slice A t.held.length a, .slice C t.groups.length c]
  rh : Rx W w.heap.size 9 1 A t.held.length a (t.held.map Value.string)
  rg : Gx W w.heap.size C c t.groups
  lq : w.heap.size < q
  lg : w.heap.size < g
section
variable {w W W' : World} {g q : Nat} {t : Tpc} {A C : Option Addr} {a c : Nat}
theorem DQ.draw (h : DQ w g q t A a C c W) (hd : Drw W' w.heap.size g) (ho : W.grownBy W' (some g)) : DQ w g q t A a C c W' := by
  have h1 := h.lg
  have h2 := h.drw.blk_ne h.box (by decide)
  exact ⟨hd, h.bel.trans (only_below ho (by omega) h.bel.size), h.res.grown ho (fun e => by have := Option.some.inj e; omega), h.box.grown ho (fun e => h2 (Option.some.inj e)), h.rh.draw h.drw ho (by decide), h.rg.draw h.drw ho, h.lq, h1⟩
theorem DQ.below (h : DQ w g q t A a C c W) (hb : Below W.heap.size W W') : DQ w g q t A a C c W' :=
  ⟨h.drw.below hb, h.bel.trans (hb.mono h.bel.size), h.res.below hb h.res.lt, h.box.below hb h.box.lt, h.rh.below hb, h.rg.below hb, h.lq, h.lg⟩
theorem DQ.alloc (h : DQ w g q t A a C c W) (o : Obj) : DQ w g q t A a C c (W.alloc o) := h.below ((Below.refl _ _).alloc (Nat.le_refl _) o)
theorem DQ.drew (h : DQ w g q t A a C c W) : DQ w g q t A a C c W.drew := h.below (below_drew (Below.refl _ _))
theorem DQ.four (h : DQ w g q t A a C c W) : W.cell? ⟨q, 0, none⟩ = some (.string t.name) ∧ W.cell? ⟨q, 1, none⟩ = some (.int .i64 t.base) ∧ W.cell? ⟨q, 2, none⟩ = some (.slice A t.held.length a) ∧ W.cell? ⟨q, 3, none⟩ = some (.slice C t.groups.length c) :=
  ⟨h.box.cell (i := 0) rfl, h.box.cell (i := 1) rfl, h.box.cell (i := 2) rfl, h.box.cell (i := 3) rfl⟩
theorem DQ.resC (h : DQ w g q t A a C c W) : (W.cell? ⟨w.heap.size, 0, none⟩ = some (.string ⟨#[]⟩) ∧ W.cell? ⟨w.heap.size, 1, none⟩ = some (.int .i64 0) ∧ W.cell? ⟨w.heap.size, 2, none⟩ = some (.slice none 0 0) ∧ W.cell? ⟨w.heap.size, 3, none⟩ = some (.slice none 0 0)) ∧ W.frozen? ⟨w.heap.size, 0, none⟩ = false ∧ W.frozen? ⟨w.heap.size, 1, none⟩ = false ∧ W.frozen? ⟨w.heap.size, 2, none⟩ = false ∧ W.frozen? ⟨w.heap.size, 3, none⟩ = false :=
  ⟨⟨h.res.cell (i := 0) rfl, h.res.cell (i := 1) rfl, h.res.cell (i := 2) rfl, h.res.cell (i := 3) rfl⟩, h.res.froz 0, h.res.froz 1, h.res.froz 2, h.res.froz 3⟩
abbrev putT (W : World) (b : Nat) (t : Tpc) (A : Option Addr) (a : Nat) (C : Option Addr) (c : Nat) : World := (((W.setCell ⟨b, 0, none⟩ (.string t.name)).setCell ⟨b, 1, none⟩ (.int .i64 t.base)).setCell ⟨b, 2, none⟩ (.slice A t.held.length a)).setCell ⟨b, 3, none⟩ (.slice C t.groups.length c)
/-- The topic in the result's box. -/
theorem DQ.fin (h : DQ w g q t A a C c W) : Blk (putT W w.heap.size t A a C c) w.heap.size 26 [.string t.name, .int .i64 t.base, .slice A t.held.length a, .slice C t.groups.length c] ∧ Blk (putT W w.heap.size t A a C c) q 26 [.string t.name, .int .i64 t.base, .slice A t.held.length a, .slice C t.groups.length c] ∧
    Rx (putT W w.heap.size t A a C c) w.heap.size 9 1 A t.held.length a (t.held.map Value.string) ∧ Gx (putT W w.heap.size t A a C c) w.heap.size C c t.groups ∧ Below w.heap.size w (putT W w.heap.size t A a C c) := by
  have h1 := h.lq
  have go : ∀ {W : World} {cs : List Value} (i : Nat) (v : Value), Blk W w.heap.size 26 cs ∧ Blk W q 26 [.string t.name, .int .i64 t.base, .slice A t.held.length a, .slice C t.groups.length c] ∧ Rx W w.heap.size 9 1 A t.held.length a (t.held.map Value.string) ∧ Gx W w.heap.size C c t.groups ∧ Below w.heap.size w W →
      Blk (W.setCell ⟨w.heap.size, i, none⟩ v) w.heap.size 26 (cs.set i v) ∧ Blk (W.setCell ⟨w.heap.size, i, none⟩ v) q 26 [.string t.name, .int .i64 t.base, .slice A t.held.length a, .slice C t.groups.length c] ∧ Rx (W.setCell ⟨w.heap.size, i, none⟩ v) w.heap.size 9 1 A t.held.length a (t.held.map Value.string) ∧ Gx (W.setCell ⟨w.heap.size, i, none⟩ v) w.heap.size C c t.groups ∧ Below w.heap.size w (W.setCell ⟨w.heap.size, i, none⟩ v) :=
    fun i v ⟨k1, k5, k2, k3, k4⟩ => ⟨k1.put i v, k5.far (by simp; omega) v, k2.off k1 (by decide) i v, k3.off k1 (by decide) i v, k4.setCell (p := ⟨w.heap.size, i, none⟩) (Nat.le_refl _) v⟩
  have r := go 3 (.slice C t.groups.length c) (go 2 (.slice A t.held.length a) (go 1 (.int .i64 t.base) (go 0 (.string t.name) ⟨h.res, h.box, h.rh, h.rg, h.bel⟩)))
  simp only [List.set_cons_succ, List.set_cons_zero] at r
  exact r
theorem putT_far {a' : Addr} {v : Value} {b : Nat} (h : W.cell? a' = some v) (hne : a'.block ≠ b) : (putT W b t A a C c).cell? a' = some v :=
  cell_put_far (cell_put_far (cell_put_far (cell_put_far h hne _) hne _) hne _) hne _
theorem DQ.fourP (h : DQ w g q t A a C c W) : (putT W w.heap.size t A a C c).cell? ⟨q, 0, none⟩ = some (.string t.name) ∧ (putT W w.heap.size t A a C c).cell? ⟨q, 1, none⟩ = some (.int .i64 t.base) ∧ (putT W w.heap.size t A a C c).cell? ⟨q, 2, none⟩ = some (.slice A t.held.length a) ∧ (putT W w.heap.size t A a C c).cell? ⟨q, 3, none⟩ = some (.slice C t.groups.length c) := by
  have h1 := h.lq
  obtain ⟨k0, k1, k2, k3⟩ := h.four
  exact ⟨putT_far k0 (by simp; omega), putT_far k1 (by simp; omega), putT_far k2 (by simp; omega), putT_far k3 (by simp; omega)⟩
end
theorem dq_new {w W : World} {g : Nat} {t : Tpc} {A C : Option Addr} {a c : Nat} (hd : Drw W w.heap.size g) (hb : Below w.heap.size w W) (hr : Blk W w.heap.size 26 [.string ⟨#[]⟩, .int .i64 0, .slice none 0 0, .slice none 0 0]) (hh : Rx W w.heap.size 9 1 A t.held.length a (t.held.map Value.string)) (hg : Gx W w.heap.size C c t.groups) (lg : w.heap.size < g) :
    DQ w g W.heap.size t A a C c (W.alloc (.cells #[.string t.name, .int .i64 t.base, .slice A t.held.length a, .slice C t.groups.length c] 26)) :=
  have hz := hr.lt
  have ha := (Below.refl W.heap.size W).alloc (Nat.le_refl _) (.cells #[.string t.name, .int .i64 t.base, .slice A t.held.length a, .slice C t.groups.length c] 26)
  ⟨hd.alloc _, hb.alloc hb.size _, hr.alloc _, Blk.fresh W 26 [.string t.name, .int .i64 t.base, .slice A t.held.length a, .slice C t.groups.length c], hh.below ha, hg.below ha, hz, lg⟩
/-- What a draw of a topic gives. -/
def GotT (w w' : World) (t : Tpc) (A : Option Addr) (a : Nat) (C : Option Addr) (c : Nat) : Prop := t.easy ∧ Rx w' w.heap.size 9 1 A t.held.length a (t.held.map Value.string) ∧ Gx w' w.heap.size C c t.groups ∧ Below w.heap.size w w'

end Go.Proofs.Ytjnbhppnchmeoaa

namespace Go.Proofs.Ytjnbhppnchmeoaa
open Go.RowKit
set_option linter.unusedVariables false
set_option linter.unusedSimpArgs false
theorem beg_short {t : Tpc} {g : ByteArray} {ok : Bool} (h : begC t g ok = 0) : ¬ 20000 < g.size := by
  unfold begC at h
  split at h
  · exact absurd h (by decide)
  · assumption
/-- The group at the place has the name. -/
theorem hasG_name (t : Tpc) (s : ByteArray) : ((hasG t s)[posG t.groups s]'(hasG_lt t s)).name = s := by
  by_cases hi : isG t.groups s = true
  · obtain ⟨h, e⟩ := isG_iff.1 hi
    have e2 : hasG t s = t.groups := by unfold hasG; rw [if_pos hi]
    simp only [e2]; exact e
  · have e2 : hasG t s = insG t s := by unfold hasG; rw [if_neg hi]
    have hp := posG_le t.groups s
    simp only [e2]
    unfold insG
    rw [List.getElem_append_left (by simp; omega), List.getElem_append_right (by simp; omega)]
    simp
/-- Behind a seek a fetch of this group answers the number. -/
theorem seek_fetch {t : Tpc} {g : ByteArray} {n : Int} (h : (setT t g n true).code = 0) : (setT t g n true).o.fits ∧ (setT t g n true).o.small ∧ (fetT (setT t g n true).o g 1).n = n := by
  obtain ⟨hb, hw, hp, h1, h2, he, ho⟩ := set_ok h
  have hf := ho.facts
  refine ⟨hf.1, hf.2, ?_⟩
  obtain ⟨_, hn, _, _⟩ := beg_facts hb
  have hs := beg_short hb
  rw [he] at ho ⊢
  have hl : posG t.groups g < ((hasG t g).set (posG t.groups g) ⟨((hasG t g).getD (posG t.groups g) zeroGrp).name, n⟩).length := by rw [List.length_set]; exact hp
  have hd : (hasG t g).getD (posG t.groups g) zeroGrp = (hasG t g)[posG t.groups g] := by rw [List.getD_eq_getElem?_getD, List.getElem?_eq_getElem hp]; rfl
  obtain ⟨u, hu⟩ : ∃ u, u = (setA (withG t g) (posG t.groups g) n).o := ⟨_, rfl⟩
  have hug : u.groups = (hasG t g).set (posG t.groups g) ⟨((hasG t g).getD (posG t.groups g) zeroGrp).name, n⟩ := by rw [hu]; rfl
  rw [← hu] at ho ⊢
  have hl' : posG t.groups g < u.groups.length := by rw [hug]; exact hl
  have hat : u.groups[posG t.groups g] = ⟨g, n⟩ := by
    simp only [hug, List.getElem_set_self, hd, hasG_name]
  obtain ⟨q1, q2⟩ := isG_at (rising_of ho) hl' (by rw [hat])
  have hB : begC u g (inB 1 0 20) = 0 := by
    refine beg_ok hs ?_ ?_
    · rw [topB_true ho, hn]; decide
    · intro hx; rw [q2] at hx; exact absurd hx.1 (by decide)
  unfold fetT forR
  rw [if_pos hB]
  have hH : hasG u g = u.groups := by unfold hasG; rw [if_pos q2]
  show ((hasG u g).getD (posG u.groups g) zeroGrp).acked = n
  rw [hH, ← q1, List.getD_eq_getElem?_getD, List.getElem?_eq_getElem hl', hat]
  rfl
/-- An ack that goes through goes not back. -/
theorem ack_fetch {t : Tpc} {g : ByteArray} {n : Int} (h : (setT t g n false).code = 0) : (fetT t g 0).n ≤ n := by
  obtain ⟨hb, hw, hp, h1, h2, he, ho⟩ := set_ok h
  have hB : begC t g (inB 0 0 20) = 0 := by rw [show inB 0 0 20 = true by decide]; exact hb
  unfold fetT forR
  rw [if_pos hB]
  rw [if_neg (by decide)] at h1
  exact h1
end Go.Proofs.Ytjnbhppnchmeoaa

namespace Go.Proofs.Ytjnbhppnchmeoaa
open Go.RowKit
set_option linter.unusedVariables false
set_option linter.unusedSimpArgs false
set_option maxRecDepth 1000000

set_option maxHeartbeats 4000000 in
theorem l07Who_any (B g : Nat) (w : World) (h : Drw w B g) :
    Calls Try.prog 70 #[.pointer (some ⟨g, 0, none⟩)] w fun e w' => ∃ s : ByteArray, e = .returned (.string s) ∧ s.size ≤ 1 ∧ Drw w' B g ∧ w.grownBy w' (some g) := by
  go_enter Try.func70, Try.ntmps70
  go_wp2_with (fail)
  refine (one_any B g 20 _ h (by omega) (by omega)).mono ?_
  rintro e w1 ⟨b, rfl, hd1, ho1⟩
  cases b
  rotate_left
  · go_wp2
    go_ret
    exact ⟨_, rfl, by decide, hd1, ho1⟩
  · obtain ⟨S, hS⟩ : ∃ S : List ByteArray, S = [⟨#[103]⟩, ⟨#[104]⟩, ⟨#[105]⟩, ⟨#[106]⟩, ⟨#[107]⟩] := ⟨_, rfl⟩
    have PP := Lib.hid (pick_any B g w1.heap.size S _ (hd1.alloc (.cells (S.map Value.string).toArray 9)) (Blk.fresh w1 9 (S.map Value.string)) (by rw [hS]; decide) (by rw [hS]; decide))
    have hsz : ∀ s ∈ S, s.size ≤ 1 := by rw [hS]; decide
    have hgA := World.grownBy_alloc w1 (.cells (S.map Value.string).toArray 9) (some g)
    rw [hS] at PP hsz hgA
    clear hS
    go_wp2_with (fail)
    refine PP.out.mono ?_
    rintro e w4 ⟨s, hs, rfl, hd4, ho4⟩
    have hs' := hsz s hs
    go_wp2
    go_ret
    exact ⟨s, rfl, hs', hd4, only_trans ho1 (only_trans hgA ho4)⟩
theorem wrap_wf (a : Int) : (Lit.int .i64 (IntKind.i64.wrap a)).wf = true := by
  simp [Lit.wf, IntKind.wrap, IntKind.min, IntKind.max, IntKind.signed, IntKind.bits] <;> (try split) <;> omega

set_option maxHeartbeats 16000000 in
theorem drawTopicAck_any (A : Option Addr) (n c : Nat) (w : World) (h : Bts w w.heap.size A n) :
    Calls Try.prog 23 #[.slice A n c] w fun e w' => ∃ (t : Tpc) (A0 : Option Addr) (a0 : Nat) (C0 : Option Addr) (c0 : Nat) (s : ByteArray) (k : Int), e = .returned (.tuple #[topV t.name t.base (.slice A0 t.held.length a0) (.slice C0 t.groups.length c0), .string s, .int .i64 k]) ∧ GotT w w' t A0 a0 C0 c0 ∧ s.size ≤ 1 ∧ (Lit.int .i64 k).wf = true := by
  have hb0 : Below w.heap.size w (w.alloc (.cells #[.string ⟨#[]⟩, .int .i64 0, .slice none 0 0, .slice none 0 0] 26)) := (Below.refl _ _).alloc (Nat.le_refl _) _
  have hR0 := Blk.fresh w 26 [.string ⟨#[]⟩, .int .i64 0, .slice none 0 0, .slice none 0 0]
  simp only [List.toArray] at hR0
  have hB0 : Bts (w.alloc (.cells #[.string ⟨#[]⟩, .int .i64 0, .slice none 0 0, .slice none 0 0] 26)) w.heap.size A n := h.of_block fun k hk => hb0.block k hk
  have hz0 := hb0.size
  go_enter Try.func23, Try.ntmps23
  go_wp2_with (fail)
  refine (source_any A n c w.heap.size _ hB0 hz0).mono ?_
  rintro e w1 ⟨g, rfl, hg, hd1, hb1⟩
  have lg : w.heap.size < g := by rw [World.size_alloc] at hg; omega
  replace hR0 := hR0.below hb1 hR0.lt
  replace hb0 := hb0.trans (hb1.mono hz0)
  clear hB0 hz0 hg hb1
  go_wp2_with (fail)
  refine (l07Loop w.heap.size g w1 hd1).mono ?_
  rintro e w2 ⟨t, A0, a0, C0, c0, rfl, hf, hsm, hrh, hrg, hd2, ho2⟩
  have hez : t.easy := ⟨hf, hsm⟩
  replace hrh := hrh.low hb0.size
  replace hrg := hrg.low hb0.size
  replace hR0 := hR0.grown ho2 (fun e => by have := Option.some.inj e; omega)
  replace hb0 := hb0.trans (only_below ho2 (by omega) hb0.size)
  clear hd1 ho2 hf hsm
  have hs := dq_new hd2 hb0 hR0 hrh hrg lg
  clear hd2 hb0 hR0 hrh hrg
  go_wp2_with (fail)
  generalize w2.alloc (.cells #[.string t.name, .int .i64 t.base, .slice A0 t.held.length a0, .slice C0 t.groups.length c0] 26) = W2 at hs ⊢
  generalize w2.heap.size = q at hs ⊢
  refine (l07Who_any w.heap.size g W2 hs.drw).mono ?_
  rintro e W3 ⟨s, rfl, hsz, hdw, how⟩
  replace hs := hs.draw hdw how
  clear hdw how W2
  go_wp2_with (fail)
  refine (one_any w.heap.size g 10 _ hs.drw (by omega) (by omega)).mono ?_
  rintro e W4 ⟨b, rfl, hdw, how⟩
  replace hs := hs.draw hdw how
  clear hdw how W3
  cases b
  rotate_left
  · go_upto_region 5 with (fail)
    have hs0 := hs.drew
    have x0 := hs0.four
    go_region_held3 (fun W => W.cell? ⟨q, 0, none⟩ = some (.string t.name) ∧ W.cell? ⟨q, 1, none⟩ = some (.int .i64 t.base) ∧ W.cell? ⟨q, 2, none⟩ = some (.slice A0 t.held.length a0) ∧ W.cell? ⟨q, 3, none⟩ = some (.slice C0 t.groups.length c0))
      (first
        | with_reducible exact x0
        | with_reducible exact xa
        | with_reducible exact xp)
      (first
        | (go_at_call 73; have hdr := hs0.drw; (with_reducible refine (edge_any w.heap.size g _ hdr).mono ?_); clear hdr; rintro e wa ⟨y, rfl, y0, y1, hda, hoa⟩; have hsa := hs0.draw hda hoa; have xa := hsa.four; have xp := hsa.fourP; obtain ⟨⟨r0, r1, r2, r3⟩, s0, s1, s2, s3⟩ := hsa.resC))
    go_wp2
    clear x0 xa xp r0 r1 r2 r3 s0 s1 s2 s3
    have hfin := hsa.fin
    unfold putT at hfin
    obtain ⟨hB9, _, hrh, hrg, hb9⟩ := hfin
    generalize (((wa.setCell ⟨w.heap.size, 0, none⟩ (.string t.name)).setCell ⟨w.heap.size, 1, none⟩ (.int .i64 t.base)).setCell ⟨w.heap.size, 2, none⟩ (.slice A0 t.held.length a0)).setCell ⟨w.heap.size, 3, none⟩ (.slice C0 t.groups.length c0) = W9 at hB9 hrh hrg hb9 ⊢
    have k0 := hB9.cell (i := 0) rfl
    have k1 := hB9.cell (i := 1) rfl
    have k2 := hB9.cell (i := 2) rfl
    have k3 := hB9.cell (i := 3) rfl
    exact bodyPost_ret (v := .tuple #[.agg #[.string t.name, .int .i64 t.base, .slice A0 t.held.length a0, .slice C0 t.groups.length c0], .string s, .int .i64 (y)]) (by simp only [results, Try.results23]; simp [go_sem, k0, k1, k2, k3]) rfl ⟨t, A0, a0, C0, c0, s, y, rfl, ⟨hez, hrh, hrg, hb9⟩, hsz, by simp [Lit.wf, IntKind.min, IntKind.max, IntKind.bits, IntKind.signed]; omega⟩
  · go_upto_region 6 with (fail)
    have hs0 := hs.drew
    have x0 := hs0.four
    go_region_held3 (fun W => W.cell? ⟨q, 0, none⟩ = some (.string t.name) ∧ W.cell? ⟨q, 1, none⟩ = some (.int .i64 t.base) ∧ W.cell? ⟨q, 2, none⟩ = some (.slice A0 t.held.length a0) ∧ W.cell? ⟨q, 3, none⟩ = some (.slice C0 t.groups.length c0))
      (first
        | with_reducible exact x0
        | with_reducible exact xa
        | with_reducible exact xp)
      (first
        | (go_at_call 52; have hdr := hs0.drw; (with_reducible refine (n_any w.heap.size g 9 _ hdr (by omega) (by omega)).mono ?_); clear hdr; rintro e wa ⟨y, rfl, y0, y1, _, hda, hoa⟩; have y2 := y1 (by omega); clear y1; have hsa := hs0.draw hda hoa; have xa := hsa.four; have xp := hsa.fourP; obtain ⟨⟨r0, r1, r2, r3⟩, s0, s1, s2, s3⟩ := hsa.resC))
    go_wp2
    clear x0 xa xp r0 r1 r2 r3 s0 s1 s2 s3
    have hfin := hsa.fin
    unfold putT at hfin
    obtain ⟨hB9, _, hrh, hrg, hb9⟩ := hfin
    generalize (((wa.setCell ⟨w.heap.size, 0, none⟩ (.string t.name)).setCell ⟨w.heap.size, 1, none⟩ (.int .i64 t.base)).setCell ⟨w.heap.size, 2, none⟩ (.slice A0 t.held.length a0)).setCell ⟨w.heap.size, 3, none⟩ (.slice C0 t.groups.length c0) = W9 at hB9 hrh hrg hb9 ⊢
    have k0 := hB9.cell (i := 0) rfl
    have k1 := hB9.cell (i := 1) rfl
    have k2 := hB9.cell (i := 2) rfl
    have k3 := hB9.cell (i := 3) rfl
    exact bodyPost_ret (v := .tuple #[.agg #[.string t.name, .int .i64 t.base, .slice A0 t.held.length a0, .slice C0 t.groups.length c0], .string s, .int .i64 (IntKind.i64.wrap (IntKind.i64.wrap (t.base + y) - 1))]) (by simp only [results, Try.results23]; simp [go_sem, k0, k1, k2, k3]) rfl ⟨t, A0, a0, C0, c0, s, IntKind.i64.wrap (IntKind.i64.wrap (t.base + y) - 1), rfl, ⟨hez, hrh, hrg, hb9⟩, hsz, wrap_wf _⟩

theorem bts_upT {w w' : World} {A : Option Addr} {n : Nat} (h : Bts w w.heap.size A n) (hb : Below w.heap.size w w') : Bts w' w'.heap.size A n := by
  have h' := h.of_block fun k hk => hb.block k hk
  exact ⟨h'.1, fun i hi => by
    obtain ⟨a, x, e, h1, h2, h3⟩ := h'.2 i hi
    exact ⟨a, x, e, Nat.lt_of_lt_of_le h1 hb.size, h2, h3⟩⟩
theorem got_put {w W : World} {t : Tpc} {A C : Option Addr} {a c : Nat} (hR : Blk W w.heap.size 26 [.string ⟨#[]⟩, .int .i64 0, .slice none 0 0, .slice none 0 0]) (hh : Rx W w.heap.size 9 1 A t.held.length a (t.held.map Value.string)) (hg : Gx W w.heap.size C c t.groups) (hb : Below w.heap.size w W) :
    Blk (putT W w.heap.size t A a C c) w.heap.size 26 [.string t.name, .int .i64 t.base, .slice A t.held.length a, .slice C t.groups.length c] ∧ Rx (putT W w.heap.size t A a C c) w.heap.size 9 1 A t.held.length a (t.held.map Value.string) ∧ Gx (putT W w.heap.size t A a C c) w.heap.size C c t.groups ∧ Below w.heap.size w (putT W w.heap.size t A a C c) := by
  have go : ∀ {W : World} {cs : List Value} (i : Nat) (v : Value), Blk W w.heap.size 26 cs ∧ Rx W w.heap.size 9 1 A t.held.length a (t.held.map Value.string) ∧ Gx W w.heap.size C c t.groups ∧ Below w.heap.size w W →
      Blk (W.setCell ⟨w.heap.size, i, none⟩ v) w.heap.size 26 (cs.set i v) ∧ Rx (W.setCell ⟨w.heap.size, i, none⟩ v) w.heap.size 9 1 A t.held.length a (t.held.map Value.string) ∧ Gx (W.setCell ⟨w.heap.size, i, none⟩ v) w.heap.size C c t.groups ∧ Below w.heap.size w (W.setCell ⟨w.heap.size, i, none⟩ v) :=
    fun i v ⟨k1, k2, k3, k4⟩ => ⟨k1.put i v, k2.off k1 (by decide) i v, k3.off k1 (by decide) i v, k4.setCell (p := ⟨w.heap.size, i, none⟩) (Nat.le_refl _) v⟩
  have r := go 3 (.slice C t.groups.length c) (go 2 (.slice A t.held.length a) (go 1 (.int .i64 t.base) (go 0 (.string t.name) ⟨hR, hh, hg, hb⟩)))
  simp only [List.set_cons_succ, List.set_cons_zero] at r
  exact r

end Go.Proofs.Ytjnbhppnchmeoaa

namespace Go.Proofs.Ytjnbhppnchmeoaa
open Go.RowKit Go.Deep
set_option linter.unusedVariables false
set_option maxRecDepth 1000000
set_option maxHeartbeats 8000000 in
theorem runFor_any (t : Tpc) (s : ByteArray) (n : Int) (r : Bool) (R : Ans) (lo p : Nat) (A : Option Addr) (c : Nat) (B : Option Addr) (d : Nat) (w : World) (hf : t.fits) (hsm : t.small) (hA : Strs w w.heap.size A t.held) (hB : Grs w w.heap.size B t.groups) (hp : lo ≤ p) (b5 b7 b9 : Nat) (HOP : ∀ W A2 a2 B2 b2, Kept w W p → topOK t → r = true → Wk W lo p t s n A2 a2 B2 b2 → Calls Try.prog 114 #[.pointer (some ⟨b5, 0, none⟩), .pointer (some ⟨b7, 0, none⟩), .pointer (some ⟨b9, 0, none⟩)] W (OpPost lo p s n R W)) (P : Blk w p 83 [.string ⟨#[]⟩, .int .i64 0, .slice none 0 0, .slice none 0 0, .string s, .int .i64 n, .slice none 0 0, .int .i64 0]) :
    Calls Try.prog 54 #[.pointer (some ⟨p, 0, none⟩), topV t.name t.base (.slice A t.held.length c) (.slice B t.groups.length d), .bool r, (.func (.func 114) #[] #[.pointer (some ⟨b5, 0, none⟩), .pointer (some ⟨b7, 0, none⟩), .pointer (some ⟨b9, 0, none⟩)])] w fun e w' => RunO lo w w' e (runR t r R) ∧ Kp w w' p := by
  have hlow : lo ≤ w.heap.size := Nat.le_trans hp (Nat.le_of_lt P.lt)
  have hplt := P.lt
  have TR := Lib.hid (fun W (h : Below w.heap.size w W) => implTopicRight_any t A c B d W hf (hA.on h) (hB.on h))
  have HR0 : Hid (runR t r R = _) := Lib.hid (runR.eq_def t r R)
  have HO := Lib.hid (topB_iff (t := t))
  have FT := Lib.hid (fun W (h : Below w.heap.size w W) (ho : topOK t) => freshTopic_any t A c B d W hsm.1 (fun x hx => by obtain ⟨i, hi, rfl⟩ := List.mem_iff_getElem.1 hx; exact hsm.2.1.2 i hi) (fun x hx => by obtain ⟨i, hi, rfl⟩ := List.mem_iff_getElem.1 hx; exact hsm.2.2.2 i hi) ho.2.2.1 ho.2.2.2.2.1 (hA.on h) (hB.on h))
  have PB := Lib.hid HOP
  clear HOP
  obtain ⟨rr, HRR⟩ : ∃ x, Hid (runR t r R = x) := ⟨_, Lib.hid rfl⟩
  rw [HRR.out] at HR0 ⊢
  obtain ⟨nm, bs, H, G⟩ := t
  simp only at TR HR0 FT hA hB ⊢
  have K := (Blk.fresh w 26 [.string nm, .int .i64 bs, .slice A H.length c, .slice B G.length d]).alloc (.cells #[.string ⟨#[]⟩, .int .i64 0, .slice none 0 0, .slice none 0 0, .slice none 0 0, .int .i64 0, .int .i64 0] 30)
  have O := Blk.fresh (w.alloc (.cells #[.string nm, .int .i64 bs, .slice A H.length c, .slice B G.length d] 26)) 30 [.string ⟨#[]⟩, .int .i64 0, .slice none 0 0, .slice none 0 0, .slice none 0 0, .int .i64 0, .int .i64 0]
  have hb : Below w.heap.size w ((w.alloc (.cells #[.string nm, .int .i64 bs, .slice A H.length c, .slice B G.length d] 26)).alloc (.cells #[.string ⟨#[]⟩, .int .i64 0, .slice none 0 0, .slice none 0 0, .slice none 0 0, .int .i64 0, .int .i64 0] 30)) := ((Below.refl _ _).alloc (Nat.le_refl _) _).alloc (by simp) _
  simp only [World.size_alloc] at K O
  replace K : Blk ((w.alloc (.cells #[.string nm, .int .i64 bs, .slice A H.length c, .slice B G.length d] 26)).alloc (.cells #[.string ⟨#[]⟩, .int .i64 0, .slice none 0 0, .slice none 0 0, .slice none 0 0, .int .i64 0, .int .i64 0] 30)) w.heap.size 26 [.string nm, .int .i64 bs, .slice A H.length c, .slice B G.length d] := K
  replace O : Blk ((w.alloc (.cells #[.string nm, .int .i64 bs, .slice A H.length c, .slice B G.length d] 26)).alloc (.cells #[.string ⟨#[]⟩, .int .i64 0, .slice none 0 0, .slice none 0 0, .slice none 0 0, .int .i64 0, .int .i64 0] 30)) (w.heap.size + 1) 30 [.string ⟨#[]⟩, .int .i64 0, .slice none 0 0, .slice none 0 0, .slice none 0 0, .int .i64 0, .int .i64 0] := O
  have hbw := hb
  replace hb := hb.mono hlow
  have kt := ((Kept.refl w p).alloc (.cells #[.string nm, .int .i64 bs, .slice A H.length c, .slice B G.length d] 26)).alloc (.cells #[.string ⟨#[]⟩, .int .i64 0, .slice none 0 0, .slice none 0 0, .slice none 0 0, .int .i64 0, .int .i64 0] 30)
  have kp := ((Kp.refl w p).alloc (.cells #[.string nm, .int .i64 bs, .slice A H.length c, .slice B G.length d] 26)).alloc (.cells #[.string ⟨#[]⟩, .int .i64 0, .slice none 0 0, .slice none 0 0, .slice none 0 0, .int .i64 0, .int .i64 0] 30)
  replace P := (P.alloc (.cells #[.string nm, .int .i64 bs, .slice A H.length c, .slice B G.length d] 26)).alloc (.cells #[.string ⟨#[]⟩, .int .i64 0, .slice none 0 0, .slice none 0 0, .slice none 0 0, .int .i64 0, .int .i64 0] 30)
  cases r with
  | false =>
    have HR : Hid (rr = ill 1) := Lib.hid (by rw [HR0.out, if_pos (by simp)])
    clear HR0
    go_enter Try.func54, Try.ntmps54
    go_upto_region 2 with (fail)
    generalize (w.alloc (.cells #[.string nm, .int .i64 bs, .slice A H.length c, .slice B G.length d] 26)).alloc (.cells #[.string ⟨#[]⟩, .int .i64 0, .slice none 0 0, .slice none 0 0, .slice none 0 0, .int .i64 0, .int .i64 0] 30) = v0 at K O P hb hbw kp kt ⊢
    have qc0 := O.cell (i := 0) rfl
    have qf0 := O.froz 0
    have qc1 := O.cell (i := 1) rfl
    have qf1 := O.froz 1
    have qc2 := O.cell (i := 2) rfl
    have qf2 := O.froz 2
    have qc3 := O.cell (i := 3) rfl
    have qf3 := O.froz 3
    have qc4 := O.cell (i := 4) rfl
    have qf4 := O.froz 4
    have qc5 := O.cell (i := 5) rfl
    have qf5 := O.froz 5
    have qc6 := O.cell (i := 6) rfl
    have qf6 := O.froz 6
    go_wp2
    clear qc0 qf0 qc1 qf1 qc2 qf2 qc3 qf3 qc4 qf4 qc5 qf5 qc6 qf6
    have O9 := (((((((O.put 0 (.string ⟨#[]⟩)).put 1 (.int .i64 0)).put 2 (.slice none 0 0)).put 3 (.slice none 0 0)).put 4 (.slice none 0 0)).put 5 (.int .i64 0)).put 6 (.int .i64 1))
    have hb9 := (((((((hb.setCell (p := ⟨w.heap.size + 1, 0, none⟩) (by simp <;> omega) (.string ⟨#[]⟩)).setCell (p := ⟨w.heap.size + 1, 1, none⟩) (by simp <;> omega) (.int .i64 0)).setCell (p := ⟨w.heap.size + 1, 2, none⟩) (by simp <;> omega) (.slice none 0 0)).setCell (p := ⟨w.heap.size + 1, 3, none⟩) (by simp <;> omega) (.slice none 0 0)).setCell (p := ⟨w.heap.size + 1, 4, none⟩) (by simp <;> omega) (.slice none 0 0)).setCell (p := ⟨w.heap.size + 1, 5, none⟩) (by simp <;> omega) (.int .i64 0)).setCell (p := ⟨w.heap.size + 1, 6, none⟩) (by simp <;> omega) (.int .i64 1))
    have kp9 := (((((((kp.put ⟨w.heap.size + 1, 0, none⟩ (.inr (by simp)) (.string ⟨#[]⟩)).put ⟨w.heap.size + 1, 1, none⟩ (.inr (by simp)) (.int .i64 0)).put ⟨w.heap.size + 1, 2, none⟩ (.inr (by simp)) (.slice none 0 0)).put ⟨w.heap.size + 1, 3, none⟩ (.inr (by simp)) (.slice none 0 0)).put ⟨w.heap.size + 1, 4, none⟩ (.inr (by simp)) (.slice none 0 0)).put ⟨w.heap.size + 1, 5, none⟩ (.inr (by simp)) (.int .i64 0)).put ⟨w.heap.size + 1, 6, none⟩ (.inr (by simp)) (.int .i64 1))
    simp only [List.set_cons_succ, List.set_cons_zero] at O9
    generalize ((((((v0.setCell ⟨w.heap.size + 1, 0, none⟩ (.string ⟨#[]⟩)).setCell ⟨w.heap.size + 1, 1, none⟩ (.int .i64 0)).setCell ⟨w.heap.size + 1, 2, none⟩ (.slice none 0 0)).setCell ⟨w.heap.size + 1, 3, none⟩ (.slice none 0 0)).setCell ⟨w.heap.size + 1, 4, none⟩ (.slice none 0 0)).setCell ⟨w.heap.size + 1, 5, none⟩ (.int .i64 0)).setCell ⟨w.heap.size + 1, 6, none⟩ (.int .i64 1) = w9 at O9 hb9 kp9  ⊢
    have oc0 := O9.cell (i := 0) rfl
    have oc1 := O9.cell (i := 1) rfl
    have oc2 := O9.cell (i := 2) rfl
    have oc3 := O9.cell (i := 3) rfl
    have oc4 := O9.cell (i := 4) rfl
    have oc5 := O9.cell (i := 5) rfl
    have oc6 := O9.cell (i := 6) rfl
    exact bodyPost_ret (v := .agg #[.string ⟨#[]⟩, .int .i64 0, .slice none 0 0, .slice none 0 0, .slice none 0 0, .int .i64 0, .int .i64 1]) (by simp [results, Try.results54, go_sem, oc0, oc1, oc2, oc3, oc4, oc5, oc6]) rfl (⟨by rw [HR.out]; exact RunO.ill hb9, kp9⟩)
  | true =>
  rcases Bool.eq_false_or_eq_true (topB ⟨nm, bs, H, G⟩) with hT | hT
  rotate_left
  · have HR : Hid (rr = ill 1) := Lib.hid (by rw [HR0.out, if_pos (by rw [hT]; rfl)])
    rw [hT] at TR
    clear HR0
    go_enter Try.func54, Try.ntmps54
    go_wp2_with (fail)
    generalize (w.alloc (.cells #[.string nm, .int .i64 bs, .slice A H.length c, .slice B G.length d] 26)).alloc (.cells #[.string ⟨#[]⟩, .int .i64 0, .slice none 0 0, .slice none 0 0, .slice none 0 0, .int .i64 0, .int .i64 0] 30) = v0 at K O P hb hbw kp kt ⊢
    refine (TR.out _ hbw).mono ?_
    rintro e w0 ⟨rfl, hb0⟩
    replace K := K.below hb0 K.lt
    replace O := O.below hb0 O.lt
    replace P := P.below hb0 P.lt
    replace hb := hb.trans (hb0.mono (Nat.le_trans hlow hb.size))
    replace kp := kp.below hb0
    replace kt := kt.below hb0
    have qc0 := O.cell (i := 0) rfl
    have qf0 := O.froz 0
    have qc1 := O.cell (i := 1) rfl
    have qf1 := O.froz 1
    have qc2 := O.cell (i := 2) rfl
    have qf2 := O.froz 2
    have qc3 := O.cell (i := 3) rfl
    have qf3 := O.froz 3
    have qc4 := O.cell (i := 4) rfl
    have qf4 := O.froz 4
    have qc5 := O.cell (i := 5) rfl
    have qf5 := O.froz 5
    have qc6 := O.cell (i := 6) rfl
    have qf6 := O.froz 6
    go_wp2
    clear qc0 qf0 qc1 qf1 qc2 qf2 qc3 qf3 qc4 qf4 qc5 qf5 qc6 qf6
    have O9 := (((((((O.put 0 (.string ⟨#[]⟩)).put 1 (.int .i64 0)).put 2 (.slice none 0 0)).put 3 (.slice none 0 0)).put 4 (.slice none 0 0)).put 5 (.int .i64 0)).put 6 (.int .i64 1))
    have hb9 := (((((((hb.setCell (p := ⟨w.heap.size + 1, 0, none⟩) (by simp <;> omega) (.string ⟨#[]⟩)).setCell (p := ⟨w.heap.size + 1, 1, none⟩) (by simp <;> omega) (.int .i64 0)).setCell (p := ⟨w.heap.size + 1, 2, none⟩) (by simp <;> omega) (.slice none 0 0)).setCell (p := ⟨w.heap.size + 1, 3, none⟩) (by simp <;> omega) (.slice none 0 0)).setCell (p := ⟨w.heap.size + 1, 4, none⟩) (by simp <;> omega) (.slice none 0 0)).setCell (p := ⟨w.heap.size + 1, 5, none⟩) (by simp <;> omega) (.int .i64 0)).setCell (p := ⟨w.heap.size + 1, 6, none⟩) (by simp <;> omega) (.int .i64 1))
    have kp9 := (((((((kp.put ⟨w.heap.size + 1, 0, none⟩ (.inr (by simp)) (.string ⟨#[]⟩)).put ⟨w.heap.size + 1, 1, none⟩ (.inr (by simp)) (.int .i64 0)).put ⟨w.heap.size + 1, 2, none⟩ (.inr (by simp)) (.slice none 0 0)).put ⟨w.heap.size + 1, 3, none⟩ (.inr (by simp)) (.slice none 0 0)).put ⟨w.heap.size + 1, 4, none⟩ (.inr (by simp)) (.slice none 0 0)).put ⟨w.heap.size + 1, 5, none⟩ (.inr (by simp)) (.int .i64 0)).put ⟨w.heap.size + 1, 6, none⟩ (.inr (by simp)) (.int .i64 1))
    simp only [List.set_cons_succ, List.set_cons_zero] at O9
    generalize ((((((w0.setCell ⟨w.heap.size + 1, 0, none⟩ (.string ⟨#[]⟩)).setCell ⟨w.heap.size + 1, 1, none⟩ (.int .i64 0)).setCell ⟨w.heap.size + 1, 2, none⟩ (.slice none 0 0)).setCell ⟨w.heap.size + 1, 3, none⟩ (.slice none 0 0)).setCell ⟨w.heap.size + 1, 4, none⟩ (.slice none 0 0)).setCell ⟨w.heap.size + 1, 5, none⟩ (.int .i64 0)).setCell ⟨w.heap.size + 1, 6, none⟩ (.int .i64 1) = w9 at O9 hb9 kp9  ⊢
    have oc0 := O9.cell (i := 0) rfl
    have oc1 := O9.cell (i := 1) rfl
    have oc2 := O9.cell (i := 2) rfl
    have oc3 := O9.cell (i := 3) rfl
    have oc4 := O9.cell (i := 4) rfl
    have oc5 := O9.cell (i := 5) rfl
    have oc6 := O9.cell (i := 6) rfl
    exact bodyPost_ret (v := .agg #[.string ⟨#[]⟩, .int .i64 0, .slice none 0 0, .slice none 0 0, .slice none 0 0, .int .i64 0, .int .i64 1]) (by simp [results, Try.results54, go_sem, oc0, oc1, oc2, oc3, oc4, oc5, oc6]) rfl (⟨by rw [HR.out]; exact RunO.ill hb9, kp9⟩)
  rw [hT] at TR
  have hO := HO.out.1 hT
  have HR1 : Hid (rr = R) := Lib.hid (by rw [HR0.out, if_neg (by rw [hT]; decide)])
  have FT1 := Lib.hid (fun W h => FT.out W h hO)
  have PB1 := Lib.hid (fun W A2 a2 B2 b2 k h => PB.out W A2 a2 B2 b2 k hO rfl h)
  clear HR0 FT PB HO hO hT
  go_enter Try.func54, Try.ntmps54
  go_wp2_with (fail)
  generalize (w.alloc (.cells #[.string nm, .int .i64 bs, .slice A H.length c, .slice B G.length d] 26)).alloc (.cells #[.string ⟨#[]⟩, .int .i64 0, .slice none 0 0, .slice none 0 0, .slice none 0 0, .int .i64 0, .int .i64 0] 30) = v0 at K O P hb hbw kp kt ⊢
  refine (TR.out _ hbw).mono ?_
  rintro e w1 ⟨rfl, hb1⟩
  replace K := K.below hb1 K.lt
  replace O := O.below hb1 O.lt
  replace P := P.below hb1 P.lt
  replace hb := hb.trans (hb1.mono (Nat.le_trans hlow hb.size))
  replace kp := kp.below hb1
  replace kt := kt.below hb1
  replace hbw := hbw.trans (hb1.mono hbw.size)
  clear TR hb1
  have kc0 := K.cell (i := 0) rfl
  have kc1 := K.cell (i := 1) rfl
  have kc2 := K.cell (i := 2) rfl
  have kc3 := K.cell (i := 3) rfl
  go_wp2_with (fail)
  refine (FT1.out _ hbw).mono ?_
  rintro e w2 ⟨A2, a2, B2, b2, rfl, oS, oG, hb2⟩
  have hl1 : lo ≤ w1.heap.size := Nat.le_trans hlow hbw.size
  clear kc0 kc1 kc2 kc3
  replace K := K.below hb2 K.lt
  replace O := O.below hb2 O.lt
  replace P := P.below hb2 P.lt
  replace hb := hb.trans (hb2.mono (Nat.le_trans hlow hb.size))
  replace kp := kp.below hb2
  replace kt := kt.below hb2
  replace oS : OwnS w2 lo (.slice A2 H.length a2) H := own_base oS hl1
  replace oG : OwnG w2 lo (.slice B2 G.length b2) G := own_base oG hl1
  have hl2 : lo ≤ w2.heap.size := Nat.le_trans hl1 hb2.size
  clear FT1 hb2 hbw
  have uc0 := P.cell (i := 0) rfl
  have uf0 := P.froz 0
  have uc1 := P.cell (i := 1) rfl
  have uf1 := P.froz 1
  have uc2 := P.cell (i := 2) rfl
  have uf2 := P.froz 2
  have uc3 := P.cell (i := 3) rfl
  have uf3 := P.froz 3
  go_wp2_with (fail)
  clear uc0 uf0 uc1 uf1 uc2 uf2 uc3 uf3
  have nS := own_not oS P (by decide)
  have nG := own_not oG P (by decide)
  have P3 := ((((P.put 0 (.string nm)).put 1 (.int .i64 bs)).put 2 (.slice A2 H.length a2)).put 3 (.slice B2 G.length b2))
  have O3 := ((((O.far (p := ⟨p, 0, none⟩) (by simp <;> omega) (.string nm)).far (p := ⟨p, 1, none⟩) (by simp <;> omega) (.int .i64 bs)).far (p := ⟨p, 2, none⟩) (by simp <;> omega) (.slice A2 H.length a2)).far (p := ⟨p, 3, none⟩) (by simp <;> omega) (.slice B2 G.length b2))
  have oS3 := (row_off (row_off (row_off (row_off oS (p := ⟨p, 0, none⟩) nS (.string nm)) (p := ⟨p, 1, none⟩) nS (.int .i64 bs)) (p := ⟨p, 2, none⟩) nS (.slice A2 H.length a2)) (p := ⟨p, 3, none⟩) nS (.slice B2 G.length b2))
  have oG3 := (row_off (row_off (row_off (row_off oG (p := ⟨p, 0, none⟩) nG (.string nm)) (p := ⟨p, 1, none⟩) nG (.int .i64 bs)) (p := ⟨p, 2, none⟩) nG (.slice A2 H.length a2)) (p := ⟨p, 3, none⟩) nG (.slice B2 G.length b2))
  have hb3 := ((((hb.setCell (p := ⟨p, 0, none⟩) (by simp <;> omega) (.string nm)).setCell (p := ⟨p, 1, none⟩) (by simp <;> omega) (.int .i64 bs)).setCell (p := ⟨p, 2, none⟩) (by simp <;> omega) (.slice A2 H.length a2)).setCell (p := ⟨p, 3, none⟩) (by simp <;> omega) (.slice B2 G.length b2))
  have kp3 := ((((kp.put ⟨p, 0, none⟩ (.inl rfl) (.string nm)).put ⟨p, 1, none⟩ (.inl rfl) (.int .i64 bs)).put ⟨p, 2, none⟩ (.inl rfl) (.slice A2 H.length a2)).put ⟨p, 3, none⟩ (.inl rfl) (.slice B2 G.length b2))
  have kt3 := ((((kt.put ⟨p, 0, none⟩ (.inl rfl) (.string nm)).put ⟨p, 1, none⟩ (.inl rfl) (.int .i64 bs)).put ⟨p, 2, none⟩ (.inl rfl) (.slice A2 H.length a2)).put ⟨p, 3, none⟩ (.inl rfl) (.slice B2 G.length b2))
  simp only [List.set_cons_succ, List.set_cons_zero] at P3
  generalize (((w2.setCell ⟨p, 0, none⟩ (.string nm)).setCell ⟨p, 1, none⟩ (.int .i64 bs)).setCell ⟨p, 2, none⟩ (.slice A2 H.length a2)).setCell ⟨p, 3, none⟩ (.slice B2 G.length b2) = w3 at P3 O3 oS3 oG3 hb3 kp3 kt3 ⊢
  clear P O K oS oG hb nS nG
  have hz3 := O3.lt
  obtain ⟨⟨on, ob, oH, oG⟩, N, rn, cd⟩ := R
  have PB2 := PB1.out w3 A2 a2 B2 b2 kt3 ⟨P3, oS3, oG3⟩
  clear PB1
  go_wp2_with (fail)
  refine PB2.mono ?_
  rintro e w4 ⟨hb4, hkp, rfl, hpost⟩
  have O4 := hkp _ _ (Nat.ne_of_gt (Nat.lt_of_lt_of_le hplt (Nat.le_succ _))) O3
  have hb5 := hb3.trans hb4
  replace kp := kp3.then hkp
  clear kp3 kt3 kt PB2 P3 O3 oS3 oG3 hb3 hb4 hkp
  simp only at hpost
  rcases hpost with ⟨hcd, hil⟩ | ⟨hcd, A9, a9, B9, b9, T9, x9, P4, sA, sB, sT, hap, cA, cB⟩
  · have HR : Hid (rr = ill cd) := Lib.hid (by rw [HR1.out, hil])
    clear HR1 hil
    have hd : (cd != 0) = true := by simpa using hcd
    have O := O4
    have hb := hb5
    have qc0 := O.cell (i := 0) rfl
    have qf0 := O.froz 0
    have qc1 := O.cell (i := 1) rfl
    have qf1 := O.froz 1
    have qc2 := O.cell (i := 2) rfl
    have qf2 := O.froz 2
    have qc3 := O.cell (i := 3) rfl
    have qf3 := O.froz 3
    have qc4 := O.cell (i := 4) rfl
    have qf4 := O.froz 4
    have qc5 := O.cell (i := 5) rfl
    have qf5 := O.froz 5
    have qc6 := O.cell (i := 6) rfl
    have qf6 := O.froz 6
    go_wp2
    clear qc0 qf0 qc1 qf1 qc2 qf2 qc3 qf3 qc4 qf4 qc5 qf5 qc6 qf6
    have O9 := (((((((O.put 0 (.string ⟨#[]⟩)).put 1 (.int .i64 0)).put 2 (.slice none 0 0)).put 3 (.slice none 0 0)).put 4 (.slice none 0 0)).put 5 (.int .i64 0)).put 6 (.int .i64 cd))
    have hb9 := (((((((hb.setCell (p := ⟨w.heap.size + 1, 0, none⟩) (by simp <;> omega) (.string ⟨#[]⟩)).setCell (p := ⟨w.heap.size + 1, 1, none⟩) (by simp <;> omega) (.int .i64 0)).setCell (p := ⟨w.heap.size + 1, 2, none⟩) (by simp <;> omega) (.slice none 0 0)).setCell (p := ⟨w.heap.size + 1, 3, none⟩) (by simp <;> omega) (.slice none 0 0)).setCell (p := ⟨w.heap.size + 1, 4, none⟩) (by simp <;> omega) (.slice none 0 0)).setCell (p := ⟨w.heap.size + 1, 5, none⟩) (by simp <;> omega) (.int .i64 0)).setCell (p := ⟨w.heap.size + 1, 6, none⟩) (by simp <;> omega) (.int .i64 cd))
    have kp9 := (((((((kp.put ⟨w.heap.size + 1, 0, none⟩ (.inr (by simp)) (.string ⟨#[]⟩)).put ⟨w.heap.size + 1, 1, none⟩ (.inr (by simp)) (.int .i64 0)).put ⟨w.heap.size + 1, 2, none⟩ (.inr (by simp)) (.slice none 0 0)).put ⟨w.heap.size + 1, 3, none⟩ (.inr (by simp)) (.slice none 0 0)).put ⟨w.heap.size + 1, 4, none⟩ (.inr (by simp)) (.slice none 0 0)).put ⟨w.heap.size + 1, 5, none⟩ (.inr (by simp)) (.int .i64 0)).put ⟨w.heap.size + 1, 6, none⟩ (.inr (by simp)) (.int .i64 cd))
    simp only [List.set_cons_succ, List.set_cons_zero] at O9
    generalize ((((((w4.setCell ⟨w.heap.size + 1, 0, none⟩ (.string ⟨#[]⟩)).setCell ⟨w.heap.size + 1, 1, none⟩ (.int .i64 0)).setCell ⟨w.heap.size + 1, 2, none⟩ (.slice none 0 0)).setCell ⟨w.heap.size + 1, 3, none⟩ (.slice none 0 0)).setCell ⟨w.heap.size + 1, 4, none⟩ (.slice none 0 0)).setCell ⟨w.heap.size + 1, 5, none⟩ (.int .i64 0)).setCell ⟨w.heap.size + 1, 6, none⟩ (.int .i64 cd) = w9 at O9 hb9 kp9  ⊢
    have oc0 := O9.cell (i := 0) rfl
    have oc1 := O9.cell (i := 1) rfl
    have oc2 := O9.cell (i := 2) rfl
    have oc3 := O9.cell (i := 3) rfl
    have oc4 := O9.cell (i := 4) rfl
    have oc5 := O9.cell (i := 5) rfl
    have oc6 := O9.cell (i := 6) rfl
    exact bodyPost_ret (v := .agg #[.string ⟨#[]⟩, .int .i64 0, .slice none 0 0, .slice none 0 0, .slice none 0 0, .int .i64 0, .int .i64 cd]) (by simp [results, Try.results54, go_sem, oc0, oc1, oc2, oc3, oc4, oc5, oc6]) rfl (⟨by rw [HR.out]; exact RunO.ill hb9, kp9⟩)
  subst hcd
  have HR : Hid (rr = ⟨⟨on, ob, oH, oG⟩, N, rn, 0⟩) := HR1
  clear HR1
  replace O4 : Blk w4 (w.heap.size + 1) 30 _ := O4
  go_wp2_with (fail)
  obtain ⟨I, fw, hI, g5', h6, g6', g7'⟩ := class_grown w4
  have bb0 := fun q => kept_cell (h6 q) (P4.cell (i := 0) rfl)
  have bb1 := fun q => kept_cell (h6 q) (P4.cell (i := 1) rfl)
  have bb2 := fun q => kept_cell (h6 q) (P4.cell (i := 2) rfl)
  have bb3 := fun q => kept_cell (h6 q) (P4.cell (i := 3) rfl)
  have bb6 := fun q => kept_cell (h6 q) (P4.cell (i := 6) rfl)
  have bb7 := fun q => kept_cell (h6 q) (P4.cell (i := 7) rfl)
  have G7 := Lib.hid g7'
  clear h6 g7' g6'
  refine wp_region_class_tail (C := fun w' => ∃ q, w' = fw q) 13 (by kernel_rfl) (by kernel_rfl) g5' ?_
  simp only [List.take_succ_cons, List.take_zero, List.drop_succ_cons, List.drop_zero]
  repeat (first
    | go_big_quiet_skip
    | (go_big_quiet_want; go_big_quiet_op; go_big_quiet_on))
  refine wpQuiet_nil ?_
  intro w6 h6
  have hb67 := G7.out _ h6
  have hb := hb5.trans (hb67.mono (Nat.le_trans (Nat.le_trans hlow (Nat.le_of_lt (Nat.lt_of_succ_lt O4.lt))) (Nat.le_refl _)))
  have O := O4.below hb67 O4.lt
  replace kp := kp.below hb67
  replace sA := sA.below hb67
  replace sB := sB.below hb67
  replace sT := sT.below hb67
  have hz46 := hb67.size
  clear bb0 bb1 bb2 bb3 bb6 bb7 g5' h6 P4 hb67 O4 hb5
  have qc0 := O.cell (i := 0) rfl
  have qf0 := O.froz 0
  have qc1 := O.cell (i := 1) rfl
  have qf1 := O.froz 1
  have qc2 := O.cell (i := 2) rfl
  have qf2 := O.froz 2
  have qc3 := O.cell (i := 3) rfl
  have qf3 := O.froz 3
  have qc4 := O.cell (i := 4) rfl
  have qf4 := O.froz 4
  have qc5 := O.cell (i := 5) rfl
  have qf5 := O.froz 5
  have qc6 := O.cell (i := 6) rfl
  have qf6 := O.froz 6
  go_wp2
  clear qc0 qf0 qc1 qf1 qc2 qf2 qc3 qf3 qc4 qf4 qc5 qf5 qc6 qf6
  have hsz : w4.heap.size ≤ (((((((w6.setCell ⟨w.heap.size + 1, 0, none⟩ (.string on)).setCell ⟨w.heap.size + 1, 1, none⟩ (.int .i64 ob)).setCell ⟨w.heap.size + 1, 2, none⟩ (.slice A9 oH.length a9)).setCell ⟨w.heap.size + 1, 3, none⟩ (.slice B9 oG.length b9)).setCell ⟨w.heap.size + 1, 4, none⟩ (.slice T9 N.length x9)).setCell ⟨w.heap.size + 1, 5, none⟩ (.int .i64 rn)).setCell ⟨w.heap.size + 1, 6, none⟩ (.int .i64 0)).heap.size := by simpa [World.setCell] using hz46
  have rA := (((((((sA.off O (by decide) 0 (.string on)).off (O.put 0 (.string on)) (by decide) 1 (.int .i64 ob)).off ((O.put 0 (.string on)).put 1 (.int .i64 ob)) (by decide) 2 (.slice A9 oH.length a9)).off (((O.put 0 (.string on)).put 1 (.int .i64 ob)).put 2 (.slice A9 oH.length a9)) (by decide) 3 (.slice B9 oG.length b9)).off ((((O.put 0 (.string on)).put 1 (.int .i64 ob)).put 2 (.slice A9 oH.length a9)).put 3 (.slice B9 oG.length b9)) (by decide) 4 (.slice T9 N.length x9)).off (((((O.put 0 (.string on)).put 1 (.int .i64 ob)).put 2 (.slice A9 oH.length a9)).put 3 (.slice B9 oG.length b9)).put 4 (.slice T9 N.length x9)) (by decide) 5 (.int .i64 rn)).off ((((((O.put 0 (.string on)).put 1 (.int .i64 ob)).put 2 (.slice A9 oH.length a9)).put 3 (.slice B9 oG.length b9)).put 4 (.slice T9 N.length x9)).put 5 (.int .i64 rn)) (by decide) 6 (.int .i64 0))
  have rB := (((((((sB.off O (by decide) 0 (.string on)).off (O.put 0 (.string on)) (by decide) 1 (.int .i64 ob)).off ((O.put 0 (.string on)).put 1 (.int .i64 ob)) (by decide) 2 (.slice A9 oH.length a9)).off (((O.put 0 (.string on)).put 1 (.int .i64 ob)).put 2 (.slice A9 oH.length a9)) (by decide) 3 (.slice B9 oG.length b9)).off ((((O.put 0 (.string on)).put 1 (.int .i64 ob)).put 2 (.slice A9 oH.length a9)).put 3 (.slice B9 oG.length b9)) (by decide) 4 (.slice T9 N.length x9)).off (((((O.put 0 (.string on)).put 1 (.int .i64 ob)).put 2 (.slice A9 oH.length a9)).put 3 (.slice B9 oG.length b9)).put 4 (.slice T9 N.length x9)) (by decide) 5 (.int .i64 rn)).off ((((((O.put 0 (.string on)).put 1 (.int .i64 ob)).put 2 (.slice A9 oH.length a9)).put 3 (.slice B9 oG.length b9)).put 4 (.slice T9 N.length x9)).put 5 (.int .i64 rn)) (by decide) 6 (.int .i64 0))
  have rT := (((((((sT.off O (by decide) 0 (.string on)).off (O.put 0 (.string on)) (by decide) 1 (.int .i64 ob)).off ((O.put 0 (.string on)).put 1 (.int .i64 ob)) (by decide) 2 (.slice A9 oH.length a9)).off (((O.put 0 (.string on)).put 1 (.int .i64 ob)).put 2 (.slice A9 oH.length a9)) (by decide) 3 (.slice B9 oG.length b9)).off ((((O.put 0 (.string on)).put 1 (.int .i64 ob)).put 2 (.slice A9 oH.length a9)).put 3 (.slice B9 oG.length b9)) (by decide) 4 (.slice T9 N.length x9)).off (((((O.put 0 (.string on)).put 1 (.int .i64 ob)).put 2 (.slice A9 oH.length a9)).put 3 (.slice B9 oG.length b9)).put 4 (.slice T9 N.length x9)) (by decide) 5 (.int .i64 rn)).off ((((((O.put 0 (.string on)).put 1 (.int .i64 ob)).put 2 (.slice A9 oH.length a9)).put 3 (.slice B9 oG.length b9)).put 4 (.slice T9 N.length x9)).put 5 (.int .i64 rn)) (by decide) 6 (.int .i64 0))
  have O9 := (((((((O.put 0 (.string on)).put 1 (.int .i64 ob)).put 2 (.slice A9 oH.length a9)).put 3 (.slice B9 oG.length b9)).put 4 (.slice T9 N.length x9)).put 5 (.int .i64 rn)).put 6 (.int .i64 0))
  have hb9 := (((((((hb.setCell (p := ⟨w.heap.size + 1, 0, none⟩) (by simp <;> omega) (.string on)).setCell (p := ⟨w.heap.size + 1, 1, none⟩) (by simp <;> omega) (.int .i64 ob)).setCell (p := ⟨w.heap.size + 1, 2, none⟩) (by simp <;> omega) (.slice A9 oH.length a9)).setCell (p := ⟨w.heap.size + 1, 3, none⟩) (by simp <;> omega) (.slice B9 oG.length b9)).setCell (p := ⟨w.heap.size + 1, 4, none⟩) (by simp <;> omega) (.slice T9 N.length x9)).setCell (p := ⟨w.heap.size + 1, 5, none⟩) (by simp <;> omega) (.int .i64 rn)).setCell (p := ⟨w.heap.size + 1, 6, none⟩) (by simp <;> omega) (.int .i64 0))
  have kp9 := (((((((kp.put ⟨w.heap.size + 1, 0, none⟩ (.inr (by simp)) (.string on)).put ⟨w.heap.size + 1, 1, none⟩ (.inr (by simp)) (.int .i64 ob)).put ⟨w.heap.size + 1, 2, none⟩ (.inr (by simp)) (.slice A9 oH.length a9)).put ⟨w.heap.size + 1, 3, none⟩ (.inr (by simp)) (.slice B9 oG.length b9)).put ⟨w.heap.size + 1, 4, none⟩ (.inr (by simp)) (.slice T9 N.length x9)).put ⟨w.heap.size + 1, 5, none⟩ (.inr (by simp)) (.int .i64 rn)).put ⟨w.heap.size + 1, 6, none⟩ (.inr (by simp)) (.int .i64 0))
  simp only [List.set_cons_succ, List.set_cons_zero] at O9
  generalize ((((((w6.setCell ⟨w.heap.size + 1, 0, none⟩ (.string on)).setCell ⟨w.heap.size + 1, 1, none⟩ (.int .i64 ob)).setCell ⟨w.heap.size + 1, 2, none⟩ (.slice A9 oH.length a9)).setCell ⟨w.heap.size + 1, 3, none⟩ (.slice B9 oG.length b9)).setCell ⟨w.heap.size + 1, 4, none⟩ (.slice T9 N.length x9)).setCell ⟨w.heap.size + 1, 5, none⟩ (.int .i64 rn)).setCell ⟨w.heap.size + 1, 6, none⟩ (.int .i64 0) = w9 at O9 hb9 kp9 hsz rA rB rT  ⊢
  have oc0 := O9.cell (i := 0) rfl
  have oc1 := O9.cell (i := 1) rfl
  have oc2 := O9.cell (i := 2) rfl
  have oc3 := O9.cell (i := 3) rfl
  have oc4 := O9.cell (i := 4) rfl
  have oc5 := O9.cell (i := 5) rfl
  have oc6 := O9.cell (i := 6) rfl
  exact bodyPost_ret (v := .agg #[.string on, .int .i64 ob, .slice A9 oH.length a9, .slice B9 oG.length b9, .slice T9 N.length x9, .int .i64 rn, .int .i64 0]) (by simp [results, Try.results54, go_sem, oc0, oc1, oc2, oc3, oc4, oc5, oc6]) rfl (⟨run_out HR.out hsz rA rB rT hap cA cB hb9, kp9⟩)
end Go.Proofs.Ytjnbhppnchmeoaa
