/- The draws of the laws on files: DrawFsRead and what is built on it. DrawFsRemove, DrawFsRename, DrawFsCut. DrawFsCut. -/
import Derived.Test.YtpgodphnjeifhaaGreatDoorDrFsLW
namespace Go.Proofs.YtpgodphnjeifhaaGreatDoor
open Go.RowKit
set_option linter.unusedVariables false
set_option maxRecDepth 1000000

/-- In the midst of DrawFsRead, which began at w: the source g, the result's box, the box p of f, f's files. -/
def St3 (w : World) (g b p : Nat) (C : Option Addr) (L : List Fil) (x : Nat) (W : World) : Prop :=
  Drw W w.heap.size g ∧ Below w.heap.size w W ∧ Blk W w.heap.size 25 [.slice none 0 0] ∧ Blk W p 25 [.slice C L.length x] ∧ OwnF W b (.slice C L.length x) L ∧ w.heap.size < g ∧ g < b ∧ b ≤ p
theorem St3.draw {w W W' : World} {g b p : Nat} {C : Option Addr} {L : List Fil} {x : Nat} (h : St3 w g b p C L x W) (hd : Drw W' w.heap.size g) (ho : W.grownBy W' (some g)) : St3 w g b p C L x W' := by
  obtain ⟨h1, h2, h3, h4, h5, h6, h7, h8⟩ := h
  exact ⟨hd, h2.trans (only_below ho (by omega) h2.size), h3.grown ho (fun e => by have := Option.some.inj e; omega), h4.grown ho (fun e => by have := Option.some.inj e; omega), OwnF.draw h5 ho h7, h6, h7, h8⟩
theorem St3.below {w W W' : World} {g b p : Nat} {C : Option Addr} {L : List Fil} {x : Nat} (h : St3 w g b p C L x W) (hb : Below W.heap.size W W') : St3 w g b p C L x W' := by
  obtain ⟨h1, h2, h3, h4, h5, h6, h7, h8⟩ := h
  exact ⟨h1.below hb, h2.trans (hb.mono h2.size), h3.below hb h3.lt, h4.below hb h4.lt, OwnF.below h5 hb (Nat.le_refl _), h6, h7, h8⟩
theorem St3.drew {w W : World} {g b p : Nat} {C : Option Addr} {L : List Fil} {x : Nat} (h : St3 w g b p C L x W) : St3 w g b p C L x W.drew := h.below (below_drew (Below.refl _ _))
theorem St3.alloc {w W : World} {g b p : Nat} {C : Option Addr} {L : List Fil} {x : Nat} (h : St3 w g b p C L x W) (o : Obj) : St3 w g b p C L x (W.alloc o) := h.below ((Below.refl _ _).alloc (Nat.le_refl _) o)
theorem St3.fin {w W : World} {g b p : Nat} {C : Option Addr} {L : List Fil} {x : Nat} (h : St3 w g b p C L x W) (v : Value) : OwnF (W.setCell ⟨w.heap.size, 0, none⟩ v) w.heap.size (.slice C L.length x) L ∧ Below w.heap.size w (W.setCell ⟨w.heap.size, 0, none⟩ v) := by
  obtain ⟨h1, h2, h3, h4, h5, h6, h7, h8⟩ := h
  exact ⟨OwnF.base (OwnF.far h5 (p := ⟨w.heap.size, 0, none⟩) (by simp; omega) v) (by omega), h2.setCell (by simp) v⟩

set_option maxHeartbeats 4000000 in
theorem drawFsRead_any (A : Option Addr) (n c : Nat) (w : World) (h : Bts w w.heap.size A n) :
    Calls Tryz.prog 33 #[.slice A n c] w fun e w' => ∃ (L : List Fil) (C : Option Addr) (x : Nat) (s : ByteArray), e = .returned (.tuple #[.agg #[.slice C L.length x], .string s]) ∧ OwnF w' w.heap.size (.slice C L.length x) L ∧ Small L ∧ L.length ≤ 30 ∧ s.size ≤ 20 ∧ Below w.heap.size w w' := by
  have hR0 := Blk.fresh w 25 [.slice none 0 0]
  have hb0 : Below w.heap.size w (w.alloc (.cells #[.slice none 0 0] 25)) := (Below.refl _ _).alloc (Nat.le_refl _) _
  have hB0 : Bts (w.alloc (.cells #[.slice none 0 0] 25)) w.heap.size A n := h.of_block fun k hk => hb0.block k hk
  go_enter Tryz.func33, Tryz.ntmps33
  go_wp2_with (fail)
  refine (source_any A n c w.heap.size _ hB0 hb0.size).mono ?_
  rintro e w1 ⟨g, rfl, hg, hd1, hb1⟩
  have hg1 : w.heap.size < g := by simp at hg; omega
  have hw1 := hb0.trans (hb1.mono hb0.size)
  have hR1 := hR0.below hb1 hR0.lt
  go_wp2_with (fail)
  refine (l03Fs_any w.heap.size g _ hd1).mono ?_
  rintro e w2 ⟨L, C, x, rfl, hO, hS, hl, hd2, ho2⟩
  have hs0 : St3 w g w1.heap.size w2.heap.size C L x (w2.alloc (.cells #[.slice C L.length x] 25)) := by
    have hw2 := hw1.trans (only_below ho2 (by omega) hw1.size)
    have hR2 := hR1.grown ho2 (fun e => by have := Option.some.inj e; omega)
    have hz := ho2.size
    have hgl := hd1.lt
    exact ⟨hd2.alloc _, hw2.alloc hw2.size _, hR2.alloc _, Blk.fresh w2 25 [.slice C L.length x], OwnF.below hO ((Below.refl _ _).alloc (Nat.le_refl _) _) (Nat.le_refl _), hg1, hgl.2.1, hz⟩
  go_wp2_with (fail)
  generalize w2.alloc (.cells #[.slice C L.length x] 25) = w3 at hs0 ⊢
  generalize w2.heap.size = p at hs0 ⊢
  clear hO hd2 ho2 hd1 hb1 hw1 hR1 hR0 hb0 hB0
  have hdr := hs0.1
  refine (one_any w.heap.size g 15 _ hdr (by omega) (by omega)).mono ?_
  rintro e w4 ⟨b, rfl, hd4, ho4⟩
  have hs4 := hs0.draw hd4 ho4
  clear hs0 hdr hd4 ho4
  cases b
  · have hs := hs4.drew
    go_wp2_with (fail)
    go_region_held3 (fun W => W.cell? ⟨p, 0, none⟩ = some (.slice C L.length x))
      (first
        | exact hs.2.2.2.1.cell (i := 0) rfl
        | exact cell_put_far (hs.2.2.2.1.cell (i := 0) rfl) (by simp; have := hs.2.2.2.2.2; omega) _)
      (first
        | (go_at_call 69; have hdr := hs.1; (with_reducible refine (l03Name_any w.heap.size g _ hdr).mono ?_); clear hdr; rintro e wa ⟨s, rfl, hsz, hda, hoa⟩; replace hs := hs.draw hda hoa; have r0 := hs.2.2.1.cell (i := 0) rfl; have rf := hs.2.2.1.froz 0))
    go_wp2
    have k0 := (hs.2.2.1.put 0 (.slice C L.length x)).cell (i := 0) rfl
    exact bodyPost_ret (v := .tuple #[.agg #[.slice C L.length x], .string s]) (by simp only [results, Tryz.results33]; simp [go_sem, k0]) rfl ⟨L, C, x, s, rfl, (hs.fin _).1, hS, hl, hsz, (hs.fin _).2⟩
  · have P2 : Hid (Calls Tryz.prog 42 #[.pointer (some ⟨g, 0, none⟩), .slice (some ⟨w4.heap.size, 0, none⟩) 2 2] (w4.alloc (.cells #[.string ⟨#[]⟩, .string ⟨#[65]⟩] 9)).drew fun e w' => ∃ s, s ∈ [(⟨#[]⟩ : ByteArray), ⟨#[65]⟩] ∧ e = .returned (.string s) ∧ Drw w' w.heap.size g ∧ (w4.alloc (.cells #[.string ⟨#[]⟩, .string ⟨#[65]⟩] 9)).drew.grownBy w' (some g)) := Lib.hid (pick_any w.heap.size g w4.heap.size [⟨#[]⟩, ⟨#[65]⟩] _ (hs4.alloc (.cells #[.string ⟨#[]⟩, .string ⟨#[65]⟩] 9)).drew.1 (Blk.fresh w4 9 [.string ⟨#[]⟩, .string ⟨#[65]⟩]).drew (by decide) (by decide))
    have hsz2 : Hid (∀ s ∈ [(⟨#[]⟩ : ByteArray), ⟨#[65]⟩], s.size ≤ 20) := Lib.hid (by decide)
    have hs := (hs4.alloc (.cells #[.string ⟨#[]⟩, .string ⟨#[65]⟩] 9)).drew
    go_wp2_with (fail)
    go_region_held3 (fun W => W.cell? ⟨p, 0, none⟩ = some (.slice C L.length x))
      (first
        | exact hs4.drew.2.2.2.1.cell (i := 0) rfl
        | exact hs.2.2.2.1.cell (i := 0) rfl
        | exact cell_put_far (hs.2.2.2.1.cell (i := 0) rfl) (by simp; have := hs.2.2.2.2.2; omega) _)
      (first
        | (go_at_call 42; (with_reducible refine P2.out.mono ?_); rintro e wa ⟨s, hsm, rfl, hda, hoa⟩; have hsz := hsz2.out s hsm; clear hsm; replace hs := hs.draw hda hoa; have r0 := hs.2.2.1.cell (i := 0) rfl; have rf := hs.2.2.1.froz 0))
    go_wp2
    have k0 := (hs.2.2.1.put 0 (.slice C L.length x)).cell (i := 0) rfl
    exact bodyPost_ret (v := .tuple #[.agg #[.slice C L.length x], .string s]) (by simp only [results, Tryz.results33]; simp [go_sem, k0]) rfl ⟨L, C, x, s, rfl, (hs.fin _).1, hS, hl, hsz, (hs.fin _).2⟩

set_option maxHeartbeats 2000000 in
theorem drawFsSync_any (A : Option Addr) (n c : Nat) (w : World) (h : Bts w w.heap.size A n) :
    Calls Tryz.prog 22 #[.slice A n c] w fun e w' => ∃ (L : List Fil) (C : Option Addr) (x : Nat) (s : ByteArray), e = .returned (.tuple #[.agg #[.slice C L.length x], .string s]) ∧ OwnF w' w.heap.size (.slice C L.length x) L ∧ Small L ∧ L.length ≤ 30 ∧ s.size ≤ 20 ∧ Below w.heap.size w w' := by
  have hR0 := Blk.fresh w 25 [.slice none 0 0]
  have hb0 : Below w.heap.size w (w.alloc (.cells #[.slice none 0 0] 25)) := (Below.refl _ _).alloc (Nat.le_refl _) _
  have hB0 : Bts (w.alloc (.cells #[.slice none 0 0] 25)) (w.alloc (.cells #[.slice none 0 0] 25)).heap.size A n := ⟨h.1, fun i hi => by
    obtain ⟨a, x, e, h1, h2, h3⟩ := h.2 i hi
    refine ⟨a, x, e, Nat.lt_of_lt_of_le h1 hb0.size, ?_, h3⟩
    rw [hb0.cell (p := a.add i) (by rw [add_block]; exact h1)]; exact h2⟩
  go_enter Tryz.func22, Tryz.ntmps22
  go_wp2_with (fail)
  refine (drawFsRead_any A n c _ hB0).mono ?_
  rintro e w1 ⟨L, C, x, s, rfl, hO, hS, hl, hsz, hb1⟩
  have hR1 := hR0.below hb1 hR0.lt
  have hw1 := hb0.trans (hb1.mono hb0.size)
  have r0 := hR1.cell (i := 0) rfl
  have rf := hR1.froz 0
  go_wp2
  have k0 := (hR1.put 0 (.slice C L.length x)).cell (i := 0) rfl
  refine bodyPost_ret (v := .tuple #[.agg #[.slice C L.length x], .string s]) (by simp only [results, Tryz.results22]; simp [go_sem, k0]) rfl ⟨L, C, x, s, rfl, OwnF.base (OwnF.far hO (p := ⟨w.heap.size, 0, none⟩) (by simp) _) (by simp), hS, hl, hsz, hw1.setCell (by simp) _⟩
end Go.Proofs.YtpgodphnjeifhaaGreatDoor

namespace Go.Proofs.YtpgodphnjeifhaaGreatDoor
open Go.RowKit
set_option linter.unusedVariables false
set_option maxRecDepth 1000000

theorem bts_up {w w' : World} {A : Option Addr} {n : Nat} (h : Bts w w.heap.size A n) (hb : Below w.heap.size w w') : Bts w' w'.heap.size A n :=
  ⟨h.1, fun i hi => by
    obtain ⟨a, x, e, h1, h2, h3⟩ := h.2 i hi
    refine ⟨a, x, e, Nat.lt_of_lt_of_le h1 hb.size, ?_, h3⟩
    rw [hb.cell (p := a.add i) (by rw [add_block]; exact h1)]; exact h2⟩
/-- In the midst of a draw that began at w: the source g, the result's box, the box p of f, f's files. -/
def St4 (w : World) (B g p : Nat) (C : Option Addr) (L : List Fil) (x : Nat) (W : World) : Prop :=
  Drw W B g ∧ Below w.heap.size w W ∧ Blk W w.heap.size 25 [.slice none 0 0] ∧ Blk W p 25 [.slice C L.length x] ∧ OwnF W (w.heap.size + 1) (.slice C L.length x) L ∧ w.heap.size ≤ B ∧ w.heap.size < p
theorem St4.draw {w W W' : World} {B g p : Nat} {C : Option Addr} {L : List Fil} {x : Nat} (h : St4 w B g p C L x W) (hd : Drw W' B g) (ho : W.grownBy W' (some g)) : St4 w B g p C L x W' := by
  obtain ⟨h1, h2, h3, h4, h5, h6, h7⟩ := h
  have n1 := h1.blk_ne h3 (by decide)
  have n2 := h1.blk_ne h4 (by decide)
  have hl := h1.lt
  obtain ⟨A', n', c', ix, mix, size, d1, _⟩ := h1
  have n3 := blk_row_ne d1 (by decide) h5.1
  exact ⟨hd, h2.trans (only_below ho (by omega) h2.size), h3.grown ho (fun e => n1 (Option.some.inj e)), h4.grown ho (fun e => n2 (Option.some.inj e)), ⟨h5.1.kept ho (.inr n3), h5.2⟩, h6, h7⟩
theorem St4.below {w W W' : World} {B g p : Nat} {C : Option Addr} {L : List Fil} {x : Nat} (h : St4 w B g p C L x W) (hb : Below W.heap.size W W') : St4 w B g p C L x W' := by
  obtain ⟨h1, h2, h3, h4, h5, h6, h7⟩ := h
  exact ⟨h1.below hb, h2.trans (hb.mono h2.size), h3.below hb h3.lt, h4.below hb h4.lt, OwnF.below h5 hb (Nat.le_refl _), h6, h7⟩
theorem St4.drew {w W : World} {B g p : Nat} {C : Option Addr} {L : List Fil} {x : Nat} (h : St4 w B g p C L x W) : St4 w B g p C L x W.drew := h.below (below_drew (Below.refl _ _))
theorem St4.alloc {w W : World} {B g p : Nat} {C : Option Addr} {L : List Fil} {x : Nat} (h : St4 w B g p C L x W) (o : Obj) : St4 w B g p C L x (W.alloc o) := h.below ((Below.refl _ _).alloc (Nat.le_refl _) o)
theorem St4.fin {w W : World} {B g p : Nat} {C : Option Addr} {L : List Fil} {x : Nat} (h : St4 w B g p C L x W) (v : Value) : OwnF (W.setCell ⟨w.heap.size, 0, none⟩ v) w.heap.size (.slice C L.length x) L ∧ Below w.heap.size w (W.setCell ⟨w.heap.size, 0, none⟩ v) := by
  obtain ⟨h1, h2, h3, h4, h5, h6, h7⟩ := h
  exact ⟨OwnF.base (OwnF.far h5 (p := ⟨w.heap.size, 0, none⟩) (by simp) v) (by omega), h2.setCell (by simp) v⟩

set_option maxHeartbeats 2000000 in
theorem drawFsRemove_any (A : Option Addr) (n c : Nat) (w : World) (h : Bts w w.heap.size A n) :
    Calls Tryz.prog 9 #[.slice A n c] w fun e w' => ∃ (L : List Fil) (C : Option Addr) (x : Nat) (s : ByteArray), e = .returned (.tuple #[.agg #[.slice C L.length x], .string s]) ∧ OwnF w' w.heap.size (.slice C L.length x) L ∧ Small L ∧ L.length ≤ 30 ∧ s.size ≤ 20 ∧ Below w.heap.size w w' := by
  have hR0 := Blk.fresh w 25 [.slice none 0 0]
  have hb0 : Below w.heap.size w (w.alloc (.cells #[.slice none 0 0] 25)) := (Below.refl _ _).alloc (Nat.le_refl _) _
  go_enter Tryz.func9, Tryz.ntmps9
  go_wp2_with (fail)
  refine (drawFsRead_any A n c _ (bts_up h hb0)).mono ?_
  rintro e w1 ⟨L, C, x, s, rfl, hO, hS, hl, hsz, hb1⟩
  have hR1 := hR0.below hb1 hR0.lt
  have hw1 := hb0.trans (hb1.mono hb0.size)
  have r0 := hR1.cell (i := 0) rfl
  have rf := hR1.froz 0
  go_wp2
  have k0 := (hR1.put 0 (.slice C L.length x)).cell (i := 0) rfl
  refine bodyPost_ret (v := .tuple #[.agg #[.slice C L.length x], .string s]) (by simp only [results, Tryz.results9]; simp [go_sem, k0]) rfl ⟨L, C, x, s, rfl, OwnF.base (OwnF.far hO (p := ⟨w.heap.size, 0, none⟩) (by simp) _) (by simp), hS, hl, hsz, hw1.setCell (by simp) _⟩

set_option maxHeartbeats 4000000 in
theorem drawFsRename_any (A : Option Addr) (n c : Nat) (w : World) (h : Bts w w.heap.size A n) :
    Calls Tryz.prog 7 #[.slice A n c] w fun e w' => ∃ (L : List Fil) (C : Option Addr) (x : Nat) (s t : ByteArray), e = .returned (.tuple #[.agg #[.slice C L.length x], .string s, .string t]) ∧ OwnF w' w.heap.size (.slice C L.length x) L ∧ Small L ∧ L.length ≤ 30 ∧ s.size ≤ 20 ∧ t.size ≤ 20 ∧ Below w.heap.size w w' := by
  have hR0 := Blk.fresh w 25 [.slice none 0 0]
  have hb0 : Below w.heap.size w (w.alloc (.cells #[.slice none 0 0] 25)) := (Below.refl _ _).alloc (Nat.le_refl _) _
  go_enter Tryz.func7, Tryz.ntmps7
  go_wp2_with (fail)
  refine (drawFsRead_any A n c _ (bts_up h hb0)).mono ?_
  rintro e w1 ⟨L, C, x, s, rfl, hO, hS, hl, hsz, hb1⟩
  have hw1 := hb0.trans (hb1.mono hb0.size)
  have hw2 := hw1.alloc hw1.size (.cells #[.slice C L.length x] 25)
  have hR2 := (hR0.below hb1 hR0.lt).alloc (.cells #[.slice C L.length x] 25)
  have hP2 := Blk.fresh w1 25 [.slice C L.length x]
  have hO2 := OwnF.below hO ((Below.refl _ _).alloc (Nat.le_refl _) (.cells #[.slice C L.length x] 25)) (Nat.le_refl _)
  have hz1 := hb1.size
  simp only [World.size_alloc] at hO2 hz1
  go_wp2_with (fail)
  refine (source_any A n c w.heap.size _ (h.of_block fun k hk => hw2.block k hk) hw2.size).mono ?_
  rintro e w3 ⟨g, rfl, hg, hd3, hb3⟩
  have hs4 : St4 w w.heap.size g w1.heap.size C L x w3 := ⟨hd3, hw2.trans (hb3.mono hw2.size), hR2.below hb3 hR2.lt, hP2.below hb3 hP2.lt, OwnF.below hO2 hb3 (Nat.le_refl _), Nat.le_refl _, by omega⟩
  clear hO hO2 hb3 hd3 hR2 hP2 hw2 hb1
  generalize w1.heap.size = p at hs4 ⊢
  have hp := hs4.2.2.2.2.2.2
  have P3 : Hid (Calls Tryz.prog 42 #[.pointer (some ⟨g, 0, none⟩), .slice (some ⟨w3.heap.size, 0, none⟩) 3 3] (w3.alloc (.cells #[.string ⟨#[97]⟩, .string ⟨#[110, 101, 119]⟩, .string ⟨#[65]⟩] 9)).drew fun e w' => ∃ s, s ∈ [(⟨#[97]⟩ : ByteArray), ⟨#[110, 101, 119]⟩, ⟨#[65]⟩] ∧ e = .returned (.string s) ∧ Drw w' w.heap.size g ∧ (w3.alloc (.cells #[.string ⟨#[97]⟩, .string ⟨#[110, 101, 119]⟩, .string ⟨#[65]⟩] 9)).drew.grownBy w' (some g)) := Lib.hid (pick_any w.heap.size g w3.heap.size [⟨#[97]⟩, ⟨#[110, 101, 119]⟩, ⟨#[65]⟩] _ (hs4.alloc (.cells #[.string ⟨#[97]⟩, .string ⟨#[110, 101, 119]⟩, .string ⟨#[65]⟩] 9)).drew.1 (Blk.fresh w3 9 [.string ⟨#[97]⟩, .string ⟨#[110, 101, 119]⟩, .string ⟨#[65]⟩]).drew (by decide) (by decide))
  have hsz3 : Hid (∀ s ∈ [(⟨#[97]⟩ : ByteArray), ⟨#[110, 101, 119]⟩, ⟨#[65]⟩], s.size ≤ 20) := Lib.hid (by decide)
  have hs := (hs4.alloc (.cells #[.string ⟨#[97]⟩, .string ⟨#[110, 101, 119]⟩, .string ⟨#[65]⟩] 9)).drew
  go_wp2_with (fail)
  go_region_held3 (fun W => W.cell? ⟨p, 0, none⟩ = some (.slice C L.length x))
    (first
      | exact hs4.drew.2.2.2.1.cell (i := 0) rfl
      | exact hs.2.2.2.1.cell (i := 0) rfl
      | exact cell_put_far (hs.2.2.2.1.cell (i := 0) rfl) (by simp; omega) _)
    (first
      | (go_at_call 42; (with_reducible refine P3.out.mono ?_); rintro e wa ⟨t, htm, rfl, hda, hoa⟩; have htz := hsz3.out t htm; clear htm; replace hs := hs.draw hda hoa; have r0 := hs.2.2.1.cell (i := 0) rfl; have rf := hs.2.2.1.froz 0))
  go_wp2
  have k0 := (hs.2.2.1.put 0 (.slice C L.length x)).cell (i := 0) rfl
  exact bodyPost_ret (v := .tuple #[.agg #[.slice C L.length x], .string s, .string t]) (by simp only [results, Tryz.results7]; simp [go_sem, k0]) rfl ⟨L, C, x, s, t, rfl, (hs.fin _).1, hS, hl, hsz, htz, (hs.fin _).2⟩
end Go.Proofs.YtpgodphnjeifhaaGreatDoor

namespace Go.Proofs.YtpgodphnjeifhaaGreatDoor
open Go.RowKit
set_option linter.unusedVariables false
set_option maxRecDepth 1000000


set_option maxHeartbeats 4000000 in
theorem drawFsCut_any (A : Option Addr) (n c : Nat) (w : World) (h : Bts w w.heap.size A n) :
    Calls Tryz.prog 24 #[.slice A n c] w fun e w' => ∃ (L : List Fil) (C : Option Addr) (x : Nat) (s : ByteArray) (z : Int), e = .returned (.tuple #[.agg #[.slice C L.length x], .string s, .int .i64 z]) ∧ OwnF w' w.heap.size (.slice C L.length x) L ∧ Small L ∧ L.length ≤ 30 ∧ s.size ≤ 20 ∧ -9223372036854775808 ≤ z ∧ z ≤ 9223372036854775807 ∧ Below w.heap.size w w' := by
  have hR0 := Blk.fresh w 25 [.slice none 0 0]
  have hb0 : Below w.heap.size w (w.alloc (.cells #[.slice none 0 0] 25)) := (Below.refl _ _).alloc (Nat.le_refl _) _
  obtain ⟨u0, hu0, hv0, hv1, hv2⟩ := info_parts infoU8
  go_enter Tryz.func24, Tryz.ntmps24
  go_wp2_with (fail)
  refine (drawFsRead_any A n c _ (bts_up h hb0)).mono ?_
  rintro e w1 ⟨L, C, x, s, rfl, hO, hS, hl, hsz, hb1⟩
  have hw1 := hb0.trans (hb1.mono hb0.size)
  have hw2 := hw1.alloc hw1.size (.cells #[.slice C L.length x] 25)
  have hR2 := (hR0.below hb1 hR0.lt).alloc (.cells #[.slice C L.length x] 25)
  have hP2 := Blk.fresh w1 25 [.slice C L.length x]
  have hO2 := OwnF.below hO ((Below.refl _ _).alloc (Nat.le_refl _) (.cells #[.slice C L.length x] 25)) (Nat.le_refl _)
  have hz1 := hb1.size
  simp only [World.size_alloc] at hO2 hz1
  go_wp2_with (fail)
  refine (source_any A n c w.heap.size _ (h.of_block fun k hk => hw2.block k hk) hw2.size).mono ?_
  rintro e w3 ⟨g, rfl, hg, hd3, hb3⟩
  have hs3 : St4 w w.heap.size g w1.heap.size C L x w3 := ⟨hd3, hw2.trans (hb3.mono hw2.size), hR2.below hb3 hR2.lt, hP2.below hb3 hP2.lt, OwnF.below hO2 hb3 (Nat.le_refl _), Nat.le_refl _, by omega⟩
  clear hO hO2 hb3 hd3 hR2 hP2 hw2 hb1
  generalize w1.heap.size = p at hs3 ⊢
  have hp := hs3.2.2.2.2.2.2
  have hdr := hs3.1
  go_wp2_with (fail)
  refine (one_any w.heap.size g 10 _ hdr (by omega) (by omega)).mono ?_
  rintro e w4 ⟨b, rfl, hd4, ho4⟩
  have hs4 := hs3.draw hd4 ho4
  clear hs3 hdr hd4 ho4
  cases b

  · have hs := hs4.drew
    go_wp2_with (fail)
    go_region_held3 (fun W => W.cell? ⟨p, 0, none⟩ = some (.slice C L.length x))
      (first
        | exact hs.2.2.2.1.cell (i := 0) rfl
        | exact cell_put_far (hs.2.2.2.1.cell (i := 0) rfl) (by simp; omega) _)
      (first
        | (go_at_call 36; have hdr := hs.1; (with_reducible refine (n_any w.heap.size g 6 _ hdr (by omega) (by omega)).mono ?_); clear hdr; rintro e wa ⟨z, rfl, z0, z1, _, hda, hoa⟩; have z2 := z1 (by omega); clear z1; replace hs := hs.draw hda hoa; have r0 := hs.2.2.1.cell (i := 0) rfl; have rf := hs.2.2.1.froz 0))
    go_wp2
    have k0 := (hs.2.2.1.put 0 (.slice C L.length x)).cell (i := 0) rfl
    exact bodyPost_ret (v := .tuple #[.agg #[.slice C L.length x], .string s, .int .i64 z]) (by simp only [results, Tryz.results24]; simp [go_sem, k0]) rfl ⟨L, C, x, s, _, rfl, (hs.fin _).1, hS, hl, hsz, by omega, by omega, (hs.fin _).2⟩

  · have hs := hs4.drew
    go_wp2_with (fail)
    go_region_held3 (fun W => W.cell? ⟨p, 0, none⟩ = some (.slice C L.length x))
      (first
        | exact hs.2.2.2.1.cell (i := 0) rfl
        | exact cell_put_far (hs.2.2.2.1.cell (i := 0) rfl) (by simp; omega) _)
      (first
        | (go_at_call 64; have hdr := hs.1; (with_reducible refine (edge_any w.heap.size g _ hdr).mono ?_); clear hdr; rintro e wa ⟨z, rfl, z0, z1, hda, hoa⟩; replace hs := hs.draw hda hoa; have r0 := hs.2.2.1.cell (i := 0) rfl; have rf := hs.2.2.1.froz 0))
    go_wp2
    have k0 := (hs.2.2.1.put 0 (.slice C L.length x)).cell (i := 0) rfl
    exact bodyPost_ret (v := .tuple #[.agg #[.slice C L.length x], .string s, .int .i64 z]) (by simp only [results, Tryz.results24]; simp [go_sem, k0]) rfl ⟨L, C, x, s, _, rfl, (hs.fin _).1, hS, hl, hsz, z0, z1, (hs.fin _).2⟩
end Go.Proofs.YtpgodphnjeifhaaGreatDoor
