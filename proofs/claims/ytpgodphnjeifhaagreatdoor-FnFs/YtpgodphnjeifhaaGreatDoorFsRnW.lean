/- Rows that calls have made, told by where they lie: what is written into one leaves the others as they are. What the exact laws do with an FsOut. FsRename: spec and impl answer alike. -/
import Derived.Test.YtpgodphnjeifhaaGreatDoorFilEqW
import Derived.Test.YtpgodphnjeifhaaGreatDoorFSynW
import Derived.Test.YtpgodphnjeifhaaGreatDoorFApW
import Derived.Test.YtpgodphnjeifhaaGreatDoorFsHowW
import Derived.Test.YtpgodphnjeifhaaGreatDoorFOutSW
import Derived.Maps.OwnSet
import Derived.Deep.RegionLaw
import Derived.Deep.RegionHeld3
namespace Go.Proofs.YtpgodphnjeifhaaGreatDoor
open Go.RowKit
set_option linter.unusedVariables false

/-- A row of the call's own, between block lo and block hi. -/
def Rw (w : World) (lo hi : Nat) (e : TypeId) (size : Nat) (v : Value) (n : Nat) (xs : List Value) : Prop := w.ownsRow lo e size v n xs ∧ ∀ k, v.ownBlock = some k → k < hi
section
variable {w w' : World} {lo hi : Nat} {e : TypeId} {size : Nat} {v : Value} {n : Nat} {xs : List Value}
theorem Rw.of (h : w.ownsRow lo e size v n xs) : Rw w lo w.heap.size e size v n xs := ⟨h, fun k hk => (h.lt k hk).2⟩
theorem Rw.below (h : Rw w lo hi e size v n xs) (hb : Below w.heap.size w w') : Rw w' lo hi e size v n xs := ⟨row_below h.1 hb (Nat.le_refl _), h.2⟩
theorem Rw.at (h : Rw w lo hi e size v n xs) : ∀ k, v.ownBlock = some k → lo ≤ k ∧ k < hi := fun k hk => ⟨(h.1.lt k hk).1, h.2 k hk⟩
theorem Rw.far (h : Rw w lo hi e size v n xs) {row : Option Nat} (hg : w.grownBy w' row) {lo' hi' : Nat} (hr : ∀ k, row = some k → lo' ≤ k ∧ k < hi') (ho : hi ≤ lo' ∨ hi' ≤ lo) : Rw w' lo hi e size v n xs :=
  ⟨h.1.kept hg (by
    cases hv : v.ownBlock with
    | none => exact .inl rfl
    | some k =>
      refine .inr fun hk => ?_
      have h1 := h.at k hv
      have h2 := hr k hk.symm
      omega), h.2⟩
theorem Blk.off {g : Nat} {t : TypeId} {cs : List Value} (h : Blk w g t cs) {row : Option Nat} (hg : w.grownBy w' row) {lo' hi' : Nat} (hr : ∀ k, row = some k → lo' ≤ k ∧ k < hi') (ho : g < lo' ∨ hi' ≤ g) : Blk w' g t cs :=
  h.grown hg fun e => by have := hr g e.symm; omega
theorem below_off {B : Nat} {a : World} (h : Below B a w) {row : Option Nat} (hg : w.grownBy w' row) {lo' hi' : Nat} (hr : ∀ k, row = some k → lo' ≤ k ∧ k < hi') (ho : B ≤ lo') (hB : B ≤ a.heap.size) : Below B a w' :=
  h.grown hg (Nat.le_trans hB h.size) fun k e => by have := hr k e; omega
end
theorem own_blk (A : Option Addr) (n c : Nat) : (Value.slice A n c).ownBlock = A.map (·.block) := by cases A <;> rfl
theorem OwnF.rw {w : World} {lo : Nat} {v : Value} {L : List Fil} (h : OwnF w lo v L) : Rw w lo w.heap.size 53 3 v L.length (flat L) := Rw.of h.1
theorem Rw.fls {w : World} {lo hi n c : Nat} {A : Option Addr} {L : List Fil} (h : Rw w lo hi 53 3 (.slice A n c) L.length (flat L)) (hf : ∀ f ∈ L, f.fits) : Fls w w.heap.size A L := OwnF.fls (base := lo) (c := c) (n := n) ⟨h.1, hf⟩
theorem Rw.atA {w : World} {lo hi n m c size : Nat} {e : TypeId} {A : Option Addr} {xs : List Value} (h : Rw w lo hi e size (.slice A m c) n xs) : ∀ k, A.map (·.block) = some k → lo ≤ k ∧ k < hi := by
  rw [← own_blk A m c]; exact h.at
theorem Rw.capL {w : World} {lo hi n c : Nat} {e : TypeId} {size m : Nat} {a : Addr} {xs : List Value} (h : Rw w lo hi e size (.slice (some a) n c) m xs) : m ≤ c ∧ c ≤ maxLen := by
  rcases h.1.2 with ⟨hv, _⟩ | ⟨g, cap, cur, hv, hb, hg, hl, hm, _⟩
  · cases hv
  · cases hv; exact ⟨hl, hm⟩
end Go.Proofs.YtpgodphnjeifhaaGreatDoor

namespace Go.Proofs.YtpgodphnjeifhaaGreatDoor
open Go.RowKit
set_option linter.unusedVariables false
set_option maxRecDepth 1000000
end Go.Proofs.YtpgodphnjeifhaaGreatDoor

namespace Go.Proofs.YtpgodphnjeifhaaGreatDoor
open Go.RowKit
set_option linter.unusedVariables false
set_option maxRecDepth 1000000

set_option maxHeartbeats 4000000 in
theorem rename_some (b n : Nat) (L : List Fil) (s t : ByteArray) (f : Fil) (w : World) (hM : MapF w b n L) (hn : n ≤ 1000) (hs : s.size ≤ maxLen) (ht : t.size ≤ maxLen) (hf : findF L s = some f) :
    Calls Tryz.prog 44 #[.map (some b), .string s, .string t] w fun e w' => e = .returned .nilIface ∧ MapF w' b (n + 1) (putL (delL L s) ⟨t, f.data, f.sync⟩) ∧ w.grownBy w' (some b) := by
  have Fi := find_some b n L s f w hM hs hf
  obtain ⟨s0, s1, k⟩ := f
  unfold Fil.val at Fi
  simp only at Fi
  have hbl := World.ownsMap.lt hM
  go_enter Tryz.func44, Tryz.ntmps44
  go_wp2_with (fail)
  refine Fi.mono ?_
  rintro e w1 ⟨rfl, hb1⟩
  have hb3 := hb1.alloc hb1.size (.cells #[.string s0, .string s1, .int .i64 k] 53)
  have hX3 := Blk.fresh w1 53 [.string s0, .string s1, .int .i64 k]
  have hM3 := hM.below hb3
  have hz1 := hb1.size
  go_wp2_with (at_delete; refine wpList_delete_own _ rfl _ _ 62 9 rfl 53 keyed Tryz.underlying62 filElem b n _ rfl hM3 _ _ rfl (key_mk hs) ?_)
  intro w5 hM5 ht5
  have hg5 := ht5.grown
  rw [del_D] at hM5
  have hX5 := hX3.grown hg5 (by simp; omega)
  have x0 := hX5.cell (i := 0) rfl
  have f0 := hX5.froz 0
  have hX6 := hX5.put 0 (.string t)
  have y0 := hX6.cell (i := 0) rfl
  have y1 := hX6.cell (i := 1) rfl
  have y2 := hX6.cell (i := 2) rfl
  have hM6 : MapF (w5.setCell ⟨w1.heap.size, 0, none⟩ (.string t)) b n (delL L s) := World.ownsMap.kept hM5 (row := some w1.heap.size) ⟨rfl, rfl, rfl, by simp [World.setCell], fun k _ hne => Below.heap_setCell w5 _ _ k (fun e => hne (by rw [e]))⟩ (by simp; omega)
  go_wp2_with (at_mapUpdate; refine wpList_mapUpdate_own _ rfl _ _ _ 62 rfl 9 53 keyed Tryz.underlying62 filElem b n _ rfl hM6 (by unfold maxLen; omega) _ _ _ rfl rfl (key_mk ht) (fileD ⟨t, s1, k⟩) [] (filElem_mk ⟨t, s1, k⟩) ?_)
  intro w7 hM7 hg7
  have hp := put_D (delL L s) ⟨t, s1, k⟩
  simp only at hp
  rw [hp] at hM7
  go_wp2
  go_ret
  refine ⟨rfl, hM7, ⟨hg7.os.trans (hg5.os.trans hb3.os), hg7.tape.trans (hg5.tape.trans hb3.tape), hg7.output.trans (hg5.output.trans hb3.output), ?_, fun j hj hne => ?_⟩⟩
  · have h1 := hg7.size
    have h2 := hg5.size
    have h3 := hb3.size
    simp [World.setCell] at h1 h2
    omega
  · have h2 := hg5.size
    have h3 := hb3.size
    rw [hg7.block j (by simp [World.setCell] at h2 ⊢; omega) hne, Below.heap_setCell _ _ _ j (by simp; omega), hg5.block j (by omega) hne, hb3.block j hj]
set_option maxHeartbeats 2000000 in
theorem rename_none (b n : Nat) (L : List Fil) (s t : ByteArray) (a0 a1 a2 a3 a4 : Addr) (w : World) (hM : MapF w b n L) (hs : s.size ≤ maxLen) (hE : Errs w a0 a1 a2 a3 a4) (hf : findF L s = none) :
    Calls Tryz.prog 44 #[.map (some b), .string s, .string t] w fun e w' => e = .returned (errV a2) ∧ Below w.heap.size w w' := by
  have Fi := find_none b n L s a0 a1 a2 a3 a4 w hM hs hE hf
  unfold Fil.val zeroFil at Fi
  simp only at Fi
  go_enter Tryz.func44, Tryz.ntmps44
  go_wp2_with (fail)
  refine Fi.mono ?_
  rintro e w1 ⟨rfl, hb1⟩
  go_wp2
  go_ret
  exact ⟨rfl, hb1.alloc hb1.size _⟩

/-- The world behind FsRename's boxes and its list of names. -/
def wFsRename (A : Option Addr) (L : List Fil) (c : Nat) (s : ByteArray) (t : ByteArray) (w : World) : World := ((((w.alloc (.cells #[.slice A L.length c] 25)).alloc (.cells #[.string s] 9)).alloc (.cells #[.string t] 9)).alloc (.cells #[.slice none 0 0, .int .i64 0] 29)).alloc (.cells #[.string s, .string t] 9)
theorem wFsRename_size (A : Option Addr) (L : List Fil) (c : Nat) (s : ByteArray) (t : ByteArray) (w : World) : (wFsRename A L c s t w).heap.size = w.heap.size + 5 := by unfold wFsRename; simp
theorem wFsRename_below (A : Option Addr) (L : List Fil) (c : Nat) (s : ByteArray) (t : ByteArray) (w : World) : Below w.heap.size w (wFsRename A L c s t w) := by
  unfold wFsRename
  exact ((((((Below.refl _ _).alloc (Nat.le_refl _) _).alloc (by simp only [World.size_alloc]; omega) _).alloc (by simp only [World.size_alloc]; omega) _).alloc (by simp only [World.size_alloc]; omega) _).alloc (by simp only [World.size_alloc]; omega) _)
theorem wFsRename_names (A : Option Addr) (L : List Fil) (c : Nat) (s : ByteArray) (t : ByteArray) (w : World) : StrA (wFsRename A L c s t w) (some ⟨w.heap.size + 4, 0, none⟩) [s, t] := by
  have h := Blk.fresh ((((w.alloc (.cells #[.slice A L.length c] 25)).alloc (.cells #[.string s] 9)).alloc (.cells #[.string t] 9)).alloc (.cells #[.slice none 0 0, .int .i64 0] 29)) 9 [.string s, .string t]
  have hz : ((((w.alloc (.cells #[.slice A L.length c] 25)).alloc (.cells #[.string s] 9)).alloc (.cells #[.string t] 9)).alloc (.cells #[.slice none 0 0, .int .i64 0] 29)).heap.size = w.heap.size + 4 := by simp
  rw [hz] at h
  intro i hi
  refine ⟨_, rfl, ?_⟩
  rw [addr_add0]
  refine Blk.cell (t := 9) (cs := [.string s, .string t]) h ?_
  have hi' : i < 2 := hi
  match i, hi' with
  | 0, _ => rfl
  | 1, _ => rfl

theorem wFsRename_box0 (A : Option Addr) (L : List Fil) (c : Nat) (s : ByteArray) (t : ByteArray) (w : World) : Blk (wFsRename A L c s t w) (w.heap.size + 1) 9 [.string s] := by
  have h := Blk.fresh (w.alloc (.cells #[.slice A L.length c] 25)) 9 [.string s]
  have hz : (w.alloc (.cells #[.slice A L.length c] 25)).heap.size = w.heap.size + 1 := by simp
  rw [hz] at h
  unfold wFsRename
  exact ((h.alloc _).alloc _).alloc _
theorem wFsRename_box1 (A : Option Addr) (L : List Fil) (c : Nat) (s : ByteArray) (t : ByteArray) (w : World) : Blk (wFsRename A L c s t w) (w.heap.size + 2) 9 [.string t] := by
  have h := Blk.fresh ((w.alloc (.cells #[.slice A L.length c] 25)).alloc (.cells #[.string s] 9)) 9 [.string t]
  have hz : ((w.alloc (.cells #[.slice A L.length c] 25)).alloc (.cells #[.string s] 9)).heap.size = w.heap.size + 2 := by simp
  rw [hz] at h
  unfold wFsRename
  exact (h.alloc _).alloc _
theorem wFsRename_res (A : Option Addr) (L : List Fil) (c : Nat) (s : ByteArray) (t : ByteArray) (w : World) : Blk (wFsRename A L c s t w) (w.heap.size + 3) 29 [.slice none 0 0, .int .i64 0] := by
  have h := Blk.fresh (((w.alloc (.cells #[.slice A L.length c] 25)).alloc (.cells #[.string s] 9)).alloc (.cells #[.string t] 9)) 29 [.slice none 0 0, .int .i64 0]
  have hz : (((w.alloc (.cells #[.slice A L.length c] 25)).alloc (.cells #[.string s] 9)).alloc (.cells #[.string t] 9)).heap.size = w.heap.size + 3 := by simp
  rw [hz] at h
  unfold wFsRename
  exact h.alloc _

set_option maxHeartbeats 4000000 in
theorem implFsRename_of (A : Option Addr) (L : List Fil) (c : Nat) (s : ByteArray) (t : ByteArray) (w : World) (M : List Fil) (cd : Int)
    (H : Hid (Calls Tryz.prog 39 #[.agg #[.slice A L.length c], .func (.func 43) #[] #[.pointer (some ⟨w.heap.size + 1, 0, none⟩), .pointer (some ⟨w.heap.size + 2, 0, none⟩)], .slice (some ⟨w.heap.size + 4, 0, none⟩) 2 2] (wFsRename A L c s t w) fun e w' => ∃ C x, e = .returned (fsOut (.slice C M.length x) cd) ∧ OwnF w' (wFsRename A L c s t w).heap.size (.slice C M.length x) M ∧ Below (wFsRename A L c s t w).heap.size (wFsRename A L c s t w) w')) :
    Calls Tryz.prog 8 #[.agg #[.slice A L.length c], .string s, .string t] w fun e w' => ∃ C x, e = .returned (fsOut (.slice C M.length x) cd) ∧ OwnF w' w.heap.size (.slice C M.length x) M ∧ Below w.heap.size w w' := by
  have hsz := wFsRename_size A L c s t w
  have hbw := wFsRename_below A L c s t w
  have hT0 := wFsRename_res A L c s t w
  go_enter Tryz.func8, Tryz.ntmps8
  go_wp2_with (fail)
  refine H.out.mono ?_
  rintro e w1 ⟨C, x, rfl, hO, hb1⟩
  have hT1 := hT0.below hb1 hT0.lt
  have hz1 := hb1.size
  have hw1 := hbw.trans (hb1.mono hbw.size)
  have t0 := hT1.cell (i := 0) rfl
  have t1 := hT1.cell (i := 1) rfl
  have f0 := hT1.froz 0
  have f1 := hT1.froz 1
  go_wp2
  have hp := (hT1.put 0 (.slice C M.length x)).put 1 (.int .i64 cd)
  have k0 := hp.cell (i := 0) rfl
  have k1 := hp.cell (i := 1) rfl
  have hO4 := (OwnF.far (OwnF.far hO (p := ⟨w.heap.size + 3, 0, none⟩) (by rw [hsz]; simp) (.slice C M.length x)) (p := ⟨w.heap.size + 3, 1, none⟩) (by rw [hsz]; simp) (.int .i64 cd))
  refine bodyPost_ret (v := fsOut (.slice C M.length x) cd) (by simp only [results, Tryz.results8]; simp [go_sem, k0, k1]) rfl ⟨C, x, rfl, OwnF.base hO4 (by omega), ?_⟩
  exact (hw1.setCell (by simp only []; omega) _).setCell (by simp only []; omega) _

theorem enters_rename : Enters 43 := enters_of Tryz.func43 (by kernel_rfl) rfl
set_option maxHeartbeats 1000000 in
theorem renameC_ok (p q b n : Nat) (L : List Fil) (s t : ByteArray) (f : Fil) (w : World) (hp : w.cell? ⟨p, 0, none⟩ = some (.string s)) (hq : w.cell? ⟨q, 0, none⟩ = some (.string t)) (hM : MapF w b n L) (hn : n ≤ 1000) (hs : s.size ≤ maxLen) (ht : t.size ≤ maxLen) (hf : findF L s = some f) :
    Calls Tryz.prog 43 #[.map (some b), .pointer (some ⟨p, 0, none⟩), .pointer (some ⟨q, 0, none⟩)] w fun e w' => e = .returned .nilIface ∧ MapF w' b (n + 1) (putL (delL L s) ⟨t, f.data, f.sync⟩) ∧ w.grownBy w' (some b) := by
  go_enter Tryz.func43, Tryz.ntmps43
  go_wp2_with (fail)
  refine (rename_some b n L s t f w hM hn hs ht hf).mono ?_
  rintro e w1 ⟨rfl, h1, h2⟩
  go_wp2
  go_ret
  exact ⟨rfl, h1, h2⟩
set_option maxHeartbeats 1000000 in
theorem renameC_none (p q b n : Nat) (L : List Fil) (s t : ByteArray) (a0 a1 a2 a3 a4 : Addr) (w : World) (hp : w.cell? ⟨p, 0, none⟩ = some (.string s)) (hq : w.cell? ⟨q, 0, none⟩ = some (.string t)) (hM : MapF w b n L) (hs : s.size ≤ maxLen) (hE : Errs w a0 a1 a2 a3 a4) (hf : findF L s = none) :
    Calls Tryz.prog 43 #[.map (some b), .pointer (some ⟨p, 0, none⟩), .pointer (some ⟨q, 0, none⟩)] w fun e w' => e = .returned (errV a2) ∧ Below w.heap.size w w' := by
  go_enter Tryz.func43, Tryz.ntmps43
  go_wp2_with (fail)
  refine (rename_none b n L s t a0 a1 a2 a3 a4 w hM hs hE hf).mono ?_
  rintro e w1 ⟨rfl, h1⟩
  go_wp2
  go_ret
  exact ⟨rfl, h1⟩

set_option maxHeartbeats 2000000 in
theorem specRename_long (A : Option Addr) (L : List Fil) (c : Nat) (s t : ByteArray) (w : World) (hs : s.size ≤ maxLen) (ht : t.size ≤ maxLen) (hl : 20000 < t.size) :
    Calls Tryz.prog 14 #[.agg #[.slice A L.length c], .string s, .string t] w fun e w' => ∃ C x, e = .returned (fsOut (.slice C ([] : List Fil).length x) 2) ∧ OwnF w' w.heap.size (.slice C ([] : List Fil).length x) [] ∧ Below w.heap.size w w' := by
  have hT0 := Blk.fresh (w.alloc (.cells #[.slice A L.length c] 25)) 29 [.slice none 0 0, .int .i64 0]
  have hA0 := (Blk.fresh w 25 [.slice A L.length c]).alloc (.cells #[.slice none 0 0, .int .i64 0] 29)
  simp only [World.size_alloc] at hT0
  have hb0 : Below w.heap.size w ((w.alloc (.cells #[.slice A L.length c] 25)).alloc (.cells #[.slice none 0 0, .int .i64 0] 29)) := ((Below.refl _ _).alloc (Nat.le_refl _) _).alloc (by simp) _
  have htm := ht
  unfold maxLen at htm
  have hl' : (20000 : Int) < (t.size : Int) := by omega
  go_enter Tryz.func14, Tryz.ntmps14
  go_wp2_with (fail)
  refine (ill_any 2 _).mono ?_
  rintro e w2 ⟨rfl, hb2⟩
  have hw2 := hb0.trans (hb2.mono hb0.size)
  have hT2 := hT0.below hb2 hT0.lt
  have t0 := hT2.cell (i := 0) rfl
  have t1 := hT2.cell (i := 1) rfl
  have f0 := hT2.froz 0
  have f1 := hT2.froz 1
  go_wp2
  have hp := (hT2.put 0 (.slice none 0 0)).put 1 (.int .i64 2)
  have k0 := hp.cell (i := 0) rfl
  have k1 := hp.cell (i := 1) rfl
  refine bodyPost_ret (v := fsOut (.slice none 0 0) 2) (by simp only [results, Tryz.results14]; simp [go_sem, k0, k1]) rfl ⟨none, 0, rfl, ownF_nil _ _, ?_⟩
  exact (hw2.setCell (by simp) _).setCell (by simp) _

set_option maxHeartbeats 4000000 in
theorem specRename_name (A : Option Addr) (L : List Fil) (c : Nat) (s t : ByteArray) (cd : Int) (w : World) (hL : Fls w w.heap.size A L) (hs : s.size ≤ maxLen) (ht : t.size ≤ maxLen) (hl : ¬ 20000 < t.size) (hc : codeOf L s = cd) (h2 : cd ≠ 2) (hn : nameB t = false) :
    Calls Tryz.prog 14 #[.agg #[.slice A L.length c], .string s, .string t] w fun e w' => ∃ C x, e = .returned (fsOut (.slice C ([] : List Fil).length x) 1) ∧ OwnF w' w.heap.size (.slice C ([] : List Fil).length x) [] ∧ Below w.heap.size w w' := by
  have hT0 := Blk.fresh (w.alloc (.cells #[.slice A L.length c] 25)) 29 [.slice none 0 0, .int .i64 0]
  have hA0 := (Blk.fresh w 25 [.slice A L.length c]).alloc (.cells #[.slice none 0 0, .int .i64 0] 29)
  simp only [World.size_alloc] at hT0
  have hb0 : Below w.heap.size w ((w.alloc (.cells #[.slice A L.length c] 25)).alloc (.cells #[.slice none 0 0, .int .i64 0] 29)) := ((Below.refl _ _).alloc (Nat.le_refl _) _).alloc (by simp) _
  have htm := ht
  unfold maxLen at htm
  have hl' : ¬ (20000 : Int) < (t.size : Int) := by omega
  have Be := l03Begin_any A L c s _ ((hL.below hb0 (Nat.le_refl _)).mono hb0.size) hs
  rw [hc] at Be
  have hcb : (cd != 2) = true := by simpa using h2
  have NR : ∀ W, Calls Tryz.prog 54 #[.string t] W fun e w' => e = .returned (.bool false) ∧ W = w' := fun W => by have := specNameRight_any t W ht; rw [hn] at this; exact this
  go_enter Tryz.func14, Tryz.ntmps14
  go_wp2_with (fail)
  refine Be.mono ?_
  rintro e w1 ⟨k, rfl, _, _, hb1⟩
  have hw1 := hb0.trans (hb1.mono hb0.size)
  have hT1 := hT0.below hb1 hT0.lt
  go_wp2_with (fail)
  refine (NR _).mono ?_
  rintro e wx ⟨rfl, rfl⟩
  go_wp2_with (fail)
  refine (ill_any 1 _).mono ?_
  rintro e w2 ⟨rfl, hb2⟩
  have hw2 := hw1.trans (hb2.mono hw1.size)
  have hT2 := hT1.below hb2 hT1.lt
  have t0 := hT2.cell (i := 0) rfl
  have t1 := hT2.cell (i := 1) rfl
  have f0 := hT2.froz 0
  have f1 := hT2.froz 1
  go_wp2
  have hp := (hT2.put 0 (.slice none 0 0)).put 1 (.int .i64 1)
  have k0 := hp.cell (i := 0) rfl
  have k1 := hp.cell (i := 1) rfl
  refine bodyPost_ret (v := fsOut (.slice none 0 0) 1) (by simp only [results, Tryz.results14]; simp [go_sem, k0, k1]) rfl ⟨none, 0, rfl, ownF_nil _ _, ?_⟩
  exact (hw2.setCell (by simp) _).setCell (by simp) _

set_option maxHeartbeats 4000000 in
theorem specRename_err (A : Option Addr) (L : List Fil) (c : Nat) (s t : ByteArray) (cd : Int) (w : World) (hL : Fls w w.heap.size A L) (hs : s.size ≤ maxLen) (ht : t.size ≤ maxLen) (hl : ¬ 20000 < t.size) (hc : codeOf L s = cd) (h0 : cd ≠ 0) (hn : cd = 2 ∨ (cd ≠ 2 ∧ nameB t = true)) :
    Calls Tryz.prog 14 #[.agg #[.slice A L.length c], .string s, .string t] w fun e w' => ∃ C x, e = .returned (fsOut (.slice C ([] : List Fil).length x) cd) ∧ OwnF w' w.heap.size (.slice C ([] : List Fil).length x) [] ∧ Below w.heap.size w w' := by
  have hT0 := Blk.fresh (w.alloc (.cells #[.slice A L.length c] 25)) 29 [.slice none 0 0, .int .i64 0]
  have hA0 := (Blk.fresh w 25 [.slice A L.length c]).alloc (.cells #[.slice none 0 0, .int .i64 0] 29)
  simp only [World.size_alloc] at hT0
  have hb0 : Below w.heap.size w ((w.alloc (.cells #[.slice A L.length c] 25)).alloc (.cells #[.slice none 0 0, .int .i64 0] 29)) := ((Below.refl _ _).alloc (Nat.le_refl _) _).alloc (by simp) _
  have htm := ht
  unfold maxLen at htm
  have hl' : ¬ (20000 : Int) < (t.size : Int) := by omega
  have Be := l03Begin_any A L c s _ ((hL.below hb0 (Nat.le_refl _)).mono hb0.size) hs
  rw [hc] at Be
  have hc0 : (cd != 0) = true := by simpa using h0
  rcases hn with rfl | ⟨h2, hn⟩
  · go_enter Tryz.func14, Tryz.ntmps14
    go_wp2_with (fail)
    refine Be.mono ?_
    rintro e w1 ⟨k, rfl, _, _, hb1⟩
    have hw1 := hb0.trans (hb1.mono hb0.size)
    have hT1 := hT0.below hb1 hT0.lt
    go_wp2_with (fail)
    refine (ill_any 2 _).mono ?_
    rintro e w2 ⟨rfl, hb2⟩
    have hw2 := hw1.trans (hb2.mono hw1.size)
    have hT2 := hT1.below hb2 hT1.lt
    have t0 := hT2.cell (i := 0) rfl
    have t1 := hT2.cell (i := 1) rfl
    have f0 := hT2.froz 0
    have f1 := hT2.froz 1
    go_wp2
    have hp := (hT2.put 0 (.slice none 0 0)).put 1 (.int .i64 2)
    have k0 := hp.cell (i := 0) rfl
    have k1 := hp.cell (i := 1) rfl
    refine bodyPost_ret (v := fsOut (.slice none 0 0) 2) (by simp only [results, Tryz.results14]; simp [go_sem, k0, k1]) rfl ⟨none, 0, rfl, ownF_nil _ _, ?_⟩
    exact (hw2.setCell (by simp) _).setCell (by simp) _
  · have hcb : (cd != 2) = true := by simpa using h2
    have NR : ∀ W, Calls Tryz.prog 54 #[.string t] W fun e w' => e = .returned (.bool true) ∧ W = w' := fun W => by have := specNameRight_any t W ht; rw [hn] at this; exact this
    go_enter Tryz.func14, Tryz.ntmps14
    go_wp2_with (fail)
    refine Be.mono ?_
    rintro e w1 ⟨k, rfl, _, _, hb1⟩
    have hw1 := hb0.trans (hb1.mono hb0.size)
    have hT1 := hT0.below hb1 hT0.lt
    go_wp2_with (fail)
    refine (NR _).mono ?_
    rintro e wx ⟨rfl, rfl⟩
    go_wp2_with (fail)
    refine (ill_any cd _).mono ?_
    rintro e w2 ⟨rfl, hb2⟩
    have hw2 := hw1.trans (hb2.mono hw1.size)
    have hT2 := hT1.below hb2 hT1.lt
    have t0 := hT2.cell (i := 0) rfl
    have t1 := hT2.cell (i := 1) rfl
    have f0 := hT2.froz 0
    have f1 := hT2.froz 1
    go_wp2
    have hp := (hT2.put 0 (.slice none 0 0)).put 1 (.int .i64 cd)
    have k0 := hp.cell (i := 0) rfl
    have k1 := hp.cell (i := 1) rfl
    refine bodyPost_ret (v := fsOut (.slice none 0 0) cd) (by simp only [results, Tryz.results14]; simp [go_sem, k0, k1]) rfl ⟨none, 0, rfl, ownF_nil _ _, ?_⟩
    exact (hw2.setCell (by simp) _).setCell (by simp) _

set_option maxHeartbeats 8000000 in
theorem specRename_ok (A : Option Addr) (L : List Fil) (c : Nat) (s t : ByteArray) (i : Nat) (hi : i < L.length) (w : World) (hL : Fls w w.heap.size A L) (hS : Small L) (hs : s.size ≤ maxLen) (ht : t.size ≤ maxLen) (hl : ¬ 20000 < t.size) (hc : codeOf L s = 0) (hfi : findF L s = some L[i]) (hR : Rising L) (hn : nameB t = true) (hcc : L.length ≤ c) (hcm : c ≤ maxLen) :
    Calls Tryz.prog 14 #[.agg #[.slice A L.length c], .string s, .string t] w fun e w' => ∃ C x, e = .returned (fsOut (.slice C (putL (L.take i ++ L.drop (i + 1)) ⟨t, L[i].data, L[i].sync⟩).length x) 0) ∧ OwnF w' w.heap.size (.slice C (putL (L.take i ++ L.drop (i + 1)) ⟨t, L[i].data, L[i].sync⟩).length x) (putL (L.take i ++ L.drop (i + 1)) ⟨t, L[i].data, L[i].sync⟩) ∧ Below w.heap.size w w' := by
  have hT0 := Blk.fresh (w.alloc (.cells #[.slice A L.length c] 25)) 29 [.slice none 0 0, .int .i64 0]
  have hA0 := (Blk.fresh w 25 [.slice A L.length c]).alloc (.cells #[.slice none 0 0, .int .i64 0] 29)
  simp only [World.size_alloc] at hT0
  have hb0 : Below w.heap.size w ((w.alloc (.cells #[.slice A L.length c] 25)).alloc (.cells #[.slice none 0 0, .int .i64 0] 29)) := ((Below.refl _ _).alloc (Nat.le_refl _) _).alloc (by simp) _
  have hz0 : ((w.alloc (.cells #[.slice A L.length c] 25)).alloc (.cells #[.slice none 0 0, .int .i64 0] 29)).heap.size = w.heap.size + 2 := by simp
  have htm := ht
  unfold maxLen at htm
  have hl' : ¬ (20000 : Int) < (t.size : Int) := by omega
  have Be := l03Begin_any A L c s _ ((hL.below hb0 (Nat.le_refl _)).mono hb0.size) hs
  rw [hc] at Be
  have NR : ∀ W, Calls Tryz.prog 54 #[.string t] W fun e w' => e = .returned (.bool true) ∧ W = w' := fun W => by have := specNameRight_any t W ht; rw [hn] at this; exact this
  have hf : ∀ f ∈ L, f.fits := fun f h => by obtain ⟨i, hi, rfl⟩ := List.getElem_of_mem h; exact (hL.2 i hi).choose_spec.2.2.2.2.2
  have hfi' := hf _ (List.getElem_mem hi)
  have hdel := del_at hR hi
  have hSd : Small (L.take i ++ L.drop (i + 1)) := by
    refine small_of (L := L) (by have := hS.1; simp; omega) fun g hg => ?_
    rw [← hdel] at hg; exact small_mem hS (del_mem hg).1
  have hRd : Rising (L.take i ++ L.drop (i + 1)) := by rw [← hdel]; exact rising_del hR _
  have hfd : ∀ f ∈ L.take i ++ L.drop (i + 1), f.fits := fun f h => by rw [← hdel] at h; exact hf f (del_mem h).1
  have HO := Lib.hid (fun W h => out_some A L c i hi W h hS hcc hcm)
  clear hdel
  obtain ⟨D, HD⟩ : ∃ D, Hid (L.take i ++ L.drop (i + 1) = D) := ⟨_, Lib.hid rfl⟩
  rw [HD.out] at hSd hRd hfd HO ⊢
  have hnff : (⟨t, L[i].data, L[i].sync⟩ : Fil).fits := ⟨ht, hfi'.2⟩
  have HPut := Lib.hid (fun a c' W h h1 h2 => put_any a D c' ⟨t, L[i].data, L[i].sync⟩ W h hSd h1 h2 hRd hnff)
  unfold Fil.val at HPut
  simp only at HPut
  obtain ⟨M, HM⟩ : ∃ M, Hid (putL D ⟨t, L[i].data, L[i].sync⟩ = M) := ⟨_, Lib.hid rfl⟩
  rw [HM.out] at HPut ⊢
  go_enter Tryz.func14, Tryz.ntmps14
  go_wp2_with (fail)
  refine Be.mono ?_
  rintro e w1 ⟨k, rfl, hk, _, hb1⟩
  obtain ⟨i', hi', rfl, hf', hn'⟩ := hk (by first | rfl | trivial)
  obtain rfl : i' = i := by
    rw [hfi] at hf'
    rcases Nat.decEq i' i with h | h
    · exact absurd (congrArg Fil.name (Option.some.inj hf')).symm (name_ne hR hi' hi h)
    · exact h
  have hw1 := hb0.trans (hb1.mono hb0.size)
  have hT1 := hT0.below hb1 hT0.lt
  have hA1 := hA0.below hb1 hA0.lt
  go_wp2_with (fail)
  refine (NR _).mono ?_
  rintro e wx ⟨rfl, rfl⟩
  have b1 := hA1.cell (i := 0) rfl
  obtain ⟨a, rfl, hab, c0, c1, c2, hff⟩ := (hL.below hw1 (Nat.le_refl _)).at i' hi'
  have hi3 : (i' : Int) < (L.length : Int) := by omega
  go_wp2_with (fail)
  clear c0 c1 c2 b1
  have hX2 := Blk.fresh w1 53 [.string t, .string L[i'].data, .int .i64 L[i'].sync]
  have hb2 : Below w1.heap.size w1 (w1.alloc (.cells #[.string t, .string L[i'].data, .int .i64 L[i'].sync] 53)) := (Below.refl _ _).alloc (Nat.le_refl _) _
  generalize hW : w1.alloc (.cells #[.string t, .string L[i'].data, .int .i64 L[i'].sync] 53) = w2 at hX2 hb2 ⊢
  have hw2 := hw1.trans (hb2.mono hw1.size)
  have hT2 := (hT1.below hb2 hT1.lt).drew
  have hA2 := (hA1.below hb2 hA1.lt).drew
  have hX2d := hX2.drew
  have hw2d := below_drew hw2
  have z0 := hA2.cell (i := 0) rfl
  have z1 := hX2d.cell (i := 0) rfl
  have z2 := hX2d.cell (i := 1) rfl
  have z3 := hX2d.cell (i := 2) rfl
  have hzz := hw1.size
  have hz1 := hb1.size
  have P : ∀ {W : World} {b o : Nat} {v u1 u2 : Value}, W.cell? ⟨b, o, none⟩ = some v → b ≠ w.heap.size + 1 → ((W.setCell ⟨w.heap.size + 1, 0, none⟩ u1).setCell ⟨w.heap.size + 1, 1, none⟩ u2).cell? ⟨b, o, none⟩ = some v := fun h hne => cell_put_far (cell_put_far h (by simpa using hne) _) (by simpa using hne) _
  have n0 : w.heap.size ≠ w.heap.size + 1 := by omega
  have n1 : w1.heap.size ≠ w.heap.size + 1 := by omega
  go_region_held3 (fun W => W.cell? ⟨w.heap.size, 0, none⟩ = some (.slice (some a) L.length c) ∧ W.cell? ⟨w1.heap.size, 0, none⟩ = some (.string t) ∧ W.cell? ⟨w1.heap.size, 1, none⟩ = some (.string L[i'].data) ∧ W.cell? ⟨w1.heap.size, 2, none⟩ = some (.int .i64 L[i'].sync))
    (first
      | exact ⟨z0, z1, z2, z3⟩
      | exact ⟨kept_cell hb3 z0, kept_cell hb3 z1, kept_cell hb3 z2, kept_cell hb3 z3⟩
      | exact ⟨kept_cell hb4 (kept_cell hb3 z0), kept_cell hb4 (kept_cell hb3 z1), kept_cell hb4 (kept_cell hb3 z2), kept_cell hb4 (kept_cell hb3 z3)⟩
      | exact ⟨P (kept_cell hb4 (kept_cell hb3 z0)) n0, P (kept_cell hb4 (kept_cell hb3 z1)) n1, P (kept_cell hb4 (kept_cell hb3 z2)) n1, P (kept_cell hb4 (kept_cell hb3 z3)) n1⟩)
    (first
      | (go_at_call 55; refine (HO.out _ ((hL.below hw2d (Nat.le_refl _)).mono hw2d.size)).mono ?_; rintro e w3 ⟨g3, x3, rfl, hO3, hb3⟩)
      | (go_at_call 53; refine (HPut.out ⟨g3, 0, none⟩ x3 _ (OwnF.fls hO3) (Rw.capL hO3.rw).1 (Rw.capL hO3.rw).2).mono ?_; rintro e w4 ⟨C, x, rfl, hO4, hb4⟩; have hT4 := (hT2.below hb3 hT2.lt).below hb4 (hT2.below hb3 hT2.lt).lt; have t0 := hT4.cell (i := 0) rfl; have t1 := hT4.cell (i := 1) rfl; have f0 := hT4.froz 0; have f1 := hT4.froz 1))
  have hw3 := hw2d.trans (hb3.mono hw2d.size)
  have hw4 := hw3.trans (hb4.mono hw3.size)
  have hT2l := hT2.lt
  have hz3 := hb3.size
  go_wp2
  have hp := (hT4.put 0 (.slice C M.length x)).put 1 (.int .i64 0)
  have k0 := hp.cell (i := 0) rfl
  have k1 := hp.cell (i := 1) rfl
  have hO7 := OwnF.far (OwnF.far hO4 (p := ⟨w.heap.size + 1, 0, none⟩) (by simp only []; omega) (.slice C M.length x)) (p := ⟨w.heap.size + 1, 1, none⟩) (by simp only []; omega) (.int .i64 0)
  refine bodyPost_ret (v := fsOut (.slice C M.length x) 0) (by simp only [results, Tryz.results14]; simp [go_sem, k0, k1]) rfl ⟨C, x, rfl, OwnF.base hO7 (by omega), ?_⟩
  exact (hw4.setCell (by simp) _).setCell (by simp) _

theorem any_two (s t : ByteArray) : anyLong [s, t] = (decide (20000 < s.size) || decide (20000 < t.size)) := by simp [anyLong]
theorem open_two (L : List Fil) (s t : ByteArray) : openOK L [s, t] = (fsOK L && nameB s && nameB t) := by simp [openOK, Bool.and_assoc]

/-- FsRename: spec and impl answer alike. -/
theorem fsRename_bothH (L : List Fil) (s t : ByteArray) (a0 a1 a2 a3 a4 : Addr) (hf : ∀ f ∈ L, f.fits) (hS : Small L) (hs : s.size ≤ maxLen) (ht : t.size ≤ maxLen) (hs2 : s.size ≤ 1048576) (ht2 : t.size ≤ 1048576) :
    ∃ (M : List Fil) (cd : Int), (∀ f ∈ M, f.fits) ∧ M.length ≤ L.length + 1 ∧ (Small M ∧ (cd = 0 → RnHow L s t M)) ∧
      (∀ W A c, Fls W W.heap.size A L → L.length ≤ c → c ≤ maxLen → Calls Tryz.prog 14 #[.agg #[.slice A L.length c], .string s, .string t] W fun e w' => ∃ C x, e = .returned (fsOut (.slice C M.length x) cd) ∧ OwnF w' W.heap.size (.slice C M.length x) M ∧ Below W.heap.size W w') ∧
      (∀ W A c, Fls W W.heap.size A L → Errs W a0 a1 a2 a3 a4 → Calls Tryz.prog 8 #[.agg #[.slice A L.length c], .string s, .string t] W fun e w' => ∃ C x, e = .returned (fsOut (.slice C M.length x) cd) ∧ OwnF w' W.heap.size (.slice C M.length x) M ∧ Below W.heap.size W w') := by
  have hsN : ∀ x ∈ [s, t], x.size ≤ maxLen := by
    intro x hx
    simp at hx
    rcases hx with rfl | rfl
    · exact hs
    · exact ht
  have nil : ∀ {f : FuncId} {args : Array Value} {W : World} {cd : Int}, (Calls Tryz.prog f args W fun e w' => e = .returned (fsOut (.slice none 0 0) cd) ∧ Below W.heap.size W w') → Calls Tryz.prog f args W fun e w' => ∃ C x, e = .returned (fsOut (.slice C ([] : List Fil).length x) cd) ∧ OwnF w' W.heap.size (.slice C ([] : List Fil).length x) [] ∧ Below W.heap.size W w' :=
    fun h => h.mono fun e w' ⟨he, hb⟩ => ⟨none, 0, he, ownF_nil _ _, hb⟩
  have LONG : anyLong [s, t] = true → ∀ W A c, Fls W W.heap.size A L → Errs W a0 a1 a2 a3 a4 → Calls Tryz.prog 8 #[.agg #[.slice A L.length c], .string s, .string t] W fun e w' => ∃ C x, e = .returned (fsOut (.slice C ([] : List Fil).length x) 2) ∧ OwnF w' W.heap.size (.slice C ([] : List Fil).length x) [] ∧ Below W.heap.size W w' := fun h1 W A c hL hE =>
    implFsRename_of A L c s t W [] 2 (Lib.hid (nil (change_long A L c _ [s, t] 2 _ a0 a1 a2 a3 a4 _ (hE.below (wFsRename_below A L c s t W)) (wFsRename_names A L c s t W) (by simp) hsN h1)))
  have BAD : anyLong [s, t] = false → openOK L [s, t] = false → ∀ W A c, Fls W W.heap.size A L → Errs W a0 a1 a2 a3 a4 → Calls Tryz.prog 8 #[.agg #[.slice A L.length c], .string s, .string t] W fun e w' => ∃ C x, e = .returned (fsOut (.slice C ([] : List Fil).length x) 1) ∧ OwnF w' W.heap.size (.slice C ([] : List Fil).length x) [] ∧ Below W.heap.size W w' := fun h1 h2 W A c hL hE =>
    implFsRename_of A L c s t W [] 1 (Lib.hid (nil (change_bad A L c _ [s, t] 2 _ a0 a1 a2 a3 a4 _ (hE.below (wFsRename_below A L c s t W)) ((hL.below (wFsRename_below A L c s t W) (Nat.le_refl _)).mono (wFsRename_below A L c s t W).size) (wFsRename_names A L c s t W) (by simp) hsN h1 h2)))
  by_cases htl : 20000 < t.size
  · exact ⟨[], 2, by simp, by simp, ⟨small_nil, fun h => absurd h (by decide)⟩, fun W A c hL _ _ => specRename_long A L c s t W hs ht htl, LONG (by rw [any_two]; simp [htl])⟩
  rcases code_cases L s with ⟨h1, hc⟩ | ⟨h1, h2, hc⟩ | ⟨h1, h2, h3, h4, hc⟩ | ⟨h1, h2, h3, ⟨i, hi, h4, h5⟩, hc⟩
  · rw [any_one] at h1
    exact ⟨[], 2, by simp, by simp, ⟨small_nil, fun h => absurd h (by decide)⟩, fun W A c hL _ _ => specRename_err A L c s t 2 W hL hs ht htl hc (by decide) (.inl rfl), LONG (by rw [any_two, h1]; rfl)⟩
  · rw [any_one] at h1
    rw [open_one] at h2
    have g1 : anyLong [s, t] = false := by rw [any_two, h1]; simpa using htl
    have g2 : openOK L [s, t] = false := by rw [open_two, h2]; rfl
    cases hn : nameB t with
    | false => exact ⟨[], 1, by simp, by simp, ⟨small_nil, fun h => absurd h (by decide)⟩, fun W A c hL _ _ => specRename_name A L c s t 1 W hL hs ht htl hc (by decide) hn, BAD g1 g2⟩
    | true => exact ⟨[], 1, by simp, by simp, ⟨small_nil, fun h => absurd h (by decide)⟩, fun W A c hL _ _ => specRename_err A L c s t 1 W hL hs ht htl hc (by decide) (.inr ⟨by decide, hn⟩), BAD g1 g2⟩
  · rw [any_one] at h1
    rw [open_one] at h2
    have g1 : anyLong [s, t] = false := by rw [any_two, h1]; simpa using htl
    cases hn : nameB t with
    | false => exact ⟨[], 1, by simp, by simp, ⟨small_nil, fun h => absurd h (by decide)⟩, fun W A c hL _ _ => specRename_name A L c s t 6 W hL hs ht htl hc (by decide) hn, BAD g1 (by rw [open_two, hn]; simp)⟩
    | true =>
      have g2 : openOK L [s, t] = true := by rw [open_two, h2, hn]; rfl
      refine ⟨[], 6, by simp, by simp, ⟨small_nil, fun h => absurd h (by decide)⟩, fun W A c hL _ _ => specRename_err A L c s t 6 W hL hs ht htl hc (by decide) (.inr ⟨by decide, hn⟩), fun W A c hL hE => implFsRename_of A L c s t W [] 6 (Lib.hid (nil ?_))⟩
      have hb := wFsRename_below A L c s t W
      exact change_err A L c _ [s, t] 2 43 _ 2 a2 a0 a1 a2 a3 a4 _ (hE.below hb) ((hL.below hb (Nat.le_refl _)).mono hb.size) (wFsRename_names A L c s t W) (by simp) hsN g1 g2 enters_rename rfl
        (Lib.hid fun W2 b n hW2 _ hM _ => renameC_none _ _ b n L s t a0 a1 a2 a3 a4 W2 (((wFsRename_box0 A L c s t W).below hW2 (wFsRename_box0 A L c s t W).lt).cell (i := 0) rfl) (((wFsRename_box1 A L c s t W).below hW2 (wFsRename_box1 A L c s t W).lt).cell (i := 0) rfl) hM hs ((hE.below hb).below hW2) h4)
  · rw [any_one] at h1
    rw [open_one] at h2
    have g1 : anyLong [s, t] = false := by rw [any_two, h1]; simpa using htl
    cases hn : nameB t with
    | false => exact ⟨[], 1, by simp, by simp, ⟨small_nil, fun h => absurd h (by decide)⟩, fun W A c hL _ _ => specRename_name A L c s t 0 W hL hs ht htl hc (by decide) hn, BAD g1 (by rw [open_two, hn]; simp)⟩
    | true =>
      have g2 : openOK L [s, t] = true := by rw [open_two, h2, hn]; rfl
      have hR := rising_of_ok h3
      have hdel := del_at hR hi
      rw [h5] at hdel
      obtain ⟨nf, hnf⟩ : ∃ nf : Fil, nf = ⟨t, L[i].data, L[i].sync⟩ := ⟨_, rfl⟩
      have hLi := hf L[i] (List.getElem_mem hi)
      have hnff : nf.fits := by rw [hnf]; exact ⟨ht, hLi.2⟩
      have hmem : ∀ g ∈ putL (delL L s) nf, g = nf ∨ g ∈ L := fun g h => by
        rcases put_mem h with h | h
        · exact .inl h
        · exact .inr (del_mem h).1
      have hfx : ∀ f ∈ putL (delL L s) nf, f.fits := fun f h => by
        rcases hmem f h with rfl | h
        · exact hnff
        · exact hf f h
      have hdl : (delL L s).length + 1 = L.length := by rw [hdel]; simp; omega
      have hln : (putL (delL L s) nf).length ≤ L.length := by have := put_len (delL L s) nf; omega
      have hSx : Small (putL (delL L s) nf) := by
        refine small_of (L := L) (by have := hS.1; omega) fun g hg => ?_
        rcases hmem g hg with rfl | h
        · have := small_mem hS (List.getElem_mem hi); rw [hnf]; exact ⟨ht2, this.2⟩
        · exact small_mem hS h
      refine ⟨putL (delL L s) nf, 0, hfx, by omega, ⟨hSx, fun _ => ⟨h3, hn, L[i], h4, by rw [hnf]⟩⟩, fun W A c hL h6 h7 => ?_, fun W A c hL hE => implFsRename_of A L c s t W _ 0 (Lib.hid ?_)⟩
      · have := specRename_ok A L c s t i hi W hL hS hs ht htl hc h4 hR hn h6 h7
        rw [← hdel, ← hnf] at this
        exact this
      have hb := wFsRename_below A L c s t W
      refine change_ok A L c _ [s, t] 2 43 _ _ _ ((hL.below hb (Nat.le_refl _)).mono hb.size) (wFsRename_names A L c s t W) (by simp) hsN g1 g2 enters_rename (rising_put (rising_del hR s) _) hfx hSx
        (Lib.hid fun W2 b n hW2 _ hM hn2 => (renameC_ok _ _ b n L s t L[i] W2 (((wFsRename_box0 A L c s t W).below hW2 (wFsRename_box0 A L c s t W).lt).cell (i := 0) rfl) (((wFsRename_box1 A L c s t W).below hW2 (wFsRename_box1 A L c s t W).lt).cell (i := 0) rfl) hM (by omega) hs ht h4).mono fun e w' ⟨he, hm, hg⟩ => ⟨he, ⟨n + 1, by omega, ?_⟩, hg⟩)
      rw [hnf]
      exact hm
theorem fsRename_both (L : List Fil) (s t : ByteArray) (a0 a1 a2 a3 a4 : Addr) (hf : ∀ f ∈ L, f.fits) (hS : Small L) (hs : s.size ≤ maxLen) (ht : t.size ≤ maxLen) (hs2 : s.size ≤ 1048576) (ht2 : t.size ≤ 1048576) :
    ∃ (M : List Fil) (cd : Int), (∀ f ∈ M, f.fits) ∧ M.length ≤ L.length + 1 ∧ Small M ∧
      (∀ W A c, Fls W W.heap.size A L → L.length ≤ c → c ≤ maxLen → Calls Tryz.prog 14 #[.agg #[.slice A L.length c], .string s, .string t] W fun e w' => ∃ C x, e = .returned (fsOut (.slice C M.length x) cd) ∧ OwnF w' W.heap.size (.slice C M.length x) M ∧ Below W.heap.size W w') ∧
      (∀ W A c, Fls W W.heap.size A L → Errs W a0 a1 a2 a3 a4 → Calls Tryz.prog 8 #[.agg #[.slice A L.length c], .string s, .string t] W fun e w' => ∃ C x, e = .returned (fsOut (.slice C M.length x) cd) ∧ OwnF w' W.heap.size (.slice C M.length x) M ∧ Below W.heap.size W w') := by
  obtain ⟨M, cd, h1, h2, h3, h4⟩ := fsRename_bothH L s t a0 a1 a2 a3 a4 hf hS hs ht hs2 ht2
  exact ⟨M, cd, h1, h2, h3.1, h4⟩

end Go.Proofs.YtpgodphnjeifhaaGreatDoor
