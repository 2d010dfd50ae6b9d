/- Contracts: spec.NameRight and impl.NameRight both answer nameB of their string. Topics as the program holds them in memory: groups are structs of two cells, read out of slices. Brokers as the program holds them in memory: topics are structs of four cells, replies of three. Contract of spec.l03Is: whether a number lies within two others. -/
import Derived.Test.YtkimieeabmjfgaaRwkW
import Derived.WalkKit
import Derived.Below
import Derived.Lib.Hide
import Derived.Test.YtkimieeabmjfgaaStrArgW
import Derived.Deep.Slices
import Derived.Deep.Fields
import Derived.ChangeSame
import Derived.Lib.SmallJoins
import Derived.WideShapes
namespace Go.Proofs.Ytkimieeabmjfgaa
open Go.RowKit
set_option linter.unusedVariables false

def letB (n : Int) : Bool := decide (97 ≤ n ∧ n ≤ 122)
def nameByteB (n : Int) : Bool := decide ((97 ≤ n ∧ n ≤ 122) ∨ (48 ≤ n ∧ n ≤ 57) ∨ n = 95)
def okAt (k : Nat) (n : Int) : Bool := decide ((97 ≤ n ∧ n ≤ 122) ∨ (0 < k ∧ ((48 ≤ n ∧ n ≤ 57) ∨ n = 95)))
def OkUpto (s : ByteArray) (m : Nat) : Prop := ∀ k (h : k < s.size), k < m → okAt k (s[k].toNat : Int) = true
noncomputable def nameB (s : ByteArray) : Bool := @decide (1 ≤ s.size ∧ s.size ≤ 20 ∧ OkUpto s s.size) (Classical.propDecidable _)

theorem okAt_cases (k : Nat) (n : Int) : okAt k n = true ∨ okAt k n = false := by cases okAt k n <;> simp
theorem okUpto_zero (s : ByteArray) : OkUpto s 0 := fun k _ h => absurd h (Nat.not_lt_zero k)
theorem okUpto_succ {s : ByteArray} {m : Nat} (hm : m < s.size) (h : OkUpto s m) (hk : okAt m (s[m].toNat : Int) = true) : OkUpto s (m + 1) := by
  intro k hks hkm
  by_cases e : k = m
  · subst e; exact hk
  · exact h k hks (by omega)
theorem nameB_true {s : ByteArray} (h1 : 1 ≤ s.size) (h2 : s.size ≤ 20) (h : OkUpto s s.size) : nameB s = true := by
  unfold nameB; exact @decide_eq_true _ (Classical.propDecidable _) ⟨h1, h2, h⟩
theorem nameB_false {s : ByteArray} (h : ¬ (1 ≤ s.size ∧ s.size ≤ 20 ∧ OkUpto s s.size)) : nameB s = false := by
  unfold nameB; exact @decide_eq_false _ (Classical.propDecidable _) h
theorem nameB_false_at {s : ByteArray} {m : Nat} (hm : m < s.size) (hk : okAt m (s[m].toNat : Int) = false) : nameB s = false :=
  nameB_false fun h => by have := h.2.2 m hm hm; rw [hk] at this; cases this

set_option maxHeartbeats 400000 in
theorem isLetter_any (n : Int) (w : World) :
    Calls Try.prog 116 #[.int .u8 n] w fun e w' => e = .returned (.bool (letB n)) ∧ w = w' := by
  by_cases h1 : 97 ≤ n <;> by_cases h2 : n ≤ 122
  all_goals
    go_enter Try.func116, Try.ntmps116
    go_wp2
    go_ret
    exact ⟨retB (by simp [letB] <;> omega), rfl⟩

set_option maxHeartbeats 400000 in
theorem isNameByte_any (n : Int) (w : World) :
    Calls Try.prog 117 #[.int .u8 n] w fun e w' => e = .returned (.bool (nameByteB n)) ∧ w = w' := by
  by_cases h1 : 97 ≤ n <;> by_cases h2 : n ≤ 122 <;> by_cases h3 : 48 ≤ n <;> by_cases h4 : n ≤ 57 <;> by_cases h5 : n = 95 <;> try omega
  all_goals
    go_enter Try.func117, Try.ntmps117
    go_wp2
    go_ret
    exact ⟨retB (by simp [nameByteB] <;> omega), rfl⟩

theorem boolWays (p : Prop) [Decidable p] : (p ∧ decide p = true) ∨ (¬ p ∧ decide p = false) := by by_cases h : p <;> simp [h]
theorem byteWays (n : Int) : n < 48 ∨ (48 ≤ n ∧ n ≤ 57) ∨ (58 ≤ n ∧ n ≤ 94) ∨ n = 95 ∨ n = 96 ∨ (97 ≤ n ∧ n ≤ 122) ∨ 122 < n := by omega

set_option maxHeartbeats 1000000 in
theorem specNameRight_any (s : ByteArray) (w : World) (hs : s.size ≤ maxLen) :
    Calls Try.prog 82 #[.string s] w fun e w' => e = .returned (.bool (nameB s)) ∧ w = w' := by
  unfold maxLen at hs
  by_cases h1 : 1 ≤ s.size
  · by_cases h2 : s.size ≤ 20
    · go_enter Try.func82, Try.ntmps82
      go_wp2
      go_loop [3] (fun i => ∃ k : Nat, k ≤ s.size ∧ OkUpto s k ∧ i = .int .i64 k) (fun i => s.size - (intOf i).toNat)
      case atStart => exact ⟨0, Nat.zero_le _, okUpto_zero s, rfl⟩
      case round =>
        obtain ⟨k, hk, hok, rfl⟩ := hrel
        by_cases hlt : k < s.size
        · have HN := Lib.hid (fun h => okUpto_succ hlt hok h)
          have HF := Lib.hid (fun h => nameB_false_at hlt h)
          clear hok
          obtain ⟨n, hn⟩ : ∃ n : Int, n = (s[k].toNat : Int) := ⟨_, rfl⟩
          rw [← hn] at HN HF
          have HE := Lib.hid hn
          clear hn
          rcases Nat.eq_zero_or_pos k with hk0 | hk0
          · subst hk0
            rcases byteWays n with h | h | h | h | h | h | h
            all_goals
              rw [HE.out] at h
              have q1 := boolWays ((s[0].toNat : Int) ≤ 122)
              have q2 := boolWays ((s[0].toNat : Int) ≤ 57)
              have q3 : ((s[0].toNat : Int) != 95) = true ∨ ((s[0].toNat : Int) != 95) = false := by cases ((s[0].toNat : Int) != 95) <;> simp
              rcases q1 with ⟨r1, q1⟩ | ⟨r1, q1⟩ <;> rcases q2 with ⟨r2, q2⟩ | ⟨r2, q2⟩ <;> try omega
              all_goals
                rcases q3 with q3 | q3 <;> (try (simp only [bne_iff_ne, bne_eq_false_iff_eq, ne_eq] at q3; omega))
                go_wp2
                first
                | (go_round
                   case rel => exact ⟨1, by omega, HN.out (by rw [HE.out]; simp [okAt]; omega), by go_num⟩
                   case measure => simp [intOf]; omega)
                | (go_ret
                   exact ⟨(congrArg _ (congrArg _ (HF.out (by rw [HE.out]; simp [okAt]; omega)))).symm, rfl⟩)
          · have q0 : ((k : Int) == 0) = false := by simp; omega
            rcases byteWays n with h | h | h | h | h | h | h
            all_goals
              rw [HE.out] at h
              have q1 := boolWays ((s[k].toNat : Int) ≤ 122)
              have q2 := boolWays ((s[k].toNat : Int) ≤ 57)
              have q3 : ((s[k].toNat : Int) != 95) = true ∨ ((s[k].toNat : Int) != 95) = false := by cases ((s[k].toNat : Int) != 95) <;> simp
              rcases q1 with ⟨r1, q1⟩ | ⟨r1, q1⟩ <;> rcases q2 with ⟨r2, q2⟩ | ⟨r2, q2⟩ <;> try omega
              all_goals
                rcases q3 with q3 | q3 <;> (try (simp only [bne_iff_ne, bne_eq_false_iff_eq, ne_eq] at q3; omega))
                go_wp2
                first
                | (go_round
                   case rel => exact ⟨k + 1, by omega, HN.out (by rw [HE.out]; simp [okAt]; omega), by go_num⟩
                   case measure => simp [intOf]; omega)
                | (go_ret
                   exact ⟨(congrArg _ (congrArg _ (HF.out (by rw [HE.out]; simp [okAt]; omega)))).symm, rfl⟩)
        · go_wp2
          go_ret
          exact ⟨(congrArg _ (congrArg _ (nameB_true h1 h2 ((show k = s.size by omega) ▸ hok)))).symm, rfl⟩
    · go_enter Try.func82, Try.ntmps82
      go_wp2
      go_ret
      rw [nameB_false (by omega)]
      exact ⟨rfl, rfl⟩
  · go_enter Try.func82, Try.ntmps82
    go_wp2
    go_ret
    rw [nameB_false (by omega)]
    exact ⟨rfl, rfl⟩

def NbUpto (s : ByteArray) (m : Nat) : Prop := ∀ k (h : k < s.size), k < m → nameByteB (s[k].toNat : Int) = true
theorem nbUpto_zero (s : ByteArray) : NbUpto s 0 := fun k _ h => absurd h (Nat.not_lt_zero k)
theorem nbUpto_succ {s : ByteArray} {m : Nat} (hm : m < s.size) (h : NbUpto s m) (hk : nameByteB (s[m].toNat : Int) = true) : NbUpto s (m + 1) := by
  intro k hks hkm
  by_cases e : k = m
  · subst e; exact hk
  · exact h k hks (by omega)
theorem okUpto_of_nb {s : ByteArray} {m : Nat} (h1 : 0 < s.size) (h0 : letB (s[0].toNat : Int) = true) (h : NbUpto s m) : OkUpto s m := by
  intro k hks hkm
  have hk := h k hks hkm
  rcases Nat.eq_zero_or_pos k with rfl | hp
  · simp [letB] at h0; simp [okAt]; omega
  · simp [nameByteB] at hk; simp [okAt]; omega
theorem okAt_of_let {s : ByteArray} (h1 : 0 < s.size) (h0 : letB (s[0].toNat : Int) = false) : nameB s = false :=
  nameB_false_at h1 (by simp [letB] at h0; simp [okAt]; omega)
theorem okAt_of_nb {s : ByteArray} {k : Nat} (h1 : k < s.size) (h0 : nameByteB (s[k].toNat : Int) = false) : nameB s = false :=
  nameB_false_at h1 (by simp [nameByteB] at h0; simp [okAt]; omega)

set_option maxHeartbeats 1000000 in
theorem implNameRight_any (s : ByteArray) (w : World) (hs : s.size ≤ maxLen) :
    Calls Try.prog 87 #[.string s] w fun e w' => e = .returned (.bool (nameB s)) ∧ w = w' := by
  unfold maxLen at hs
  by_cases h1 : 1 ≤ s.size
  · have h1' : 0 < s.size := h1
    by_cases h2 : s.size ≤ 20
    · rcases Bool.eq_false_or_eq_true (letB (s[0].toNat : Int)) with hl | hl
      · go_enter Try.func87, Try.ntmps87
        go_wp2_with (go_at_call 116; refine (isLetter_any _ _).mono ?_; rintro e w' ⟨rfl, rfl⟩)
        have HL := Lib.hid hl
        clear hl
        go_loop [20] (fun i => ∃ k : Nat, k ≤ s.size ∧ NbUpto s k ∧ i = .int .i64 k) (fun i => s.size - (intOf i).toNat)
        case atStart => exact ⟨0, Nat.zero_le _, nbUpto_zero s, rfl⟩
        case round =>
          obtain ⟨k, hk, hok, rfl⟩ := hrel
          by_cases hlt : k < s.size
          · rcases Bool.eq_false_or_eq_true (nameByteB (s[k].toNat : Int)) with hb | hb
            · have HN := Lib.hid (nbUpto_succ hlt hok hb)
              clear hok
              go_wp2_with (go_at_call 117; refine (isNameByte_any _ _).mono ?_; rintro e w' ⟨rfl, rfl⟩)
              go_round
              case rel => exact ⟨k + 1, by omega, HN.out, by go_num⟩
              case measure => simp [intOf]; omega
            · clear hok
              go_wp2_with (go_at_call 117; refine (isNameByte_any _ _).mono ?_; rintro e w' ⟨rfl, rfl⟩)
              go_ret
              exact ⟨(congrArg _ (congrArg _ (okAt_of_nb hlt hb))).symm, rfl⟩
          · have HO := Lib.hid hok
            clear hok
            go_wp2
            go_ret
            exact ⟨(congrArg _ (congrArg _ (nameB_true h1 h2 (okUpto_of_nb h1' HL.out ((show k = s.size by omega) ▸ HO.out))))).symm, rfl⟩
      · go_enter Try.func87, Try.ntmps87
        go_wp2_with (go_at_call 116; refine (isLetter_any _ _).mono ?_; rintro e w' ⟨rfl, rfl⟩)
        go_ret
        exact ⟨(congrArg _ (congrArg _ (okAt_of_let h1' hl))).symm, rfl⟩
    · go_enter Try.func87, Try.ntmps87
      go_wp2
      go_ret
      rw [nameB_false (by omega)]
      exact ⟨rfl, rfl⟩
  · go_enter Try.func87, Try.ntmps87
    go_wp2
    go_ret
    rw [nameB_false (by omega)]
    exact ⟨rfl, rfl⟩

end Go.Proofs.Ytkimieeabmjfgaa

namespace Go.Proofs.Ytkimieeabmjfgaa
open Go.RowKit Go.ChangeShapes Go.WideShapes Go.Deep
set_option linter.unusedVariables false

/-- A group. -/
structure Grp where
  name : ByteArray
  acked : Int
  deriving Inhabited
namespace Grp
def cells (f : Grp) : List Value := [.string f.name, .int .i64 f.acked]
def val (f : Grp) : Value := .agg #[.string f.name, .int .i64 f.acked]
/-- What every group keeps to: its name is no longer than a machine allows, its number is one of 64 bits. -/
def fits (f : Grp) : Prop := f.name.size ≤ maxLen ∧ -9223372036854775808 ≤ f.acked ∧ f.acked ≤ 9223372036854775807
end Grp
/-- A topic. -/
structure Tpc where
  name : ByteArray
  base : Int
  held : List ByteArray
  groups : List Grp
/-- The value of a topic. -/
abbrev topV (n : ByteArray) (b : Int) (h g : Value) : Value := .agg #[.string n, .int .i64 b, h, g]
/-- What every topic keeps to. -/
def Tpc.fits (t : Tpc) : Prop := t.name.size ≤ maxLen ∧ (-9223372036854775808 ≤ t.base ∧ t.base ≤ 9223372036854775807) ∧ (∀ s ∈ t.held, s.size ≤ maxLen) ∧ ∀ g ∈ t.groups, g.fits
/-- The groups of a slice, below block B. -/
def Grs (w : World) (B : Nat) (A : Option Addr) (L : List Grp) : Prop :=
  L.length ≤ maxLen ∧ ∀ i (h : i < L.length), ∃ a, A = some a ∧ a.block < B ∧ w.cell? (a.add (i * 2)) = some (.string L[i].name) ∧ w.cell? (a.add (i * 2 + 1)) = some (.int .i64 L[i].acked)
theorem Grs.of_block {w w' : World} {B : Nat} {A : Option Addr} {L : List Grp} (h : Grs w B A L) (hb : ∀ k, k < B → w'.heap[k]? = w.heap[k]?) : Grs w' B A L :=
  ⟨h.1, fun i hi => by
    obtain ⟨a, e, h1, h2, h3⟩ := h.2 i hi
    refine ⟨a, e, h1, ?_, ?_⟩
    · rw [World.cell?_of_block (a := a.add _) (hb _ (by rw [add_blk]; exact h1))]; exact h2
    · rw [World.cell?_of_block (a := a.add _) (hb _ (by rw [add_blk]; exact h1))]; exact h3⟩
theorem Grs.mono {w : World} {B B' : Nat} {A : Option Addr} {L : List Grp} (h : Grs w B A L) (hb : B ≤ B') : Grs w B' A L :=
  ⟨h.1, fun i hi => by
    obtain ⟨a, e, h1, h2⟩ := h.2 i hi
    exact ⟨a, e, by omega, h2⟩⟩
theorem Grs.below {w w' : World} {B C : Nat} {A : Option Addr} {L : List Grp} (h : Grs w B A L) (hb : Below C w w') (hC : B ≤ C) : Grs w' B A L := h.of_block fun k hk => hb.block k (by omega)
theorem Grs.on {w w' : World} {A : Option Addr} {L : List Grp} (h : Grs w w.heap.size A L) (hb : Below w.heap.size w w') : Grs w' w'.heap.size A L := (h.below hb (Nat.le_refl _)).mono hb.size
theorem Strs.on {w w' : World} {A : Option Addr} {L : List ByteArray} (h : Strs w w.heap.size A L) (hb : Below w.heap.size w w') : Strs w' w'.heap.size A L := (h.below hb (Nat.le_refl _)).mono hb.size
/-- A group of a slice, its cells as a walk asks for them. -/
theorem Grs.at {w : World} {B : Nat} {A : Option Addr} {L : List Grp} (h : Grs w B A L) (i : Nat) (hi : i < L.length) :
    ∃ a, A = some a ∧ a.block < B ∧ w.cell? (a.add (i * 2)) = some (.string L[i].name) ∧ w.cell? ⟨(a.add (i * 2)).block, (a.add (i * 2)).off + 1, none⟩ = some (.int .i64 L[i].acked) := by
  obtain ⟨a, e, h1, h2, h3⟩ := h.2 i hi
  exact ⟨a, e, h1, h2, by rw [add_far]; exact h3⟩

/-- The cells of groups, one behind the other. -/
def gflat (L : List Grp) : List Value := L.flatMap Grp.cells
theorem gflat_nil : gflat [] = [] := rfl
theorem gflat_cons (f : Grp) (L : List Grp) : gflat (f :: L) = .string f.name :: .int .i64 f.acked :: gflat L := rfl
theorem gflat_append (L M : List Grp) : gflat (L ++ M) = gflat L ++ gflat M := by simp [gflat]
theorem gflat_len (L : List Grp) : (gflat L).length = L.length * 2 := by
  induction L with
  | nil => rfl
  | cons f L ih => rw [gflat_cons]; simp only [List.length_cons, ih]; omega
theorem gflat_get (L : List Grp) : ∀ (i : Nat) (hi : i < L.length) (r : Nat), r < 2 → (gflat L)[i * 2 + r]? = L[i].cells[r]? := by
  induction L with
  | nil => intro i hi; simp at hi
  | cons f L ih =>
    intro i hi r hr
    rw [gflat_cons]
    cases i with
    | zero =>
      match r, hr with
      | 0, _ => rfl
      | 1, _ => rfl
    | succ i =>
      rw [show (i + 1) * 2 + r = (i * 2 + r) + 1 + 1 by omega]
      simp only [List.getElem?_cons_succ, List.getElem_cons_succ]
      exact ih i (by simpa using hi) r hr
theorem gflat_set (f : Grp) : ∀ (L : List Grp) (i : Nat), ((gflat L).set (i * 2) (.string f.name)).set (i * 2 + 1) (.int .i64 f.acked) = gflat (L.set i f) := by
  intro L
  induction L with
  | nil => intro i; simp [gflat]
  | cons g L ih =>
    intro i
    cases i with
    | zero => rfl
    | succ i =>
      rw [gflat_cons, show (i + 1) * 2 = i * 2 + 1 + 1 by omega, List.set_cons_succ, List.set_cons_succ, List.set_cons_succ, List.set_cons_succ]
      rw [List.set_cons_succ, gflat_cons, ← ih i]
theorem gflat_one (L : List Grp) : ∀ u ∈ gflat L, u.oneCell' = true := by
  intro u hu
  obtain ⟨f, _, h⟩ := List.mem_flatMap.1 hu
  simp [Grp.cells] at h
  rcases h with rfl | rfl <;> rfl
def zeroGrp : Grp := ⟨⟨#[]⟩, 0⟩
theorem gflat_made (n : Nat) : (madeCells #[.string ⟨#[]⟩, .int .i64 0] (n * 2)).toList = gflat (List.replicate n zeroGrp) := by
  apply List.ext_getElem?
  intro j
  by_cases hj : j < n * 2
  · have h := gflat_get (List.replicate n zeroGrp) (j / 2) (by simp; omega) (j % 2) (by omega)
    rw [show j / 2 * 2 + j % 2 = j by omega] at h
    rw [h]
    have : j % 2 = 0 ∨ j % 2 = 1 := by omega
    rcases this with e | e <;> simp [madeCells, hj, e, zeroGrp, Grp.cells]
  · rw [List.getElem?_eq_none (l := gflat _) (by rw [gflat_len]; simp; omega)]
    simp [madeCells]
    omega
/-- A row of groups of the call's own. -/
def OwnG (w : World) (base : Nat) (v : Value) (L : List Grp) : Prop := w.ownsRow base 68 2 v L.length (gflat L)
theorem OwnG.slice {w : World} {base : Nat} {v : Value} {L : List Grp} (h1 : OwnG w base v L) : ∃ A c, v = .slice A L.length c ∧ Grs w w.heap.size A L := by
  rcases h1.2 with ⟨rfl, hz⟩ | ⟨g, cap, cur, rfl, hb, hg, hl, hm, hs, ht⟩
  · have : L = [] := List.eq_nil_of_length_eq_zero hz
    subst this
    exact ⟨none, 0, rfl, by simp [maxLen], fun i h => absurd h (by simp)⟩
  · refine ⟨some ⟨g, 0, none⟩, cap, rfl, by omega, fun i hi => ?_⟩
    have hc := World.ownsRow.cells h1 (g := g) rfl
    have k0 := hc (i * 2 + 0) _ (by rw [gflat_get L i hi 0 (by omega)]; rfl)
    have k1 := hc (i * 2 + 1) _ (by rw [gflat_get L i hi 1 (by omega)]; rfl)
    exact ⟨⟨g, 0, none⟩, rfl, (Array.getElem?_eq_some_iff.1 hg).1, k0, k1⟩
theorem OwnG.grs {w : World} {base c n : Nat} {A : Option Addr} {L : List Grp} (h : OwnG w base (.slice A n c) L) : Grs w w.heap.size A L := by
  obtain ⟨A', c', e, hf⟩ := h.slice
  cases e
  exact hf
theorem Rw.grs {w : World} {lo hi n c : Nat} {A : Option Addr} {L : List Grp} (h : Rw w lo hi 68 2 (.slice A n c) L.length (gflat L)) : Grs w w.heap.size A L := OwnG.grs (base := lo) (c := c) (n := n) h.1
theorem infoGrp : (Try.prog.info? 68).map (fun i => (i.zero, i.size, i.bytes)) = some (some (.agg #[.string ⟨#[]⟩, .int .i64 0]), 2, 24) := by kernel_rfl
/-- The two cells of one group of an owned row, as a store asks for them. -/
theorem row_grp {w : World} {base g n c : Nat} {M : List Grp} (h : w.ownsRow base 68 2 (.slice (some ⟨g, 0, none⟩) n c) n (gflat M)) {k : Nat} (hk : k < M.length) :
    w.cell? ⟨g, k * 2, none⟩ = some (.string M[k].name) ∧ w.cell? ⟨g, k * 2 + 1, none⟩ = some (.int .i64 M[k].acked) ∧
      w.frozen? ⟨g, k * 2, none⟩ = false ∧ w.frozen? ⟨g, k * 2 + 1, none⟩ = false := by
  have hl := h.1
  rw [gflat_len] at hl
  refine ⟨?_, ?_, h.frozenAt _, h.frozenAt _⟩
  · rw [h.cellAt _ (by omega), show k * 2 = k * 2 + 0 from rfl, gflat_get M k hk 0 (by omega)]; rfl
  · rw [h.cellAt _ (by omega), gflat_get M k hk 1 (by omega)]; rfl
theorem row_gput {w : World} {base g n c : Nat} {M : List Grp} (h : w.ownsRow base 68 2 (.slice (some ⟨g, 0, none⟩) n c) n (gflat M)) (k : Nat) (f : Grp) :
    ((w.setCell ⟨g, k * 2, none⟩ (.string f.name)).setCell ⟨g, k * 2 + 1, none⟩ (.int .i64 f.acked)).ownsRow base 68 2 (.slice (some ⟨g, 0, none⟩) n c) n (gflat (M.set k f)) := by
  have h1 := (h.stored (k * 2) (.string f.name)).1
  have h2 := (h1.stored (k * 2 + 1) (.int .i64 f.acked)).1
  rw [gflat_set] at h2
  exact h2
end Go.Proofs.Ytkimieeabmjfgaa

namespace Go.Proofs.Ytkimieeabmjfgaa
open Go.RowKit Go.ChangeShapes Go.WideShapes Go.Deep
set_option linter.unusedVariables false

/-- A reply. -/
structure Rep where
  client : Int
  number : Int
  text : ByteArray
  deriving Inhabited
namespace Rep
def cells (f : Rep) : List Value := [.int .i64 f.client, .int .i64 f.number, .string f.text]
def val (f : Rep) : Value := .agg #[.int .i64 f.client, .int .i64 f.number, .string f.text]
def fits (f : Rep) : Prop := (-9223372036854775808 ≤ f.client ∧ f.client ≤ 9223372036854775807) ∧ (-9223372036854775808 ≤ f.number ∧ f.number ≤ 9223372036854775807) ∧ f.text.size ≤ maxLen
end Rep
instance : Inhabited Tpc := ⟨⟨⟨#[]⟩, 0, [], []⟩⟩
/-- The value of a broker. -/
abbrev broV (t r : Value) : Value := .agg #[t, r]
/-- The replies of a slice, below block B. -/
def Rps (w : World) (B : Nat) (A : Option Addr) (L : List Rep) : Prop :=
  L.length ≤ maxLen ∧ ∀ i (h : i < L.length), ∃ a, A = some a ∧ a.block < B ∧ w.cell? (a.add (i * 3)) = some (.int .i64 L[i].client) ∧ w.cell? (a.add (i * 3 + 1)) = some (.int .i64 L[i].number) ∧ w.cell? (a.add (i * 3 + 2)) = some (.string L[i].text)
theorem Rps.of_block {w w' : World} {B : Nat} {A : Option Addr} {L : List Rep} (h : Rps w B A L) (hb : ∀ k, k < B → w'.heap[k]? = w.heap[k]?) : Rps w' B A L :=
  ⟨h.1, fun i hi => by
    obtain ⟨a, e, h1, h2, h3, h4⟩ := h.2 i hi
    refine ⟨a, e, h1, ?_, ?_, ?_⟩
    · rw [World.cell?_of_block (a := a.add _) (hb _ (by rw [add_blk]; exact h1))]; exact h2
    · rw [World.cell?_of_block (a := a.add _) (hb _ (by rw [add_blk]; exact h1))]; exact h3
    · rw [World.cell?_of_block (a := a.add _) (hb _ (by rw [add_blk]; exact h1))]; exact h4⟩
theorem Rps.mono {w : World} {B B' : Nat} {A : Option Addr} {L : List Rep} (h : Rps w B A L) (hb : B ≤ B') : Rps w B' A L :=
  ⟨h.1, fun i hi => by
    obtain ⟨a, e, h1, h2⟩ := h.2 i hi
    exact ⟨a, e, by omega, h2⟩⟩
theorem Rps.below {w w' : World} {B C : Nat} {A : Option Addr} {L : List Rep} (h : Rps w B A L) (hb : Below C w w') (hC : B ≤ C) : Rps w' B A L := h.of_block fun k hk => hb.block k (by omega)
theorem Rps.on {w w' : World} {A : Option Addr} {L : List Rep} (h : Rps w w.heap.size A L) (hb : Below w.heap.size w w') : Rps w' w'.heap.size A L := (h.below hb (Nat.le_refl _)).mono hb.size
/-- A reply of a slice, its cells as a walk asks for them. -/
theorem Rps.at {w : World} {B : Nat} {A : Option Addr} {L : List Rep} (h : Rps w B A L) (i : Nat) (hi : i < L.length) :
    ∃ a, A = some a ∧ a.block < B ∧ w.cell? (a.add (i * 3)) = some (.int .i64 L[i].client) ∧ w.cell? ⟨(a.add (i * 3)).block, (a.add (i * 3)).off + 1, none⟩ = some (.int .i64 L[i].number) ∧ w.cell? ⟨(a.add (i * 3)).block, (a.add (i * 3)).off + 2, none⟩ = some (.string L[i].text) := by
  obtain ⟨a, e, h1, h2, h3, h4⟩ := h.2 i hi
  exact ⟨a, e, h1, h2, by rw [add_far]; exact h3, by rw [add_far]; exact h4⟩

/-- The topics of a slice, below block B. -/
def Tops (w : World) (B : Nat) (A : Option Addr) (L : List Tpc) : Prop :=
  L.length ≤ maxLen ∧ ∀ i (h : i < L.length), ∃ a, A = some a ∧ a.block < B ∧ ∃ C c D d, w.cell? (a.add (i * 4)) = some (.string L[i].name) ∧ w.cell? (a.add (i * 4 + 1)) = some (.int .i64 L[i].base) ∧
    w.cell? (a.add (i * 4 + 2)) = some (.slice C L[i].held.length c) ∧ w.cell? (a.add (i * 4 + 3)) = some (.slice D L[i].groups.length d) ∧ Strs w B C L[i].held ∧ Grs w B D L[i].groups
theorem Strs.of_block' {w w' : World} {B : Nat} {A : Option Addr} {L : List ByteArray} (h : Strs w B A L) (hb : ∀ k, k < B → w'.heap[k]? = w.heap[k]?) : Strs w' B A L :=
  ⟨h.1, fun i hi => by
    obtain ⟨a, e, h1, h2⟩ := h.2 i hi
    exact ⟨a, e, h1, by rw [World.cell?_of_block (a := a.add _) (hb _ (by rw [add_blk]; exact h1))]; exact h2⟩⟩
theorem Strs.mono' {w : World} {B B' : Nat} {A : Option Addr} {L : List ByteArray} (h : Strs w B A L) (hb : B ≤ B') : Strs w B' A L :=
  ⟨h.1, fun i hi => by
    obtain ⟨a, e, h1, h2⟩ := h.2 i hi
    exact ⟨a, e, by omega, h2⟩⟩
theorem Tops.of_block {w w' : World} {B : Nat} {A : Option Addr} {L : List Tpc} (h : Tops w B A L) (hb : ∀ k, k < B → w'.heap[k]? = w.heap[k]?) : Tops w' B A L :=
  ⟨h.1, fun i hi => by
    obtain ⟨a, e, h1, C, c, D, d, h2, h3, h4, h5, h6, h7⟩ := h.2 i hi
    refine ⟨a, e, h1, C, c, D, d, ?_, ?_, ?_, ?_, h6.of_block' hb, h7.of_block hb⟩
    · rw [World.cell?_of_block (a := a.add _) (hb _ (by rw [add_blk]; exact h1))]; exact h2
    · rw [World.cell?_of_block (a := a.add _) (hb _ (by rw [add_blk]; exact h1))]; exact h3
    · rw [World.cell?_of_block (a := a.add _) (hb _ (by rw [add_blk]; exact h1))]; exact h4
    · rw [World.cell?_of_block (a := a.add _) (hb _ (by rw [add_blk]; exact h1))]; exact h5⟩
theorem Tops.mono {w : World} {B B' : Nat} {A : Option Addr} {L : List Tpc} (h : Tops w B A L) (hb : B ≤ B') : Tops w B' A L :=
  ⟨h.1, fun i hi => by
    obtain ⟨a, e, h1, C, c, D, d, h2, h3, h4, h5, h6, h7⟩ := h.2 i hi
    exact ⟨a, e, by omega, C, c, D, d, h2, h3, h4, h5, h6.mono' hb, h7.mono hb⟩⟩
theorem Tops.below {w w' : World} {B C : Nat} {A : Option Addr} {L : List Tpc} (h : Tops w B A L) (hb : Below C w w') (hC : B ≤ C) : Tops w' B A L := h.of_block fun k hk => hb.block k (by omega)
theorem Tops.on {w w' : World} {A : Option Addr} {L : List Tpc} (h : Tops w w.heap.size A L) (hb : Below w.heap.size w w') : Tops w' w'.heap.size A L := (h.below hb (Nat.le_refl _)).mono hb.size
/-- A topic of a slice, its cells as a walk asks for them. -/
theorem Tops.at {w : World} {B : Nat} {A : Option Addr} {L : List Tpc} (h : Tops w B A L) (i : Nat) (hi : i < L.length) :
    ∃ a, A = some a ∧ a.block < B ∧ ∃ C c D d, w.cell? (a.add (i * 4)) = some (.string L[i].name) ∧ w.cell? ⟨(a.add (i * 4)).block, (a.add (i * 4)).off + 1, none⟩ = some (.int .i64 L[i].base) ∧
      w.cell? ⟨(a.add (i * 4)).block, (a.add (i * 4)).off + 2, none⟩ = some (.slice C L[i].held.length c) ∧ w.cell? ⟨(a.add (i * 4)).block, (a.add (i * 4)).off + 3, none⟩ = some (.slice D L[i].groups.length d) ∧ Strs w B C L[i].held ∧ Grs w B D L[i].groups := by
  obtain ⟨a, e, h1, C, c, D, d, h2, h3, h4, h5, h6, h7⟩ := h.2 i hi
  exact ⟨a, e, h1, C, c, D, d, h2, by rw [add_far]; exact h3, by rw [add_far]; exact h4, by rw [add_far]; exact h5, h6, h7⟩

/-- A broker. -/
structure Bro where
  topics : List Tpc
  replies : List Rep
def Bro.fits (b : Bro) : Prop := (∀ t ∈ b.topics, t.fits) ∧ ∀ r ∈ b.replies, r.fits

/-- The cells of replies, one behind the other. -/
def rflat (L : List Rep) : List Value := L.flatMap Rep.cells
theorem rflat_nil : rflat [] = [] := rfl
theorem rflat_cons (f : Rep) (L : List Rep) : rflat (f :: L) = .int .i64 f.client :: .int .i64 f.number :: .string f.text :: rflat L := rfl
theorem rflat_append (L M : List Rep) : rflat (L ++ M) = rflat L ++ rflat M := by simp [rflat]
theorem rflat_len (L : List Rep) : (rflat L).length = L.length * 3 := by
  induction L with
  | nil => rfl
  | cons f L ih => rw [rflat_cons]; simp only [List.length_cons, ih]; omega
theorem rflat_get (L : List Rep) : ∀ (i : Nat) (hi : i < L.length) (r : Nat), r < 3 → (rflat L)[i * 3 + r]? = L[i].cells[r]? := by
  induction L with
  | nil => intro i hi; simp at hi
  | cons f L ih =>
    intro i hi r hr
    rw [rflat_cons]
    cases i with
    | zero =>
      match r, hr with
      | 0, _ => rfl
      | 1, _ => rfl
      | 2, _ => rfl
    | succ i =>
      rw [show (i + 1) * 3 + r = (i * 3 + r) + 1 + 1 + 1 by omega]
      simp only [List.getElem?_cons_succ, List.getElem_cons_succ]
      exact ih i (by simpa using hi) r hr
theorem rflat_set (f : Rep) : ∀ (L : List Rep) (i : Nat), (((rflat L).set (i * 3) (.int .i64 f.client)).set (i * 3 + 1) (.int .i64 f.number)).set (i * 3 + 2) (.string f.text) = rflat (L.set i f) := by
  intro L
  induction L with
  | nil => intro i; simp [rflat]
  | cons g L ih =>
    intro i
    cases i with
    | zero => rfl
    | succ i =>
      rw [rflat_cons, show (i + 1) * 3 = i * 3 + 1 + 1 + 1 by omega]
      simp only [List.set_cons_succ]
      rw [rflat_cons, ← ih i]
def zeroRep : Rep := ⟨0, 0, ⟨#[]⟩⟩
theorem rflat_made (n : Nat) : (madeCells #[.int .i64 0, .int .i64 0, .string ⟨#[]⟩] (n * 3)).toList = rflat (List.replicate n zeroRep) := by
  apply List.ext_getElem?
  intro j
  by_cases hj : j < n * 3
  · have h := rflat_get (List.replicate n zeroRep) (j / 3) (by simp; omega) (j % 3) (by omega)
    rw [show j / 3 * 3 + j % 3 = j by omega] at h
    rw [h]
    have : j % 3 = 0 ∨ j % 3 = 1 ∨ j % 3 = 2 := by omega
    rcases this with e | e | e <;> simp [madeCells, hj, e, zeroRep, Rep.cells]
  · rw [List.getElem?_eq_none (l := rflat _) (by rw [rflat_len]; simp; omega)]
    simp [madeCells]
    omega
/-- A row of replies of the call's own. -/
def OwnR (w : World) (base : Nat) (v : Value) (L : List Rep) : Prop := w.ownsRow base 53 3 v L.length (rflat L)
theorem OwnR.slice {w : World} {base : Nat} {v : Value} {L : List Rep} (h1 : OwnR w base v L) : ∃ A c, v = .slice A L.length c ∧ Rps w w.heap.size A L := by
  rcases h1.2 with ⟨rfl, hz⟩ | ⟨g, cap, cur, rfl, hb, hg, hl, hm, hs, ht⟩
  · have : L = [] := List.eq_nil_of_length_eq_zero hz
    subst this
    exact ⟨none, 0, rfl, by simp [maxLen], fun i h => absurd h (by simp)⟩
  · refine ⟨some ⟨g, 0, none⟩, cap, rfl, by omega, fun i hi => ?_⟩
    have hc := World.ownsRow.cells h1 (g := g) rfl
    have k0 := hc (i * 3 + 0) _ (by rw [rflat_get L i hi 0 (by omega)]; rfl)
    have k1 := hc (i * 3 + 1) _ (by rw [rflat_get L i hi 1 (by omega)]; rfl)
    have k2 := hc (i * 3 + 2) _ (by rw [rflat_get L i hi 2 (by omega)]; rfl)
    exact ⟨⟨g, 0, none⟩, rfl, (Array.getElem?_eq_some_iff.1 hg).1, k0, k1, k2⟩
theorem OwnR.rps {w : World} {base c n : Nat} {A : Option Addr} {L : List Rep} (h : OwnR w base (.slice A n c) L) : Rps w w.heap.size A L := by
  obtain ⟨A', c', e, hf⟩ := h.slice
  cases e
  exact hf
theorem Rw.rps {w : World} {lo hi n c : Nat} {A : Option Addr} {L : List Rep} (h : Rw w lo hi 53 3 (.slice A n c) L.length (rflat L)) : Rps w w.heap.size A L := OwnR.rps (base := lo) (c := c) (n := n) h.1
theorem infoRep : (Try.prog.info? 53).map (fun i => (i.zero, i.size, i.bytes)) = some (some (.agg #[.int .i64 0, .int .i64 0, .string ⟨#[]⟩]), 3, 32) := by kernel_rfl
/-- The cells of one reply of an owned row, as a store asks for them. -/
theorem row_rep {w : World} {base g n c : Nat} {M : List Rep} (h : w.ownsRow base 53 3 (.slice (some ⟨g, 0, none⟩) n c) n (rflat M)) {k : Nat} (hk : k < M.length) :
    w.cell? ⟨g, k * 3, none⟩ = some (.int .i64 M[k].client) ∧ w.cell? ⟨g, k * 3 + 1, none⟩ = some (.int .i64 M[k].number) ∧ w.cell? ⟨g, k * 3 + 2, none⟩ = some (.string M[k].text) ∧
      w.frozen? ⟨g, k * 3, none⟩ = false ∧ w.frozen? ⟨g, k * 3 + 1, none⟩ = false ∧ w.frozen? ⟨g, k * 3 + 2, none⟩ = false := by
  have hl := h.1
  rw [rflat_len] at hl
  refine ⟨?_, ?_, ?_, h.frozenAt _, h.frozenAt _, h.frozenAt _⟩
  · rw [h.cellAt _ (by omega), show k * 3 = k * 3 + 0 from rfl, rflat_get M k hk 0 (by omega)]; rfl
  · rw [h.cellAt _ (by omega), rflat_get M k hk 1 (by omega)]; rfl
  · rw [h.cellAt _ (by omega), rflat_get M k hk 2 (by omega)]; rfl
theorem row_rput {w : World} {base g n c : Nat} {M : List Rep} (h : w.ownsRow base 53 3 (.slice (some ⟨g, 0, none⟩) n c) n (rflat M)) (k : Nat) (f : Rep) :
    (((w.setCell ⟨g, k * 3, none⟩ (.int .i64 f.client)).setCell ⟨g, k * 3 + 1, none⟩ (.int .i64 f.number)).setCell ⟨g, k * 3 + 2, none⟩ (.string f.text)).ownsRow base 53 3 (.slice (some ⟨g, 0, none⟩) n c) n (rflat (M.set k f)) := by
  have h1 := (h.stored (k * 3) (.int .i64 f.client)).1
  have h2 := (h1.stored (k * 3 + 1) (.int .i64 f.number)).1
  have h3 := (h2.stored (k * 3 + 2) (.string f.text)).1
  rw [rflat_set] at h3
  exact h3

/-- A topic with the slices that hold its messages and groups. -/
structure TC where
  t : Tpc
  A : Option Addr
  c : Nat
  B : Option Addr
  d : Nat
  deriving Inhabited
def TC.cells (m : TC) : List Value := [.string m.t.name, .int .i64 m.t.base, .slice m.A m.t.held.length m.c, .slice m.B m.t.groups.length m.d]
def tflat (L : List TC) : List Value := L.flatMap TC.cells
theorem tflat_cons (f : TC) (L : List TC) : tflat (f :: L) = .string f.t.name :: .int .i64 f.t.base :: .slice f.A f.t.held.length f.c :: .slice f.B f.t.groups.length f.d :: tflat L := rfl
theorem tflat_append (L M : List TC) : tflat (L ++ M) = tflat L ++ tflat M := by simp [tflat]
theorem tflat_len (L : List TC) : (tflat L).length = L.length * 4 := by
  induction L with
  | nil => rfl
  | cons f L ih => rw [tflat_cons]; simp only [List.length_cons, ih]; omega
theorem tflat_get (L : List TC) : ∀ (i : Nat) (hi : i < L.length) (r : Nat), r < 4 → (tflat L)[i * 4 + r]? = L[i].cells[r]? := by
  induction L with
  | nil => intro i hi; simp at hi
  | cons f L ih =>
    intro i hi r hr
    rw [tflat_cons]
    cases i with
    | zero =>
      match r, hr with
      | 0, _ => rfl
      | 1, _ => rfl
      | 2, _ => rfl
      | 3, _ => rfl
    | succ i =>
      rw [show (i + 1) * 4 + r = (i * 4 + r) + 1 + 1 + 1 + 1 by omega]
      simp only [List.getElem?_cons_succ, List.getElem_cons_succ]
      exact ih i (by simpa using hi) r hr
theorem tflat_set (f : TC) : ∀ (L : List TC) (i : Nat), ((((tflat L).set (i * 4) (.string f.t.name)).set (i * 4 + 1) (.int .i64 f.t.base)).set (i * 4 + 2) (.slice f.A f.t.held.length f.c)).set (i * 4 + 3) (.slice f.B f.t.groups.length f.d) = tflat (L.set i f) := by
  intro L
  induction L with
  | nil => intro i; simp [tflat]
  | cons g L ih =>
    intro i
    cases i with
    | zero => rfl
    | succ i =>
      rw [tflat_cons, show (i + 1) * 4 = i * 4 + 1 + 1 + 1 + 1 by omega]
      simp only [List.set_cons_succ]
      rw [tflat_cons, ← ih i]
def zeroTC : TC := ⟨⟨⟨#[]⟩, 0, [], []⟩, none, 0, none, 0⟩
theorem tflat_made (n : Nat) : (madeCells #[.string ⟨#[]⟩, .int .i64 0, .slice none 0 0, .slice none 0 0] (n * 4)).toList = tflat (List.replicate n zeroTC) := by
  apply List.ext_getElem?
  intro j
  by_cases hj : j < n * 4
  · have h := tflat_get (List.replicate n zeroTC) (j / 4) (by simp; omega) (j % 4) (by omega)
    rw [show j / 4 * 4 + j % 4 = j by omega] at h
    rw [h]
    have : j % 4 = 0 ∨ j % 4 = 1 ∨ j % 4 = 2 ∨ j % 4 = 3 := by omega
    rcases this with e | e | e | e <;> simp [madeCells, hj, e, zeroTC, TC.cells]
  · rw [List.getElem?_eq_none (l := tflat _) (by rw [tflat_len]; simp; omega)]
    simp [madeCells]
    omega
/-- A row of topics of the call's own. -/
def OwnT (w : World) (base : Nat) (v : Value) (L : List TC) : Prop := w.ownsRow base 29 4 v L.length (tflat L)
theorem infoTop : (Try.prog.info? 29).map (fun i => (i.zero, i.size, i.bytes)) = some (some (.agg #[.string ⟨#[]⟩, .int .i64 0, .slice none 0 0, .slice none 0 0]), 4, 72) := by kernel_rfl
theorem row_top {w : World} {base g n c : Nat} {M : List TC} (h : w.ownsRow base 29 4 (.slice (some ⟨g, 0, none⟩) n c) n (tflat M)) {k : Nat} (hk : k < M.length) :
    w.cell? ⟨g, k * 4, none⟩ = some (.string M[k].t.name) ∧ w.cell? ⟨g, k * 4 + 1, none⟩ = some (.int .i64 M[k].t.base) ∧ w.cell? ⟨g, k * 4 + 2, none⟩ = some (.slice M[k].A M[k].t.held.length M[k].c) ∧ w.cell? ⟨g, k * 4 + 3, none⟩ = some (.slice M[k].B M[k].t.groups.length M[k].d) ∧
      w.frozen? ⟨g, k * 4, none⟩ = false ∧ w.frozen? ⟨g, k * 4 + 1, none⟩ = false ∧ w.frozen? ⟨g, k * 4 + 2, none⟩ = false ∧ w.frozen? ⟨g, k * 4 + 3, none⟩ = false := by
  have hl := h.1
  rw [tflat_len] at hl
  refine ⟨?_, ?_, ?_, ?_, h.frozenAt _, h.frozenAt _, h.frozenAt _, h.frozenAt _⟩
  · rw [h.cellAt _ (by omega), show k * 4 = k * 4 + 0 from rfl, tflat_get M k hk 0 (by omega)]; rfl
  · rw [h.cellAt _ (by omega), tflat_get M k hk 1 (by omega)]; rfl
  · rw [h.cellAt _ (by omega), tflat_get M k hk 2 (by omega)]; rfl
  · rw [h.cellAt _ (by omega), tflat_get M k hk 3 (by omega)]; rfl
theorem row_tput {w : World} {base g n c : Nat} {M : List TC} (h : w.ownsRow base 29 4 (.slice (some ⟨g, 0, none⟩) n c) n (tflat M)) (k : Nat) (f : TC) :
    ((((w.setCell ⟨g, k * 4, none⟩ (.string f.t.name)).setCell ⟨g, k * 4 + 1, none⟩ (.int .i64 f.t.base)).setCell ⟨g, k * 4 + 2, none⟩ (.slice f.A f.t.held.length f.c)).setCell ⟨g, k * 4 + 3, none⟩ (.slice f.B f.t.groups.length f.d)).ownsRow base 29 4 (.slice (some ⟨g, 0, none⟩) n c) n (tflat (M.set k f)) := by
  have h1 := (h.stored (k * 4) (.string f.t.name)).1
  have h2 := (h1.stored (k * 4 + 1) (.int .i64 f.t.base)).1
  have h3 := (h2.stored (k * 4 + 2) (.slice f.A f.t.held.length f.c)).1
  have h4 := (h3.stored (k * 4 + 3) (.slice f.B f.t.groups.length f.d)).1
  rw [tflat_set] at h4
  exact h4
/-- The rows of topics, each in a piece of memory of its own, one behind the other. -/
def Lay (w : World) : Nat → List TC → Nat → Prop
  | lo, [], hi => lo ≤ hi
  | lo, m :: M, hi => ∃ mid, lo ≤ mid ∧ Rw w lo mid 9 1 (.slice m.A m.t.held.length m.c) m.t.held.length (m.t.held.map Value.string) ∧ Rw w lo mid 68 2 (.slice m.B m.t.groups.length m.d) m.t.groups.length (gflat m.t.groups) ∧
      (∀ g, m.A.map (·.block) = some g → ∀ h, m.B.map (·.block) = some h → g < h) ∧ Lay w mid M hi
theorem Lay.le {w : World} : ∀ {M : List TC} {lo hi : Nat}, Lay w lo M hi → lo ≤ hi
  | [], _, _, h => h
  | _ :: _, _, _, ⟨_, h0, _, _, _, h⟩ => Nat.le_trans h0 h.le
theorem Lay.below {w w' : World} (hb : Below w.heap.size w w') : ∀ {M : List TC} {lo hi : Nat}, Lay w lo M hi → Lay w' lo M hi
  | [], _, _, h => h
  | _ :: _, _, _, ⟨mid, h0, h1, h2, h3, h⟩ => ⟨mid, h0, h1.below hb, h2.below hb, h3, h.below hb⟩
theorem Lay.far {w w' : World} {row : Option Nat} (hg : w.grownBy w' row) {lo' hi' : Nat} (hr : ∀ k, row = some k → lo' ≤ k ∧ k < hi') : ∀ {M : List TC} {lo hi : Nat}, Lay w lo M hi → (hi ≤ lo' ∨ hi' ≤ lo) → Lay w' lo M hi
  | [], _, _, h, _ => h
  | _ :: _, _, _, ⟨mid, h0, h1, h2, h3, h⟩, ho => ⟨mid, h0, h1.far hg hr (by have := h.le; omega), h2.far hg hr (by have := h.le; omega), h3, Lay.far hg hr h (by omega)⟩
theorem Lay.snoc {w : World} {m : TC} {hi hi' : Nat} (h0 : hi ≤ hi') (h1 : Rw w hi hi' 9 1 (.slice m.A m.t.held.length m.c) m.t.held.length (m.t.held.map Value.string)) (h2 : Rw w hi hi' 68 2 (.slice m.B m.t.groups.length m.d) m.t.groups.length (gflat m.t.groups))
    (h3 : ∀ g, m.A.map (·.block) = some g → ∀ h, m.B.map (·.block) = some h → g < h) : ∀ {M : List TC} {lo : Nat}, Lay w lo M hi → Lay w lo (M ++ [m]) hi'
  | [], lo, h => ⟨hi', by have : lo ≤ hi := h; omega, ⟨own_base h1.1 h, h1.2⟩, ⟨own_base h2.1 h, h2.2⟩, h3, Nat.le_refl _⟩
  | _ :: _, _, ⟨mid, q0, q1, q2, q3, h⟩ => ⟨mid, q0, q1, q2, q3, Lay.snoc h0 h1 h2 h3 h⟩
theorem Lay.get {w : World} : ∀ {M : List TC} {lo hi : Nat}, Lay w lo M hi → ∀ i (h : i < M.length), Strs w w.heap.size M[i].A M[i].t.held ∧ Grs w w.heap.size M[i].B M[i].t.groups
  | [], _, _, _, i, h => absurd h (by simp)
  | m :: M, _, _, ⟨_, _, h1, h2, _, h⟩, i, hi => by
    cases i with
    | zero => exact ⟨h1.strs, h2.grs⟩
    | succ i => exact h.get i (by simpa using hi)
theorem OwnT.tops {w : World} {base n c lo hi : Nat} {A : Option Addr} {M : List TC} (h : OwnT w base (.slice A n c) M) (hl : Lay w lo M hi) : Tops w w.heap.size A (M.map (·.t)) := by
  rcases h.2 with ⟨hv, hz⟩ | ⟨g, cap, cur, hv, hb, hg, hl', hm, hs, ht⟩
  · have : M = [] := List.eq_nil_of_length_eq_zero hz
    subst this
    exact ⟨by simp [maxLen], fun i h => absurd h (by simp)⟩
  · have hv' := hv
    injection hv with e1 e2 e3
    subst e1
    refine ⟨by simp; omega, fun i hi => ?_⟩
    have hi' : i < M.length := by simpa using hi
    have hc := World.ownsRow.cells h (g := g) (by rw [hv']; rfl)
    have k0 := hc (i * 4 + 0) _ (by rw [tflat_get M i hi' 0 (by omega)]; rfl)
    have k1 := hc (i * 4 + 1) _ (by rw [tflat_get M i hi' 1 (by omega)]; rfl)
    have k2 := hc (i * 4 + 2) _ (by rw [tflat_get M i hi' 2 (by omega)]; rfl)
    have k3 := hc (i * 4 + 3) _ (by rw [tflat_get M i hi' 3 (by omega)]; rfl)
    obtain ⟨g1, g2⟩ := hl.get i hi'
    simp only [List.getElem_map]
    exact ⟨⟨g, 0, none⟩, rfl, (Array.getElem?_eq_some_iff.1 hg).1, _, _, _, _, k0, k1, k2, k3, g1, g2⟩
end Go.Proofs.Ytkimieeabmjfgaa

namespace Go.Proofs.Ytkimieeabmjfgaa
open Go.RowKit
set_option linter.unusedVariables false

theorem l03Is_any (n a b : Int) (w : World) : Calls Try.prog 40 #[.int .i64 n, .int .i64 a, .int .i64 b] w fun e w' => e = .returned (.bool (decide (a ≤ n) && decide (n ≤ b))) ∧ w' = w := by
  by_cases h : a ≤ n
  · go_enter Try.func40, Try.ntmps40
    go_wp2
    go_ret
    simp [h]
  · go_enter Try.func40, Try.ntmps40
    go_wp2
    go_ret
    have h' : n < a := by omega
    simp
    intro h2
    omega
end Go.Proofs.Ytkimieeabmjfgaa
