/- Contracts: spec.NameRight and impl.NameRight both answer nameB of their string. Topics as the program holds them in memory: groups are structs of two cells, read out of slices. Strings and groups appended to rows of the call's own, out of slices that are read. Contract of spec.l03Is: whether a number lies within two others. -/
import Derived.Test.YtjnbhppnchmeoaaDrawW
import Derived.WalkKit
import Derived.Below
import Derived.Lib.Hide
import Derived.Test.YtjnbhppnchmeoaaRwkW
import Derived.Test.YtjnbhppnchmeoaaStrArgW
import Derived.Deep.Slices
import Derived.Deep.Fields
import Derived.ChangeSame
import Derived.Lib.SmallJoins
import Derived.WideShapes
import Derived.Laws.AppendOwnNone
namespace Go.Proofs.Ytjnbhppnchmeoaa
open Go.RowKit
set_option linter.unusedVariables false

def letB (n : Int) : Bool := decide (97 ≤ n ∧ n ≤ 122)
def nameByteB (n : Int) : Bool := decide ((97 ≤ n ∧ n ≤ 122) ∨ (48 ≤ n ∧ n ≤ 57) ∨ n = 95)
def okAt (k : Nat) (n : Int) : Bool := decide ((97 ≤ n ∧ n ≤ 122) ∨ (0 < k ∧ ((48 ≤ n ∧ n ≤ 57) ∨ n = 95)))
def OkUpto (s : ByteArray) (m : Nat) : Prop := ∀ k (h : k < s.size), k < m → okAt k (s[k].toNat : Int) = true
noncomputable def nameB (s : ByteArray) : Bool := @decide (1 ≤ s.size ∧ s.size ≤ 20 ∧ OkUpto s s.size) (Classical.propDecidable _)

theorem okAt_cases (k : Nat) (n : Int) : okAt k n = true ∨ okAt k n = false := by cases okAt k n <;> simp
theorem okUpto_zero (s : ByteArray) : OkUpto s 0 := fun k _ h => absurd h (Nat.not_lt_zero k)
theorem okUpto_succ {s : ByteArray} {m : Nat} (hm : m < s.size) (h : OkUpto s m) (hk : okAt m (s[m].toNat : Int) = true) : OkUpto s (m + 1) := by
  intro k hks hkm
  by_cases e : k = m
  · subst e; exact hk
  · exact h k hks (by omega)
theorem nameB_true {s : ByteArray} (h1 : 1 ≤ s.size) (h2 : s.size ≤ 20) (h : OkUpto s s.size) : nameB s = true := by
  unfold nameB; exact @decide_eq_true _ (Classical.propDecidable _) ⟨h1, h2, h⟩
theorem nameB_false {s : ByteArray} (h : ¬ (1 ≤ s.size ∧ s.size ≤ 20 ∧ OkUpto s s.size)) : nameB s = false := by
  unfold nameB; exact @decide_eq_false _ (Classical.propDecidable _) h
theorem nameB_false_at {s : ByteArray} {m : Nat} (hm : m < s.size) (hk : okAt m (s[m].toNat : Int) = false) : nameB s = false :=
  nameB_false fun h => by have := h.2.2 m hm hm; rw [hk] at this; cases this

set_option maxHeartbeats 400000 in
theorem isLetter_any (n : Int) (w : World) :
    Calls Try.prog 111 #[.int .u8 n] w fun e w' => e = .returned (.bool (letB n)) ∧ w = w' := by
  by_cases h1 : 97 ≤ n <;> by_cases h2 : n ≤ 122
  all_goals
    go_enter Try.func111, Try.ntmps111
    go_wp2
    go_ret
    exact ⟨retB (by simp [letB] <;> omega), rfl⟩

set_option maxHeartbeats 400000 in
theorem isNameByte_any (n : Int) (w : World) :
    Calls Try.prog 112 #[.int .u8 n] w fun e w' => e = .returned (.bool (nameByteB n)) ∧ w = w' := by
  by_cases h1 : 97 ≤ n <;> by_cases h2 : n ≤ 122 <;> by_cases h3 : 48 ≤ n <;> by_cases h4 : n ≤ 57 <;> by_cases h5 : n = 95 <;> try omega
  all_goals
    go_enter Try.func112, Try.ntmps112
    go_wp2
    go_ret
    exact ⟨retB (by simp [nameByteB] <;> omega), rfl⟩

theorem boolWays (p : Prop) [Decidable p] : (p ∧ decide p = true) ∨ (¬ p ∧ decide p = false) := by by_cases h : p <;> simp [h]
theorem byteWays (n : Int) : n < 48 ∨ (48 ≤ n ∧ n ≤ 57) ∨ (58 ≤ n ∧ n ≤ 94) ∨ n = 95 ∨ n = 96 ∨ (97 ≤ n ∧ n ≤ 122) ∨ 122 < n := by omega

set_option maxHeartbeats 1000000 in
theorem specNameRight_any (s : ByteArray) (w : World) (hs : s.size ≤ maxLen) :
    Calls Try.prog 68 #[.string s] w fun e w' => e = .returned (.bool (nameB s)) ∧ w = w' := by
  unfold maxLen at hs
  by_cases h1 : 1 ≤ s.size
  · by_cases h2 : s.size ≤ 20
    · go_enter Try.func68, Try.ntmps68
      go_wp2
      go_loop [3] (fun i => ∃ k : Nat, k ≤ s.size ∧ OkUpto s k ∧ i = .int .i64 k) (fun i => s.size - (intOf i).toNat)
      case atStart => exact ⟨0, Nat.zero_le _, okUpto_zero s, rfl⟩
      case round =>
        obtain ⟨k, hk, hok, rfl⟩ := hrel
        by_cases hlt : k < s.size
        · have HN := Lib.hid (fun h => okUpto_succ hlt hok h)
          have HF := Lib.hid (fun h => nameB_false_at hlt h)
          clear hok
          obtain ⟨n, hn⟩ : ∃ n : Int, n = (s[k].toNat : Int) := ⟨_, rfl⟩
          rw [← hn] at HN HF
          have HE := Lib.hid hn
          clear hn
          rcases Nat.eq_zero_or_pos k with hk0 | hk0
          · subst hk0
            rcases byteWays n with h | h | h | h | h | h | h
            all_goals
              rw [HE.out] at h
              have q1 := boolWays ((s[0].toNat : Int) ≤ 122)
              have q2 := boolWays ((s[0].toNat : Int) ≤ 57)
              have q3 : ((s[0].toNat : Int) != 95) = true ∨ ((s[0].toNat : Int) != 95) = false := by cases ((s[0].toNat : Int) != 95) <;> simp
              rcases q1 with ⟨r1, q1⟩ | ⟨r1, q1⟩ <;> rcases q2 with ⟨r2, q2⟩ | ⟨r2, q2⟩ <;> try omega
              all_goals
                rcases q3 with q3 | q3 <;> (try (simp only [bne_iff_ne, bne_eq_false_iff_eq, ne_eq] at q3; omega))
                go_wp2
                first
                | (go_round
                   case rel => exact ⟨1, by omega, HN.out (by rw [HE.out]; simp [okAt]; omega), by go_num⟩
                   case measure => simp [intOf]; omega)
                | (go_ret
                   exact ⟨(congrArg _ (congrArg _ (HF.out (by rw [HE.out]; simp [okAt]; omega)))).symm, rfl⟩)
          · have q0 : ((k : Int) == 0) = false := by simp; omega
            rcases byteWays n with h | h | h | h | h | h | h
            all_goals
              rw [HE.out] at h
              have q1 := boolWays ((s[k].toNat : Int) ≤ 122)
              have q2 := boolWays ((s[k].toNat : Int) ≤ 57)
              have q3 : ((s[k].toNat : Int) != 95) = true ∨ ((s[k].toNat : Int) != 95) = false := by cases ((s[k].toNat : Int) != 95) <;> simp
              rcases q1 with ⟨r1, q1⟩ | ⟨r1, q1⟩ <;> rcases q2 with ⟨r2, q2⟩ | ⟨r2, q2⟩ <;> try omega
              all_goals
                rcases q3 with q3 | q3 <;> (try (simp only [bne_iff_ne, bne_eq_false_iff_eq, ne_eq] at q3; omega))
                go_wp2
                first
                | (go_round
                   case rel => exact ⟨k + 1, by omega, HN.out (by rw [HE.out]; simp [okAt]; omega), by go_num⟩
                   case measure => simp [intOf]; omega)
                | (go_ret
                   exact ⟨(congrArg _ (congrArg _ (HF.out (by rw [HE.out]; simp [okAt]; omega)))).symm, rfl⟩)
        · go_wp2
          go_ret
          exact ⟨(congrArg _ (congrArg _ (nameB_true h1 h2 ((show k = s.size by omega) ▸ hok)))).symm, rfl⟩
    · go_enter Try.func68, Try.ntmps68
      go_wp2
      go_ret
      rw [nameB_false (by omega)]
      exact ⟨rfl, rfl⟩
  · go_enter Try.func68, Try.ntmps68
    go_wp2
    go_ret
    rw [nameB_false (by omega)]
    exact ⟨rfl, rfl⟩

def NbUpto (s : ByteArray) (m : Nat) : Prop := ∀ k (h : k < s.size), k < m → nameByteB (s[k].toNat : Int) = true
theorem nbUpto_zero (s : ByteArray) : NbUpto s 0 := fun k _ h => absurd h (Nat.not_lt_zero k)
theorem nbUpto_succ {s : ByteArray} {m : Nat} (hm : m < s.size) (h : NbUpto s m) (hk : nameByteB (s[m].toNat : Int) = true) : NbUpto s (m + 1) := by
  intro k hks hkm
  by_cases e : k = m
  · subst e; exact hk
  · exact h k hks (by omega)
theorem okUpto_of_nb {s : ByteArray} {m : Nat} (h1 : 0 < s.size) (h0 : letB (s[0].toNat : Int) = true) (h : NbUpto s m) : OkUpto s m := by
  intro k hks hkm
  have hk := h k hks hkm
  rcases Nat.eq_zero_or_pos k with rfl | hp
  · simp [letB] at h0; simp [okAt]; omega
  · simp [nameByteB] at hk; simp [okAt]; omega
theorem okAt_of_let {s : ByteArray} (h1 : 0 < s.size) (h0 : letB (s[0].toNat : Int) = false) : nameB s = false :=
  nameB_false_at h1 (by simp [letB] at h0; simp [okAt]; omega)
theorem okAt_of_nb {s : ByteArray} {k : Nat} (h1 : k < s.size) (h0 : nameByteB (s[k].toNat : Int) = false) : nameB s = false :=
  nameB_false_at h1 (by simp [nameByteB] at h0; simp [okAt]; omega)

set_option maxHeartbeats 1000000 in
theorem implNameRight_any (s : ByteArray) (w : World) (hs : s.size ≤ maxLen) :
    Calls Try.prog 63 #[.string s] w fun e w' => e = .returned (.bool (nameB s)) ∧ w = w' := by
  unfold maxLen at hs
  by_cases h1 : 1 ≤ s.size
  · have h1' : 0 < s.size := h1
    by_cases h2 : s.size ≤ 20
    · rcases Bool.eq_false_or_eq_true (letB (s[0].toNat : Int)) with hl | hl
      · go_enter Try.func63, Try.ntmps63
        go_wp2_with (go_at_call 111; refine (isLetter_any _ _).mono ?_; rintro e w' ⟨rfl, rfl⟩)
        have HL := Lib.hid hl
        clear hl
        go_loop [20] (fun i => ∃ k : Nat, k ≤ s.size ∧ NbUpto s k ∧ i = .int .i64 k) (fun i => s.size - (intOf i).toNat)
        case atStart => exact ⟨0, Nat.zero_le _, nbUpto_zero s, rfl⟩
        case round =>
          obtain ⟨k, hk, hok, rfl⟩ := hrel
          by_cases hlt : k < s.size
          · rcases Bool.eq_false_or_eq_true (nameByteB (s[k].toNat : Int)) with hb | hb
            · have HN := Lib.hid (nbUpto_succ hlt hok hb)
              clear hok
              go_wp2_with (go_at_call 112; refine (isNameByte_any _ _).mono ?_; rintro e w' ⟨rfl, rfl⟩)
              go_round
              case rel => exact ⟨k + 1, by omega, HN.out, by go_num⟩
              case measure => simp [intOf]; omega
            · clear hok
              go_wp2_with (go_at_call 112; refine (isNameByte_any _ _).mono ?_; rintro e w' ⟨rfl, rfl⟩)
              go_ret
              exact ⟨(congrArg _ (congrArg _ (okAt_of_nb hlt hb))).symm, rfl⟩
          · have HO := Lib.hid hok
            clear hok
            go_wp2
            go_ret
            exact ⟨(congrArg _ (congrArg _ (nameB_true h1 h2 (okUpto_of_nb h1' HL.out ((show k = s.size by omega) ▸ HO.out))))).symm, rfl⟩
      · go_enter Try.func63, Try.ntmps63
        go_wp2_with (go_at_call 111; refine (isLetter_any _ _).mono ?_; rintro e w' ⟨rfl, rfl⟩)
        go_ret
        exact ⟨(congrArg _ (congrArg _ (okAt_of_let h1' hl))).symm, rfl⟩
    · go_enter Try.func63, Try.ntmps63
      go_wp2
      go_ret
      rw [nameB_false (by omega)]
      exact ⟨rfl, rfl⟩
  · go_enter Try.func63, Try.ntmps63
    go_wp2
    go_ret
    rw [nameB_false (by omega)]
    exact ⟨rfl, rfl⟩

end Go.Proofs.Ytjnbhppnchmeoaa

namespace Go.Proofs.Ytjnbhppnchmeoaa
open Go.RowKit Go.ChangeShapes Go.WideShapes Go.Deep
set_option linter.unusedVariables false

/-- A group. -/
structure Grp where
  name : ByteArray
  acked : Int
  deriving Inhabited
namespace Grp
def cells (f : Grp) : List Value := [.string f.name, .int .i64 f.acked]
def val (f : Grp) : Value := .agg #[.string f.name, .int .i64 f.acked]
/-- What every group keeps to: its name is no longer than a machine allows, its number is one of 64 bits. -/
def fits (f : Grp) : Prop := f.name.size ≤ maxLen ∧ -9223372036854775808 ≤ f.acked ∧ f.acked ≤ 9223372036854775807
end Grp
/-- A topic. -/
structure Tpc where
  name : ByteArray
  base : Int
  held : List ByteArray
  groups : List Grp
/-- The value of a topic. -/
abbrev topV (n : ByteArray) (b : Int) (h g : Value) : Value := .agg #[.string n, .int .i64 b, h, g]
/-- What every topic keeps to. -/
def Tpc.fits (t : Tpc) : Prop := t.name.size ≤ maxLen ∧ (-9223372036854775808 ≤ t.base ∧ t.base ≤ 9223372036854775807) ∧ (∀ s ∈ t.held, s.size ≤ maxLen) ∧ ∀ g ∈ t.groups, g.fits
/-- The groups of a slice, below block B. -/
def Grs (w : World) (B : Nat) (A : Option Addr) (L : List Grp) : Prop :=
  L.length ≤ maxLen ∧ ∀ i (h : i < L.length), ∃ a, A = some a ∧ a.block < B ∧ w.cell? (a.add (i * 2)) = some (.string L[i].name) ∧ w.cell? (a.add (i * 2 + 1)) = some (.int .i64 L[i].acked)
theorem Grs.of_block {w w' : World} {B : Nat} {A : Option Addr} {L : List Grp} (h : Grs w B A L) (hb : ∀ k, k < B → w'.heap[k]? = w.heap[k]?) : Grs w' B A L :=
  ⟨h.1, fun i hi => by
    obtain ⟨a, e, h1, h2, h3⟩ := h.2 i hi
    refine ⟨a, e, h1, ?_, ?_⟩
    · rw [World.cell?_of_block (a := a.add _) (hb _ (by rw [add_blk]; exact h1))]; exact h2
    · rw [World.cell?_of_block (a := a.add _) (hb _ (by rw [add_blk]; exact h1))]; exact h3⟩
theorem Grs.mono {w : World} {B B' : Nat} {A : Option Addr} {L : List Grp} (h : Grs w B A L) (hb : B ≤ B') : Grs w B' A L :=
  ⟨h.1, fun i hi => by
    obtain ⟨a, e, h1, h2⟩ := h.2 i hi
    exact ⟨a, e, by omega, h2⟩⟩
theorem Grs.below {w w' : World} {B C : Nat} {A : Option Addr} {L : List Grp} (h : Grs w B A L) (hb : Below C w w') (hC : B ≤ C) : Grs w' B A L := h.of_block fun k hk => hb.block k (by omega)
theorem Grs.on {w w' : World} {A : Option Addr} {L : List Grp} (h : Grs w w.heap.size A L) (hb : Below w.heap.size w w') : Grs w' w'.heap.size A L := (h.below hb (Nat.le_refl _)).mono hb.size
theorem Strs.on {w w' : World} {A : Option Addr} {L : List ByteArray} (h : Strs w w.heap.size A L) (hb : Below w.heap.size w w') : Strs w' w'.heap.size A L := (h.below hb (Nat.le_refl _)).mono hb.size
/-- A group of a slice, its cells as a walk asks for them. -/
theorem Grs.at {w : World} {B : Nat} {A : Option Addr} {L : List Grp} (h : Grs w B A L) (i : Nat) (hi : i < L.length) :
    ∃ a, A = some a ∧ a.block < B ∧ w.cell? (a.add (i * 2)) = some (.string L[i].name) ∧ w.cell? ⟨(a.add (i * 2)).block, (a.add (i * 2)).off + 1, none⟩ = some (.int .i64 L[i].acked) := by
  obtain ⟨a, e, h1, h2, h3⟩ := h.2 i hi
  exact ⟨a, e, h1, h2, by rw [add_far]; exact h3⟩

/-- The cells of groups, one behind the other. -/
def gflat (L : List Grp) : List Value := L.flatMap Grp.cells
theorem gflat_nil : gflat [] = [] := rfl
theorem gflat_cons (f : Grp) (L : List Grp) : gflat (f :: L) = .string f.name :: .int .i64 f.acked :: gflat L := rfl
theorem gflat_append (L M : List Grp) : gflat (L ++ M) = gflat L ++ gflat M := by simp [gflat]
theorem gflat_len (L : List Grp) : (gflat L).length = L.length * 2 := by
  induction L with
  | nil => rfl
  | cons f L ih => rw [gflat_cons]; simp only [List.length_cons, ih]; omega
theorem gflat_get (L : List Grp) : ∀ (i : Nat) (hi : i < L.length) (r : Nat), r < 2 → (gflat L)[i * 2 + r]? = L[i].cells[r]? := by
  induction L with
  | nil => intro i hi; simp at hi
  | cons f L ih =>
    intro i hi r hr
    rw [gflat_cons]
    cases i with
    | zero =>
      match r, hr with
      | 0, _ => rfl
      | 1, _ => rfl
    | succ i =>
      rw [show (i + 1) * 2 + r = (i * 2 + r) + 1 + 1 by omega]
      simp only [List.getElem?_cons_succ, List.getElem_cons_succ]
      exact ih i (by simpa using hi) r hr
theorem gflat_set (f : Grp) : ∀ (L : List Grp) (i : Nat), ((gflat L).set (i * 2) (.string f.name)).set (i * 2 + 1) (.int .i64 f.acked) = gflat (L.set i f) := by
  intro L
  induction L with
  | nil => intro i; simp [gflat]
  | cons g L ih =>
    intro i
    cases i with
    | zero => rfl
    | succ i =>
      rw [gflat_cons, show (i + 1) * 2 = i * 2 + 1 + 1 by omega, List.set_cons_succ, List.set_cons_succ, List.set_cons_succ, List.set_cons_succ]
      rw [List.set_cons_succ, gflat_cons, ← ih i]
theorem gflat_one (L : List Grp) : ∀ u ∈ gflat L, u.oneCell' = true := by
  intro u hu
  obtain ⟨f, _, h⟩ := List.mem_flatMap.1 hu
  simp [Grp.cells] at h
  rcases h with rfl | rfl <;> rfl
def zeroGrp : Grp := ⟨⟨#[]⟩, 0⟩
theorem gflat_made (n : Nat) : (madeCells #[.string ⟨#[]⟩, .int .i64 0] (n * 2)).toList = gflat (List.replicate n zeroGrp) := by
  apply List.ext_getElem?
  intro j
  by_cases hj : j < n * 2
  · have h := gflat_get (List.replicate n zeroGrp) (j / 2) (by simp; omega) (j % 2) (by omega)
    rw [show j / 2 * 2 + j % 2 = j by omega] at h
    rw [h]
    have : j % 2 = 0 ∨ j % 2 = 1 := by omega
    rcases this with e | e <;> simp [madeCells, hj, e, zeroGrp, Grp.cells]
  · rw [List.getElem?_eq_none (l := gflat _) (by rw [gflat_len]; simp; omega)]
    simp [madeCells]
    omega
/-- A row of groups of the call's own. -/
def OwnG (w : World) (base : Nat) (v : Value) (L : List Grp) : Prop := w.ownsRow base 94 2 v L.length (gflat L)
theorem OwnG.slice {w : World} {base : Nat} {v : Value} {L : List Grp} (h1 : OwnG w base v L) : ∃ A c, v = .slice A L.length c ∧ Grs w w.heap.size A L := by
  rcases h1.2 with ⟨rfl, hz⟩ | ⟨g, cap, cur, rfl, hb, hg, hl, hm, hs, ht⟩
  · have : L = [] := List.eq_nil_of_length_eq_zero hz
    subst this
    exact ⟨none, 0, rfl, by simp [maxLen], fun i h => absurd h (by simp)⟩
  · refine ⟨some ⟨g, 0, none⟩, cap, rfl, by omega, fun i hi => ?_⟩
    have hc := World.ownsRow.cells h1 (g := g) rfl
    have k0 := hc (i * 2 + 0) _ (by rw [gflat_get L i hi 0 (by omega)]; rfl)
    have k1 := hc (i * 2 + 1) _ (by rw [gflat_get L i hi 1 (by omega)]; rfl)
    exact ⟨⟨g, 0, none⟩, rfl, (Array.getElem?_eq_some_iff.1 hg).1, k0, k1⟩
theorem OwnG.grs {w : World} {base c n : Nat} {A : Option Addr} {L : List Grp} (h : OwnG w base (.slice A n c) L) : Grs w w.heap.size A L := by
  obtain ⟨A', c', e, hf⟩ := h.slice
  cases e
  exact hf
theorem Rw.grs {w : World} {lo hi n c : Nat} {A : Option Addr} {L : List Grp} (h : Rw w lo hi 94 2 (.slice A n c) L.length (gflat L)) : Grs w w.heap.size A L := OwnG.grs (base := lo) (c := c) (n := n) h.1
theorem infoGrp : (Try.prog.info? 94).map (fun i => (i.zero, i.size, i.bytes)) = some (some (.agg #[.string ⟨#[]⟩, .int .i64 0]), 2, 24) := by kernel_rfl
/-- The two cells of one group of an owned row, as a store asks for them. -/
theorem row_grp {w : World} {base g n c : Nat} {M : List Grp} (h : w.ownsRow base 94 2 (.slice (some ⟨g, 0, none⟩) n c) n (gflat M)) {k : Nat} (hk : k < M.length) :
    w.cell? ⟨g, k * 2, none⟩ = some (.string M[k].name) ∧ w.cell? ⟨g, k * 2 + 1, none⟩ = some (.int .i64 M[k].acked) ∧
      w.frozen? ⟨g, k * 2, none⟩ = false ∧ w.frozen? ⟨g, k * 2 + 1, none⟩ = false := by
  have hl := h.1
  rw [gflat_len] at hl
  refine ⟨?_, ?_, h.frozenAt _, h.frozenAt _⟩
  · rw [h.cellAt _ (by omega), show k * 2 = k * 2 + 0 from rfl, gflat_get M k hk 0 (by omega)]; rfl
  · rw [h.cellAt _ (by omega), gflat_get M k hk 1 (by omega)]; rfl
theorem row_gput {w : World} {base g n c : Nat} {M : List Grp} (h : w.ownsRow base 94 2 (.slice (some ⟨g, 0, none⟩) n c) n (gflat M)) (k : Nat) (f : Grp) :
    ((w.setCell ⟨g, k * 2, none⟩ (.string f.name)).setCell ⟨g, k * 2 + 1, none⟩ (.int .i64 f.acked)).ownsRow base 94 2 (.slice (some ⟨g, 0, none⟩) n c) n (gflat (M.set k f)) := by
  have h1 := (h.stored (k * 2) (.string f.name)).1
  have h2 := (h1.stored (k * 2 + 1) (.int .i64 f.acked)).1
  rw [gflat_set] at h2
  exact h2
end Go.Proofs.Ytjnbhppnchmeoaa

namespace Go.Proofs.Ytjnbhppnchmeoaa
open Go.RowKit
set_option linter.unusedVariables false
set_option maxRecDepth 1000000

/-- What is known of the capacity of a slice. -/
structure Cap (A : Option Addr) (n c : Nat) : Prop where
  nil : A = none → c = 0
  le : n ≤ c
  max : c ≤ maxLen
theorem Cap.own {w : World} {lo n m c size : Nat} {e : TypeId} {A : Option Addr} {xs : List Value} (h : w.ownsRow lo e size (.slice A n c) m xs) : Cap A m c := by
  rcases h.2 with ⟨he, h0⟩ | ⟨g, cap, cur, he, hb, hg, hl, hm, _⟩
  · cases he; exact ⟨fun _ => rfl, by omega, by simp [maxLen]⟩
  · cases he; exact ⟨(fun e => by cases e), hl, hm⟩
theorem grown_same (w : World) (r : Option Nat) : w.grownBy w r := ⟨rfl, rfl, rfl, Nat.le_refl _, fun _ _ _ => rfl⟩
theorem strs_news {w : World} {B : Nat} {a : Addr} {L : List ByteArray} (h : Strs w B (some a) L) : ∀ j u, (L.map Value.string)[j]? = some u → w.cell? (a.add j) = some u := by
  intro j u hj
  have hjl : j < L.length := by have := (List.getElem?_eq_some_iff.1 hj).1; simpa using this
  obtain ⟨a', e, _, c0⟩ := h.2 j hjl
  cases e
  rw [c0, ← hj]
  simp [hjl]
theorem grs_news {w : World} {B : Nat} {a : Addr} {L : List Grp} (h : Grs w B (some a) L) : ∀ j u, (gflat L)[j]? = some u → w.cell? (a.add j) = some u := by
  intro j u hj
  have hjl : j < L.length * 2 := by rw [← gflat_len]; exact (List.getElem?_eq_some_iff.1 hj).1
  have hi : j / 2 < L.length := by omega
  have hg := gflat_get L (j / 2) hi (j % 2) (by omega)
  rw [show j / 2 * 2 + j % 2 = j by omega, hj] at hg
  obtain ⟨a', e, _, c0, c1⟩ := h.2 (j / 2) hi
  cases e
  have : j % 2 = 0 ∨ j % 2 = 1 := by omega
  rcases this with e | e
  · rw [e] at hg
    rw [show j = j / 2 * 2 by omega, c0]
    exact hg.symm
  · rw [e] at hg
    rw [show j = j / 2 * 2 + 1 by omega, c1]
    exact hg.symm
theorem strs_none {w : World} {B : Nat} {L : List ByteArray} (h : Strs w B none L) : L = [] := by
  cases L with
  | nil => rfl
  | cons f L => obtain ⟨a, e, _⟩ := h.2 0 (by simp); cases e
theorem grs_none {w : World} {B : Nat} {L : List Grp} (h : Grs w B none L) : L = [] := by
  cases L with
  | nil => rfl
  | cons f L => obtain ⟨a, e, _⟩ := h.2 0 (by simp); cases e
theorem wpList_app_str {ops : Array Oper} {rest : List Oper} {o : Oper} {a : Act} {w : World} {Q : Exit → Act → World → Prop} (hgd : o.guard = none) (s x : Operand)
    (ho : o.op = .call { callee := .builtin .append, args := #[s, x], argTypes := #[23, 23] })
    (base : Nat) (v : Value) (L : List ByteArray) (hs : a.eval s = v) (hown : OwnS w base v L) (B : Nat) (A : Option Addr) (M : List ByteArray) (c : Nat) (hx : a.eval x = .slice A M.length c) (hc : A = none → c = 0) (hM : Strs w B A M)
    (hlen : L.length + M.length ≤ 1000000) (hbase : base ≤ w.heap.size)
    (h : ∀ A' c' w', OwnS w' base (.slice A' (L ++ M).length c') (L ++ M) → w.grownBy w' v.ownBlock → wpList Try.prog ops Q rest (a.put o.dst (.slice A' (L ++ M).length c')) w') : wpList Try.prog ops Q (o :: rest) a w := by
  obtain ⟨i0, hi, hz0, hz1, hz2⟩ := info_parts infoStr
  have key : ∀ v' w', OwnS w' base v' (L ++ M) → w.grownBy w' v.ownBlock → wpList Try.prog ops Q rest (a.put o.dst v') w' := by
    intro v' w' h1 h2
    obtain ⟨A', c', rfl⟩ := ownS_some h1
    exact h A' c' w' h1 h2
  cases A with
  | none =>
    have hz := strs_none hM
    subst hz
    obtain rfl := hc rfl
    unfold OwnS at hown
    refine wpList_append_own_none hgd s x 23 ho base 9 i0 1 Try.underlying23 hi v _ _ hs hown (by rw [hx]; rfl) (key v w ?_ (grown_same _ _))
    rw [List.append_nil]; exact hown
  | some ad =>
    refine wpList_append_own w hgd s x 23 ho base 9 i0 (.string ⟨#[]⟩) 1 16 Try.underlying23 hi hz0 hz1 hz2 rfl (by decide) v _ _ hs hown ad M.length c (M.map Value.string) hx (by simp) (strs_news hM) (by intro u hu; obtain ⟨t, _, rfl⟩ := List.mem_map.1 hu; rfl) (by unfold maxLen; omega) (by omega) hbase ?_
    intro v' w' h1 h2 _
    refine key v' w' ?_ h2
    unfold OwnS
    rw [List.length_append, List.map_append]
    exact h1
theorem wpList_app_grp {ops : Array Oper} {rest : List Oper} {o : Oper} {a : Act} {w : World} {Q : Exit → Act → World → Prop} (hgd : o.guard = none) (s x : Operand)
    (ho : o.op = .call { callee := .builtin .append, args := #[s, x], argTypes := #[24, 24] })
    (base : Nat) (v : Value) (L : List Grp) (hs : a.eval s = v) (hown : OwnG w base v L) (B : Nat) (A : Option Addr) (M : List Grp) (c : Nat) (hx : a.eval x = .slice A M.length c) (hc : A = none → c = 0) (hM : Grs w B A M)
    (hlen : L.length + M.length ≤ 1000000) (hbase : base ≤ w.heap.size)
    (h : ∀ A' c' w', OwnG w' base (.slice A' (L ++ M).length c') (L ++ M) → w.grownBy w' v.ownBlock → wpList Try.prog ops Q rest (a.put o.dst (.slice A' (L ++ M).length c')) w') : wpList Try.prog ops Q (o :: rest) a w := by
  obtain ⟨i0, hi, hz0, hz1, hz2⟩ := info_parts infoGrp
  have key : ∀ v' w', OwnG w' base v' (L ++ M) → w.grownBy w' v.ownBlock → wpList Try.prog ops Q rest (a.put o.dst v') w' := by
    intro v' w' h1 h2
    obtain ⟨A', c', rfl, _⟩ := h1.slice
    exact h A' c' w' h1 h2
  cases A with
  | none =>
    have hz := grs_none hM
    subst hz
    obtain rfl := hc rfl
    unfold OwnG at hown
    refine wpList_append_own_none hgd s x 24 ho base 94 i0 2 Try.underlying24 hi v _ _ hs hown (by rw [hx]; rfl) (key v w ?_ (grown_same _ _))
    rw [List.append_nil]; exact hown
  | some ad =>
    refine wpList_append_own w hgd s x 24 ho base 94 i0 (.agg #[.string ⟨#[]⟩, .int .i64 0]) 2 24 Try.underlying24 hi hz0 hz1 hz2 rfl (by decide) v _ _ hs hown ad M.length c (gflat M) hx (gflat_len M) (grs_news hM) (gflat_one M) (by unfold maxLen; omega) (by omega) hbase ?_
    intro v' w' h1 h2 _
    refine key v' w' ?_ h2
    unfold OwnG
    rw [List.length_append, gflat_append]
    exact h1
theorem strs_one (w : World) (s : ByteArray) (t : TypeId) : Strs (w.alloc (.cells #[.string s] t)) (w.heap.size + 1) (some ⟨w.heap.size, 0, none⟩) [s] := by
  refine ⟨by simp [maxLen], fun i hi => ⟨_, rfl, by simp, ?_⟩⟩
  exact one_cell w (.string s) t i _ (by simp at hi; subst hi; rfl)
theorem grs_one (w : World) (g : Grp) (t : TypeId) : Grs (w.alloc (.cells #[.string g.name, .int .i64 g.acked] t)) (w.heap.size + 1) (some ⟨w.heap.size, 0, none⟩) [g] := by
  have h := Blk.fresh w t [.string g.name, .int .i64 g.acked]
  refine ⟨by simp [maxLen], fun i hi => ⟨_, rfl, by simp, ?_, ?_⟩⟩
  · obtain rfl : i = 0 := by simp at hi; omega
    rw [add_none]; exact h.cell (i := 0) rfl
  · obtain rfl : i = 0 := by simp at hi; omega
    rw [add_none]; exact h.cell (i := 1) rfl
/-- Rows of different kinds lie in different blocks. -/
theorem own_apart {w : World} {b b' s s' n m : Nat} {t t' : TypeId} {u v : Value} {xs ys : List Value} (h : w.ownsRow b t s u n xs) (h2 : w.ownsRow b' t' s' v m ys) (ht : t ≠ t') : u.ownBlock = none ∨ u.ownBlock ≠ v.ownBlock := by
  rcases h.2 with ⟨he, _⟩ | ⟨g, cap, cur, he, _, hg, _⟩
  · rw [he]; exact .inl rfl
  · refine .inr fun e => ?_
    rw [he] at e
    rcases h2.2 with ⟨he2, _⟩ | ⟨g2, cap2, cur2, he2, _, hg2, _⟩
    · rw [he2] at e; cases e
    · rw [he2] at e
      cases e
      rw [hg] at hg2
      injection hg2 with hg2
      injection hg2 with _ h4 _
      exact ht h4
theorem own_not {w : World} {b s n g : Nat} {t t' : TypeId} {v : Value} {xs cs : List Value} (h : w.ownsRow b t s v n xs) (hB : Blk w g t' cs) (ht : t ≠ t') : v.ownBlock ≠ some g := by
  intro e
  rcases h.2 with ⟨he, _⟩ | ⟨k, cap, cur, he, _, hg, _⟩
  · rw [he] at e; cases e
  · rw [he] at e
    cases e
    unfold Blk at hB
    rw [hg] at hB
    injection hB with hB
    injection hB with _ h4 _
    exact ht h4
theorem own_empty (w : World) (t : TypeId) (s : Nat) (hs : 0 < s) : (w.alloc (.cells #[] t)).ownsRow w.heap.size t s (.slice (some ⟨w.heap.size, 0, none⟩) 0 0) 0 [] :=
  ⟨by simp, .inr ⟨w.heap.size, 0, #[], rfl, Nat.le_refl _, by have := heap_alloc_new w (.cells #[] t); simpa using this, Nat.le_refl _, by simp [maxLen], by simp, by simp⟩⟩
/-- A world that grew at one row of the call's own is still as it was below. -/
theorem below_row {B : Nat} {w w' w2 : World} {row : Option Nat} (hb : Below B w w') (hB : B ≤ w.heap.size) (hg : w'.grownBy w2 row) (hr : ∀ k, row = some k → B ≤ k) : Below B w w2 := hb.grown hg (Nat.le_trans hB hb.size) hr
end Go.Proofs.Ytjnbhppnchmeoaa

namespace Go.Proofs.Ytjnbhppnchmeoaa
open Go.RowKit
set_option linter.unusedVariables false

theorem l03Is_any (n a b : Int) (w : World) : Calls Try.prog 69 #[.int .i64 n, .int .i64 a, .int .i64 b] w fun e w' => e = .returned (.bool (decide (a ≤ n) && decide (n ≤ b))) ∧ w' = w := by
  by_cases h : a ≤ n
  · go_enter Try.func69, Try.ntmps69
    go_wp2
    go_ret
    simp [h]
  · go_enter Try.func69, Try.ntmps69
    go_wp2
    go_ret
    have h' : n < a := by omega
    simp
    intro h2
    omega
end Go.Proofs.Ytjnbhppnchmeoaa
