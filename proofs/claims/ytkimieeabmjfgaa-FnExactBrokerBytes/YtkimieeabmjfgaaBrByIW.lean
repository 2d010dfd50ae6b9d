/- The encoding of a command. The encoding of a broker: plain mathematics. The contract of impl.topicBytes. The contract of impl.BrokerBytes. -/
import Derived.Test.YtkimieeabmjfgaaTextW
import Derived.Test.YtkimieeabmjfgaaTpRSW
import Derived.Test.YtkimieeabmjfgaaBrToW
import Derived.Test.YtkimieeabmjfgaaStrArgW
namespace Go.Proofs.Ytkimieeabmjfgaa
open Go.RowKit
set_option linter.unusedVariables false

def numS (n : Int) : ByteArray := strOfNums (vint (zig n))
theorem numS_size (n : Int) : (numS n).size = (vint (zig n)).length := strOfNums_size _
def Cmd.zero : Cmd := ⟨0, 0, 0, ⟨#[]⟩, ⟨#[]⟩, ⟨#[]⟩, 0⟩
/-- Its encoding. -/
def Cmd.enc (c : Cmd) : ByteArray := numS c.client ++ numS c.number ++ numS c.kind ++ ptext c.topic ++ ptext c.group ++ ptext c.text ++ numS c.n
/-- CommandBytes. -/
noncomputable def cmdBytes (c : Cmd) : ByteArray := if cmdB c = true then c.enc else ⟨#[]⟩
theorem name_size {s : ByteArray} (h : nameB s = true) : s.size ≤ 20 := by simp [nameB] at h; omega
theorem empty_size {s : ByteArray} (h : emptyB s = true) : s.size = 0 := of_decide_eq_true h
/-- What a right command's fields are bounded by. -/
theorem cmdB_sizes {c : Cmd} (h : cmdB c = true) : (1 ≤ c.client ∧ c.client ≤ 9) ∧ (1 ≤ c.number ∧ c.number ≤ 1000000000) ∧ (1 ≤ c.kind ∧ c.kind ≤ 7) ∧ (0 ≤ c.n ∧ c.n ≤ 1000000000) ∧ c.topic.size ≤ 20 ∧ c.group.size ≤ 20 ∧ c.text.size ≤ 40 := by
  obtain ⟨a, b, k, t, g, x, n⟩ := c
  unfold cmdB at h
  simp only [Bool.and_eq_true] at h
  obtain ⟨h1, h2, h3, h4⟩ := h
  have h3' := name_size h3
  simp only [inB, Bool.and_eq_true, decide_eq_true_eq] at h1 h2
  unfold kindB at h4
  simp only
  split at h4
  · simp only [Bool.and_eq_true, decide_eq_true_eq] at h4
    have e1 := empty_size h4.1
    have e2 := empty_size h4.2.1
    omega
  split at h4
  · simp only [Bool.and_eq_true, decide_eq_true_eq, inB] at h4
    have e1 := empty_size h4.1
    omega
  split at h4
  · simp only [Bool.and_eq_true, decide_eq_true_eq, inB] at h4
    have e1 := name_size h4.1
    have e2 := empty_size h4.2.1
    omega
  split at h4
  · simp only [Bool.and_eq_true, decide_eq_true_eq, inB] at h4
    have e1 := empty_size h4.1
    have e2 := empty_size h4.2.1
    omega
  · cases h4
theorem numS_le {n : Int} (h0 : -9223372036854775808 ≤ n) (h1 : n ≤ 9223372036854775807) : (numS n).size ≤ 10 := by
  rw [numS_size]; exact vint_len10 _ (zig_lt h0 h1)
theorem ptext_le {t : ByteArray} (h : t.size ≤ 1048576) : (ptext t).size ≤ t.size + 10 := by
  have := vint_size t h
  unfold ptext
  rw [ByteArray.size_append]
  omega
end Go.Proofs.Ytkimieeabmjfgaa

namespace Go.Proofs.Ytkimieeabmjfgaa
open Go.RowKit
set_option linter.unusedVariables false
set_option maxRecDepth 1000000

/-- Strings one behind the other. -/
def cat {α : Type} (f : α → ByteArray) : List α → ByteArray
  | [] => ⟨#[]⟩
  | a :: L => f a ++ cat f L
theorem nil_app (s : ByteArray) : (⟨#[]⟩ : ByteArray) ++ s = s := by apply ByteArray.ext; simp
theorem app_nil (s : ByteArray) : s ++ (⟨#[]⟩ : ByteArray) = s := by apply ByteArray.ext; simp
theorem app_assoc (a b c : ByteArray) : a ++ b ++ c = a ++ (b ++ c) := by apply ByteArray.ext; simp
theorem cat_snoc {α : Type} (f : α → ByteArray) (L : List α) (a : α) : cat f (L ++ [a]) = cat f L ++ f a := by
  induction L with
  | nil => show f a ++ ⟨#[]⟩ = ⟨#[]⟩ ++ f a; rw [app_nil, nil_app]
  | cons b L ih => show f b ++ cat f (L ++ [a]) = f b ++ cat f L ++ f a; rw [ih, app_assoc]
theorem cat_next {α : Type} (f : α → ByteArray) (L : List α) {k : Nat} (h : k < L.length) (e : ByteArray) : e ++ cat f (L.take (k + 1)) = e ++ cat f (L.take k) ++ f L[k] := by
  rw [List.take_succ_eq_append_getElem h, cat_snoc, app_assoc]
theorem cat_zero {α : Type} (f : α → ByteArray) (L : List α) (e : ByteArray) : e ++ cat f (L.take 0) = e := by
  rw [List.take_zero]; exact app_nil e
theorem cat_all {α : Type} (f : α → ByteArray) (L : List α) : cat f (L.take L.length) = cat f L := by rw [List.take_of_length_le (Nat.le_refl _)]
theorem cat_le {α : Type} (f : α → ByteArray) (m : Nat) : ∀ (L : List α), (∀ i (h : i < L.length), (f L[i]).size ≤ m) → (cat f L).size ≤ L.length * m
  | [], _ => Nat.zero_le _
  | a :: L, h => by
    have h0 := h 0 (by simp)
    have h1 := cat_le f m L (fun i hi => h (i + 1) (by simpa using hi))
    show (f a ++ cat f L).size ≤ _
    rw [ByteArray.size_append, List.length_cons, Nat.succ_mul]
    simp only [List.getElem_cons_zero] at h0
    omega
def grpE (g : Grp) : ByteArray := ptext g.name ++ numS g.acked
def repE (r : Rep) : ByteArray := numS r.client ++ numS r.number ++ ptext r.text
def topE (t : Tpc) : ByteArray := ptext t.name ++ numS t.base ++ numS t.held.length ++ cat ptext t.held ++ numS t.groups.length ++ cat grpE t.groups
/-- The encoding of a broker. -/
def broE (b : Bro) : ByteArray := numS b.topics.length ++ cat topE b.topics ++ numS b.replies.length ++ cat repE b.replies
/-- BrokerBytes. -/
noncomputable def broBytes (b : Bro) : ByteArray := if broB b = true then broE b else ⟨#[]⟩
/-- What a right topic's parts are bounded by. -/
structure TopSz (t : Tpc) : Prop where
  name : t.name.size ≤ 20
  base : 0 ≤ t.base ∧ t.base ≤ 1000000000
  heldn : t.held.length ≤ 20
  held : ∀ i (h : i < t.held.length), t.held[i].size ≤ 40
  groupsn : t.groups.length ≤ 4
  group : ∀ i (h : i < t.groups.length), t.groups[i].name.size ≤ 20 ∧ 0 ≤ t.groups[i].acked ∧ t.groups[i].acked ≤ 1000000000
theorem topSz {t : Tpc} (h : topOK t) : TopSz t := by
  obtain ⟨h1, h2, h3, h4, h5, h6, h7⟩ := h
  have b := inB_true h2
  refine ⟨name_size h1, b, h3, fun i hi => ?_, h5, fun i hi => ?_⟩
  · have := inB_true (h4 i hi); omega
  · obtain ⟨q1, q2, _⟩ := h7 i hi
    have := inB_true q2
    exact ⟨name_size q1, by omega, by omega⟩
structure RepSz (r : Rep) : Prop where
  client : 0 ≤ r.client ∧ r.client ≤ 9
  number : 0 ≤ r.number ∧ r.number ≤ 1000000000
  text : r.text.size ≤ 900
theorem repSz {r : Rep} (h : repB r = true) : RepSz r := by
  obtain ⟨h1, h2, h3⟩ := repB_iff.1 h
  have b1 := inB_true h1
  have b2 := inB_true h2
  exact ⟨by omega, by omega, h3⟩
theorem numS10 {n : Int} (h0 : 0 ≤ n) (h1 : n ≤ 1000000000) : (numS n).size ≤ 10 := numS_le (by omega) (by omega)
theorem grpE_le {g : Grp} (h : g.name.size ≤ 20 ∧ 0 ≤ g.acked ∧ g.acked ≤ 1000000000) : (grpE g).size ≤ 40 := by
  have h1 := ptext_le (t := g.name) (by omega)
  have h2 := numS10 h.2.1 h.2.2
  unfold grpE; rw [ByteArray.size_append]; omega
theorem repE_le {r : Rep} (h : RepSz r) : (repE r).size ≤ 930 := by
  have h1 := ptext_le (t := r.text) (by have := h.text; omega)
  have h2 := numS10 (n := r.client) h.client.1 (by have := h.client; omega)
  have h3 := numS10 h.number.1 h.number.2
  have := h.text
  unfold repE; rw [ByteArray.size_append, ByteArray.size_append]; omega
theorem topE_le {t : Tpc} (h : TopSz t) : (topE t).size ≤ 1220 := by
  have h1 := ptext_le (t := t.name) (by have := h.name; omega)
  have h2 := numS10 h.base.1 h.base.2
  have h3 := numS10 (n := (t.held.length : Int)) (by omega) (by have := h.heldn; omega)
  have h4 := numS10 (n := (t.groups.length : Int)) (by omega) (by have := h.groupsn; omega)
  have h5 := cat_le ptext 50 t.held (fun i hi => by have := h.held i hi; have := ptext_le (t := t.held[i]) (by omega); omega)
  have h6 := cat_le grpE 40 t.groups (fun i hi => grpE_le (h.group i hi))
  have h7 := h.heldn
  have h8 := h.groupsn
  have h9 := h.name
  unfold topE; simp only [ByteArray.size_append]; omega
/-- The parts of a topic's encoding. -/
theorem topE_eq (nm : ByteArray) (bs : Int) (H : List ByteArray) (G : List Grp) : topE ⟨nm, bs, H, G⟩ = ptext nm ++ numS bs ++ numS H.length ++ cat ptext H ++ numS G.length ++ cat grpE G := rfl
end Go.Proofs.Ytkimieeabmjfgaa

namespace Go.Proofs.Ytkimieeabmjfgaa
open Go.RowKit
set_option linter.unusedVariables false
set_option maxRecDepth 1000000
theorem sizeT_any (A : Option Addr) (n c : Nat) (w : World) (h : n ≤ 1000) : Calls Try.prog 76 #[.slice A n c] w fun e w' => e = .returned (.string (numS n)) ∧ Below w.heap.size w w' := by
  have P := Lib.hid (implPutNum_any n w (by omega) (by omega))
  have E : Hid (strOfNums (vint (zig n)) = numS n) := rfl
  rw [E.out] at P
  go_enter Try.func76, Try.ntmps76
  go_wp2_with (go_at_call 79; (with_reducible refine (P.out).mono ?_); rintro e w1 ⟨rfl, hb1⟩)
  go_ret
  exact ⟨rfl, hb1⟩
theorem sizeR_any (A : Option Addr) (n c : Nat) (w : World) (h : n ≤ 1000) : Calls Try.prog 78 #[.slice A n c] w fun e w' => e = .returned (.string (numS n)) ∧ Below w.heap.size w w' := by
  have P := Lib.hid (implPutNum_any n w (by omega) (by omega))
  have E : Hid (strOfNums (vint (zig n)) = numS n) := rfl
  rw [E.out] at P
  go_enter Try.func78, Try.ntmps78
  go_wp2_with (go_at_call 79; (with_reducible refine (P.out).mono ?_); rintro e w1 ⟨rfl, hb1⟩)
  go_ret
  exact ⟨rfl, hb1⟩
theorem sizeS_any (A : Option Addr) (n c : Nat) (w : World) (h : n ≤ 1000) : Calls Try.prog 112 #[.slice A n c] w fun e w' => e = .returned (.string (numS n)) ∧ Below w.heap.size w w' := by
  have P := Lib.hid (implPutNum_any n w (by omega) (by omega))
  have E : Hid (strOfNums (vint (zig n)) = numS n) := rfl
  rw [E.out] at P
  go_enter Try.func112, Try.ntmps112
  go_wp2_with (go_at_call 79; (with_reducible refine (P.out).mono ?_); rintro e w1 ⟨rfl, hb1⟩)
  go_ret
  exact ⟨rfl, hb1⟩
theorem sizeG_any (A : Option Addr) (n c : Nat) (w : World) (h : n ≤ 1000) : Calls Try.prog 113 #[.slice A n c] w fun e w' => e = .returned (.string (numS n)) ∧ Below w.heap.size w w' := by
  have P := Lib.hid (implPutNum_any n w (by omega) (by omega))
  have E : Hid (strOfNums (vint (zig n)) = numS n) := rfl
  rw [E.out] at P
  go_enter Try.func113, Try.ntmps113
  go_wp2_with (go_at_call 79; (with_reducible refine (P.out).mono ?_); rintro e w1 ⟨rfl, hb1⟩)
  go_ret
  exact ⟨rfl, hb1⟩
theorem putNum_e (n : Int) (h0 : -9223372036854775808 ≤ n) (h1 : n ≤ 9223372036854775807) : ∀ W, Calls Try.prog 79 #[.int .i64 n] W fun e w' => e = .returned (.string (numS n)) ∧ Below W.heap.size W w' := fun W => implPutNum_any n W h0 h1
set_option maxHeartbeats 8000000 in
theorem topicBytes_any (t : Tpc) (A : Option Addr) (c : Nat) (B : Option Addr) (d : Nat) (w : World) (h : TopSz t) (hA : Strs w w.heap.size A t.held) (hB : Grs w w.heap.size B t.groups) :
    Calls Try.prog 77 #[topV t.name t.base (.slice A t.held.length c) (.slice B t.groups.length d)] w fun e w' => e = .returned (.string (topE t)) ∧ Below w.heap.size w w' := by
  obtain ⟨nm, bs, H, G⟩ := t
  obtain ⟨z1, z2, z3, z4, z5, z6⟩ := h
  simp only at z1 z2 z3 z4 z5 z6 hA hB ⊢
  have hK := Blk.fresh w 29 [.string nm, .int .i64 bs, .slice A H.length c, .slice B G.length d]
  have hb0 := below_box w (.cells #[.string nm, .int .i64 bs, .slice A H.length c, .slice B G.length d] 29)
  simp only [List.toArray] at hK
  have PN := Lib.hid (fun W => implPutText_any nm W (by omega))
  have PB := Lib.hid (putNum_e bs (by omega) (by omega))
  have PS := Lib.hid (fun W => sizeS_any A H.length c W (by omega))
  have PG := Lib.hid (fun W => sizeG_any B G.length d W (by omega))
  have ln := ptext_le (t := nm) (by omega)
  have lb := numS10 z2.1 z2.2
  have ls := numS10 (n := (H.length : Int)) (by omega) (by omega)
  have lg := numS10 (n := (G.length : Int)) (by omega) (by omega)
  have Z4 := Lib.hid z4
  have Z6 := Lib.hid z6
  clear z4 z6
  obtain ⟨E, HE⟩ : ∃ E, Hid (topE ⟨nm, bs, H, G⟩ = E) := ⟨_, Lib.hid rfl⟩
  have HE2 := Lib.hid (HE.out.symm.trans (topE_eq nm bs H G))
  rw [HE.out]
  clear HE
  generalize ptext nm = sn at PN ln HE2 ⊢
  generalize numS bs = sb at PB lb HE2 ⊢
  generalize numS (H.length : Int) = ss at PS ls HE2 ⊢
  generalize numS (G.length : Int) = sg at PG lg HE2 ⊢
  have ln' : sn.size ≤ 30 := by omega
  clear ln
  go_enter Try.func77, Try.ntmps77
  go_wp2_with (fail)
  generalize w.alloc (.cells #[.string nm, .int .i64 bs, .slice A H.length c, .slice B G.length d] 29) = v0 at hK hb0 ⊢
  obtain ⟨I, f, hI, g0, gk, gc, ge⟩ := class_grown v0
  have x0 := fun s => kept_cell (gk s) (hK.cell (i := 0) rfl)
  have x1 := fun s => kept_cell (gk s) (hK.cell (i := 1) rfl)
  have x2 := fun s => kept_cell (gk s) (hK.cell (i := 2) rfl)
  refine wp_region_kept f (by kernel_rfl) (by kernel_rfl) g0 ?_
  repeat (first
    | go_big_quiet_skip
    | (go_big_quiet_want; go_big_quiet_op; first
      | go_big_quiet_on
      | (apply Exists.intro; refine ⟨fun s => ?_, ?_⟩; (go_at_call 80; (with_reducible refine (PN.out _).mono ?_); rintro e w4 ⟨rfl, hb4⟩; exact ⟨rfl, gc _ _ hb4⟩); go_big_quiet_on)
      | (apply Exists.intro; refine ⟨fun s => ?_, ?_⟩; (go_at_call 79; (with_reducible refine (PB.out _).mono ?_); rintro e w4 ⟨rfl, hb4⟩; exact ⟨rfl, gc _ _ hb4⟩); go_big_quiet_on)
      | (apply Exists.intro; refine ⟨fun s => ?_, ?_⟩; (go_at_call 112; (with_reducible refine (PS.out _).mono ?_); rintro e w4 ⟨rfl, hb4⟩; exact ⟨rfl, gc _ _ hb4⟩); go_big_quiet_on)))
  refine wpQuiet_nil ?_
  intro w1 h1
  have hb1 := ge _ h1
  have hK1 := hK.below hb1 hK.lt
  have hw1 := hb0.trans (hb1.mono hb0.size)
  clear x0 x1 x2 gk gc ge g0 hI h1 hb1 hK hb0 PN PB PS
  obtain ⟨e1, HE1⟩ : ∃ e1, Hid (sn ++ sb ++ ss = e1) := ⟨_, Lib.hid rfl⟩
  have l1 : e1.size ≤ 50 := by rw [← HE1.out]; simp only [ByteArray.size_append]; omega
  rw [HE1.out] at HE2
  have c2 := hK1.cell (i := 2) rfl
  go_wp2
  rw [HE1.out]
  clear HE1 ln' lb ls
  go_loopw [3, 5, 22] (fun v _ i wr => ∃ (k : Nat) (acc : ByteArray), k ≤ H.length ∧ i = .int .i64 k ∧ v = .string acc ∧ acc = e1 ++ cat ptext (H.take k) ∧ acc.size ≤ 50 + k * 50 ∧ Blk wr w.heap.size 29 [.string nm, .int .i64 bs, .slice A H.length c, .slice B G.length d] ∧ Below w.heap.size w wr) (fun _ _ i _ => H.length - (intOf i).toNat)
  case atStart => exact ⟨0, e1, by omega, rfl, rfl, (cat_zero _ _ _).symm, by omega, hK1, hw1⟩
  case round =>
    obtain ⟨k, acc, hk, rfl, rfl, hacc, hl, hK2, hw2⟩ := hrel
    have HA := Lib.hid hacc
    clear hacc c2 hK1 hw1
    by_cases hlt : k < H.length
    · obtain ⟨a, rfl, hab, c0⟩ := (hA.below hw2 (Nat.le_refl _)).2 k hlt
      have hlt' : (k : Int) < (H.length : Int) := by omega
      have hs := Z4.out k hlt
      have PT := Lib.hid (fun W => implPutText_any H[k] W (by omega))
      have lt := ptext_le (t := H[k]) (by omega)
      have HC := Lib.hid (cat_next ptext H hlt e1)
      generalize ptext H[k] = st at PT lt HC
      go_wp2_with (go_at_call 80; (with_reducible refine (PT.out _).mono ?_); rintro e w4 ⟨rfl, hb4⟩)
      refine ⟨⟨k + 1, acc ++ st, by omega, by go_num, rfl, by rw [HC.out, HA.out], by rw [ByteArray.size_append]; omega, hK2.below hb4 hK2.lt, hw2.trans (hb4.mono hw2.size)⟩, by simp [intOf]; omega⟩
    · obtain rfl : k = H.length := by omega
      have HA2 : Hid (acc = e1 ++ cat ptext H) := Lib.hid (by rw [HA.out, cat_all])
      rw [← HA2.out] at HE2
      have hl2 : acc.size ≤ 1050 := by omega
      clear HA HA2 hl
      have c3 := hK2.cell (i := 3) rfl
      go_wp2_with (go_at_call 113; (with_reducible refine (PG.out _).mono ?_); rintro e w4 ⟨rfl, hb4⟩; have hK4 := hK2.below hb4 hK2.lt; have c4 := hK4.cell (i := 3) rfl)
      have hw4 := hw2.trans (hb4.mono hw2.size)
      obtain ⟨e2, HE3⟩ : ∃ e2, Hid (acc ++ sg = e2) := ⟨_, Lib.hid rfl⟩
      have l2 : e2.size ≤ 1060 := by rw [← HE3.out]; simp only [ByteArray.size_append]; omega
      rw [HE3.out] at HE2 ⊢
      clear HE3 hl2 lg c3 hK2 hw2 hb4 PG
      go_loopw [3, 7, 39] (fun v _ i wr => ∃ (k : Nat) (acc : ByteArray), k ≤ G.length ∧ i = .int .i64 k ∧ v = .string acc ∧ acc = e2 ++ cat grpE (G.take k) ∧ acc.size ≤ 1060 + k * 40 ∧ Blk wr w.heap.size 29 [.string nm, .int .i64 bs, .slice A H.length c, .slice B G.length d] ∧ Below w.heap.size w wr) (fun _ _ i _ => G.length - (intOf i).toNat)
      case atStart => exact ⟨0, e2, by omega, rfl, rfl, (cat_zero _ _ _).symm, by omega, hK4, hw4⟩
      case round =>
        obtain ⟨k, acc, hk, rfl, rfl, hacc, hl, hK5, hw5⟩ := hrel
        have HA := Lib.hid hacc
        clear hacc c4 hK4 hw4
        by_cases hlt : k < G.length
        · obtain ⟨a, rfl, hab, c0, c1⟩ := (hB.below hw5 (Nat.le_refl _)).at k hlt
          have hlt' : (k : Int) < (G.length : Int) := by omega
          have hs := Z6.out k hlt
          have PT := Lib.hid (fun W => implPutText_any G[k].name W (by omega))
          have PU := Lib.hid (putNum_e G[k].acked (by omega) (by omega))
          have lt := ptext_le (t := G[k].name) (by omega)
          have lu := numS10 hs.2.1 hs.2.2
          have HC := Lib.hid (cat_next grpE G hlt e2)
          have HG : Hid (grpE G[k] = ptext G[k].name ++ numS G[k].acked) := rfl
          rw [HG.out] at HC
          clear HG
          generalize ptext G[k].name = st at PT lt HC
          generalize numS G[k].acked = su at PU lu HC
          have hG := Blk.fresh wr 68 [.string G[k].name, .int .i64 G[k].acked]
          have hK6 := hK5.alloc (.cells #[.string G[k].name, .int .i64 G[k].acked] 68)
          have hw6 := hw5.alloc hw5.size (.cells #[.string G[k].name, .int .i64 G[k].acked] 68)
          simp only [List.toArray] at hG
          go_wp2_with (fail)
          generalize wr.alloc (.cells #[.string G[k].name, .int .i64 G[k].acked] 68) = w3 at hG hK6 hw6 ⊢
          clear c0 c1 hK5 hw5
          obtain ⟨I, f, hI, g0, gk, gc, ge⟩ := class_grown w3
          have x0 := fun s => kept_cell (gk s) (hG.cell (i := 0) rfl)
          have x1 := fun s => kept_cell (gk s) (hG.cell (i := 1) rfl)
          refine wp_region_kept f (by kernel_rfl) (by kernel_rfl) g0 ?_
          repeat (first
            | go_big_quiet_skip
            | (go_big_quiet_want; go_big_quiet_op; first
              | go_big_quiet_on
              | (apply Exists.intro; refine ⟨fun s => ?_, ?_⟩; (go_at_call 80; (with_reducible refine (PT.out _).mono ?_); rintro e w4 ⟨rfl, hb4⟩; exact ⟨rfl, gc _ _ hb4⟩); go_big_quiet_on)
              | (apply Exists.intro; refine ⟨fun s => ?_, ?_⟩; (go_at_call 79; (with_reducible refine (PU.out _).mono ?_); rintro e w4 ⟨rfl, hb4⟩; exact ⟨rfl, gc _ _ hb4⟩); go_big_quiet_on)))
          refine wpQuiet_nil ?_
          intro w7 h7
          have hb7 := ge _ h7
          go_wp2
          refine ⟨⟨k + 1, acc ++ (st ++ su), by omega, by go_num, rfl, by rw [HC.out, HA.out], by simp only [ByteArray.size_append]; omega, hK6.below hb7 hK6.lt, hw6.trans (hb7.mono hw6.size)⟩, by simp [intOf]; omega⟩
        · obtain rfl : k = G.length := by omega
          have HA2 : Hid (E = acc) := Lib.hid (by rw [HE2.out, HA.out, cat_all])
          clear HA HE2
          go_wp2
          go_ret
          exact ⟨by rw [HA2.out]; rfl, hw5⟩
end Go.Proofs.Ytkimieeabmjfgaa

namespace Go.Proofs.Ytkimieeabmjfgaa
open Go.RowKit
set_option linter.unusedVariables false
set_option maxRecDepth 1000000
theorem bytes_no {b : Bro} (h : broB b = false) : broBytes b = ⟨#[]⟩ := by unfold broBytes; rw [h]; rfl
theorem bytes_ok {b : Bro} (h : broB b = true) : broBytes b = broE b := by unfold broBytes; rw [h]; rfl
set_option maxHeartbeats 8000000 in
theorem implBrokerBytes_any (b : Bro) (A : Option Addr) (c : Nat) (B : Option Addr) (d : Nat) (w : World) (hf : b.fits) (hA : Tops w w.heap.size A b.topics) (hB : Rps w w.heap.size B b.replies) :
    Calls Try.prog 36 #[broV (.slice A b.topics.length c) (.slice B b.replies.length d)] w fun e w' => e = .returned (.string (broBytes b)) ∧ Below w.heap.size w w' := by
  have BR := Lib.hid (fun W (h : Below w.heap.size w W) => implBrokerRight_any b A c B d W hf (hA.on h) (hB.on h))
  have F0 : Hid (broB b = false → broBytes b = ⟨#[]⟩) := Lib.hid bytes_no
  have F1 : Hid (broB b = true → broBytes b = broE b) := Lib.hid bytes_ok
  have HO := Lib.hid (broB_iff (b := b))
  have HE0 : Hid (broE b = numS b.topics.length ++ cat topE b.topics ++ numS b.replies.length ++ cat repE b.replies) := rfl
  obtain ⟨T, R⟩ := b
  simp only at BR F0 F1 HO HE0 hA hB ⊢
  obtain ⟨r, HR⟩ : ∃ r, Hid (broBytes ⟨T, R⟩ = r) := ⟨_, Lib.hid rfl⟩
  rw [HR.out] at F0 F1 ⊢
  have hK := Blk.fresh w 48 [.slice A T.length c, .slice B R.length d]
  have hb0 := below_box w (.cells #[.slice A T.length c, .slice B R.length d] 48)
  simp only [List.toArray] at hK
  rcases Bool.eq_false_or_eq_true (broB ⟨T, R⟩) with hT | hT
  rotate_left
  · have H0 := Lib.hid (F0.out hT)
    rw [hT] at BR
    clear hT
    go_enter Try.func36, Try.ntmps36
    have k0 := hK.cell (i := 0) rfl
    have k1 := hK.cell (i := 1) rfl
    go_wp2_with (fail)
    clear k0 k1
    generalize w.alloc (.cells #[.slice A T.length c, .slice B R.length d] 48) = v0 at hK hb0 ⊢
    refine (BR.out _ hb0).mono ?_
    rintro e w1 ⟨rfl, hb1⟩
    go_wp2
    go_ret
    exact ⟨by rw [H0.out]; rfl, hb0.trans (hb1.mono hb0.size)⟩
  obtain ⟨ho1, ho2⟩ := HO.out.1 hT
  have hl1 : T.length ≤ 4 := ho1.1
  have hl2 : R.length ≤ 9 := ho2.1
  have ZT := Lib.hid (fun i (h : i < T.length) => topSz (topB_iff.1 (ho1.2 i h).1))
  have ZR := Lib.hid (fun i (h : i < R.length) => repSz (ho2.2 i h).1)
  have HE := Lib.hid ((F1.out hT).trans HE0.out)
  rw [hT] at BR
  clear hT ho1 ho2 HO F0 F1 HE0 HR
  have PT := Lib.hid (fun W => sizeT_any A T.length c W (by omega))
  have PR := Lib.hid (fun W => sizeR_any B R.length d W (by omega))
  have lt := numS10 (n := (T.length : Int)) (by omega) (by omega)
  have lr := numS10 (n := (R.length : Int)) (by omega) (by omega)
  generalize numS (T.length : Int) = st at PT lt HE
  generalize numS (R.length : Int) = sr at PR lr HE
  go_enter Try.func36, Try.ntmps36
  have k0 := hK.cell (i := 0) rfl
  have k1 := hK.cell (i := 1) rfl
  go_wp2_with (fail)
  clear k0 k1
  generalize w.alloc (.cells #[.slice A T.length c, .slice B R.length d] 48) = v0 at hK hb0 ⊢
  refine (BR.out _ hb0).mono ?_
  rintro e w1 ⟨rfl, hb1⟩
  have hK1 := hK.below hb1 hK.lt
  have hw1 := hb0.trans (hb1.mono hb0.size)
  have k0 := hK1.cell (i := 0) rfl
  clear hK hb0 hb1
  go_wp2_with (fail)
  refine (PT.out _).mono ?_
  rintro e w2 ⟨rfl, hb2⟩
  have hK2 := hK1.below hb2 hK1.lt
  have hw2 := hw1.trans (hb2.mono hw1.size)
  clear k0 hK1 hw1 hb2 PT
  have k0 := hK2.cell (i := 0) rfl
  go_wp2
  go_loopw [3, 5, 17] (fun v _ i wr => ∃ (k : Nat) (acc : ByteArray), k ≤ T.length ∧ i = .int .i64 k ∧ v = .string acc ∧ acc = st ++ cat topE (T.take k) ∧ acc.size ≤ 10 + k * 1220 ∧ Blk wr w.heap.size 48 [.slice A T.length c, .slice B R.length d] ∧ Below w.heap.size w wr) (fun _ _ i _ => T.length - (intOf i).toNat)
  case atStart => exact ⟨0, st, by omega, rfl, rfl, (cat_zero _ _ _).symm, by omega, hK2, hw2⟩
  case round =>
    obtain ⟨k, acc, hk, rfl, rfl, hacc, hl, hK3, hw3⟩ := hrel
    have HA := Lib.hid hacc
    clear hacc k0 hK2 hw2
    by_cases hlt : k < T.length
    · obtain ⟨a, rfl, hab, C, c1, D, d1, a0, a1, a2, a3, hC, hD⟩ := (hA.on hw3).at k hlt
      have hlt' : (k : Int) < (T.length : Int) := by omega
      have le := topE_le (ZT.out k hlt)
      have hG := Blk.fresh wr 29 [.string T[k].name, .int .i64 T[k].base, .slice C T[k].held.length c1, .slice D T[k].groups.length d1]
      have hbx := below_box wr (.cells #[.string T[k].name, .int .i64 T[k].base, .slice C T[k].held.length c1, .slice D T[k].groups.length d1] 29)
      have hK4 := hK3.alloc (.cells #[.string T[k].name, .int .i64 T[k].base, .slice C T[k].held.length c1, .slice D T[k].groups.length d1] 29)
      have hw4 := hw3.alloc hw3.size (.cells #[.string T[k].name, .int .i64 T[k].base, .slice C T[k].held.length c1, .slice D T[k].groups.length d1] 29)
      have TP := Lib.hid (topicBytes_any T[k] C c1 D d1 (wr.alloc (.cells #[.string T[k].name, .int .i64 T[k].base, .slice C T[k].held.length c1, .slice D T[k].groups.length d1] 29)) (ZT.out k hlt) (hC.on hbx) (hD.on hbx))
      have HC := Lib.hid (cat_next topE T hlt st)
      generalize topE T[k] = se at TP le HC
      simp only [List.toArray] at hG
      have q0 := hG.cell (i := 0) rfl
      have q1 := hG.cell (i := 1) rfl
      have q2 := hG.cell (i := 2) rfl
      have q3 := hG.cell (i := 3) rfl
      go_wp2_with (go_at_call 77; (with_reducible refine (TP.out).mono ?_); rintro e w5 ⟨rfl, hb5⟩)
      refine ⟨⟨k + 1, acc ++ se, by omega, by go_num, rfl, by rw [HC.out, HA.out], by rw [ByteArray.size_append]; omega, hK4.below hb5 hK4.lt, hw4.trans (hb5.mono hw4.size)⟩, by simp [intOf]; omega⟩
    · obtain rfl : k = T.length := by omega
      have HA2 : Hid (acc = st ++ cat topE T) := Lib.hid (by rw [HA.out, cat_all])
      rw [← HA2.out] at HE
      have hl2' : acc.size ≤ 4890 := by omega
      clear HA HA2 hl lt
      have k1 := hK3.cell (i := 1) rfl
      go_wp2_with (go_at_call 78; (with_reducible refine (PR.out _).mono ?_); rintro e w4 ⟨rfl, hb4⟩; have hK4 := hK3.below hb4 hK3.lt; have c4 := hK4.cell (i := 1) rfl)
      have hw4 := hw3.trans (hb4.mono hw3.size)
      obtain ⟨e2, HE3⟩ : ∃ e2, Hid (acc ++ sr = e2) := ⟨_, Lib.hid rfl⟩
      have l2 : e2.size ≤ 4900 := by rw [← HE3.out]; simp only [ByteArray.size_append]; omega
      rw [HE3.out] at HE ⊢
      clear HE3 hl2' lr k1 hK3 hw3 hb4 PR
      go_loopw [3, 7, 34] (fun v _ i wr => ∃ (k : Nat) (acc : ByteArray), k ≤ R.length ∧ i = .int .i64 k ∧ v = .string acc ∧ acc = e2 ++ cat repE (R.take k) ∧ acc.size ≤ 4900 + k * 930 ∧ Blk wr w.heap.size 48 [.slice A T.length c, .slice B R.length d] ∧ Below w.heap.size w wr) (fun _ _ i _ => R.length - (intOf i).toNat)
      case atStart => exact ⟨0, e2, by omega, rfl, rfl, (cat_zero _ _ _).symm, by omega, hK4, hw4⟩
      case round =>
        obtain ⟨k, acc, hk, rfl, rfl, hacc, hl, hK5, hw5⟩ := hrel
        have HA := Lib.hid hacc
        clear hacc c4 hK4 hw4
        by_cases hlt : k < R.length
        · obtain ⟨a, rfl, hab, c0, c1, c2⟩ := (hB.below hw5 (Nat.le_refl _)).at k hlt
          have hlt' : (k : Int) < (R.length : Int) := by omega
          obtain ⟨s1, s2, s3⟩ := ZR.out k hlt
          have PA := Lib.hid (putNum_e R[k].client (by omega) (by omega))
          have PB := Lib.hid (putNum_e R[k].number (by omega) (by omega))
          have PC := Lib.hid (fun W => implPutText_any R[k].text W (by omega))
          have la := numS10 (n := R[k].client) (by omega) (by omega)
          have lb := numS10 (n := R[k].number) (by omega) (by omega)
          have lc := ptext_le (t := R[k].text) (by omega)
          have HC := Lib.hid (cat_next repE R hlt e2)
          have HG : Hid (repE R[k] = numS R[k].client ++ numS R[k].number ++ ptext R[k].text) := rfl
          rw [HG.out] at HC
          clear HG
          generalize numS R[k].client = sa at PA la HC
          generalize numS R[k].number = sb at PB lb HC
          generalize ptext R[k].text = sc at PC lc HC
          have lc' : sc.size ≤ 910 := by omega
          have hG := Blk.fresh wr 53 [.int .i64 R[k].client, .int .i64 R[k].number, .string R[k].text]
          have hK6 := hK5.alloc (.cells #[.int .i64 R[k].client, .int .i64 R[k].number, .string R[k].text] 53)
          have hw6 := hw5.alloc hw5.size (.cells #[.int .i64 R[k].client, .int .i64 R[k].number, .string R[k].text] 53)
          simp only [List.toArray] at hG
          go_wp2_with (fail)
          generalize wr.alloc (.cells #[.int .i64 R[k].client, .int .i64 R[k].number, .string R[k].text] 53) = w3 at hG hK6 hw6 ⊢
          clear c0 c1 c2 hK5 hw5 s1 s2 s3 lc
          obtain ⟨I, f, hI, g0, gk, gc, ge⟩ := class_grown w3
          have x0 := fun s => kept_cell (gk s) (hG.cell (i := 0) rfl)
          have x1 := fun s => kept_cell (gk s) (hG.cell (i := 1) rfl)
          have x2 := fun s => kept_cell (gk s) (hG.cell (i := 2) rfl)
          refine wp_region_kept f (by kernel_rfl) (by kernel_rfl) g0 ?_
          repeat (first
            | go_big_quiet_skip
            | (go_big_quiet_want; go_big_quiet_op; first
              | go_big_quiet_on
              | (apply Exists.intro; refine ⟨fun s => ?_, ?_⟩; (go_at_call 79; (with_reducible refine (PA.out _).mono ?_); rintro e w4 ⟨rfl, hb4⟩; exact ⟨rfl, gc _ _ hb4⟩); go_big_quiet_on)
              | (apply Exists.intro; refine ⟨fun s => ?_, ?_⟩; (go_at_call 79; (with_reducible refine (PB.out _).mono ?_); rintro e w4 ⟨rfl, hb4⟩; exact ⟨rfl, gc _ _ hb4⟩); go_big_quiet_on)
              | (apply Exists.intro; refine ⟨fun s => ?_, ?_⟩; (go_at_call 80; (with_reducible refine (PC.out _).mono ?_); rintro e w4 ⟨rfl, hb4⟩; exact ⟨rfl, gc _ _ hb4⟩); go_big_quiet_on)))
          refine wpQuiet_nil ?_
          intro w7 h7
          have hb7 := ge _ h7
          go_wp2
          refine ⟨⟨k + 1, acc ++ (sa ++ sb ++ sc), by omega, by go_num, rfl, by rw [HC.out, HA.out], by simp only [ByteArray.size_append]; omega, hK6.below hb7 hK6.lt, hw6.trans (hb7.mono hw6.size)⟩, by simp [intOf]; omega⟩
        · obtain rfl : k = R.length := by omega
          have HA2 : Hid (r = acc) := Lib.hid (by rw [HE.out, HA.out, cat_all])
          clear HA HE
          go_wp2
          go_ret
          exact ⟨by rw [HA2.out]; rfl, hw5⟩
end Go.Proofs.Ytkimieeabmjfgaa
