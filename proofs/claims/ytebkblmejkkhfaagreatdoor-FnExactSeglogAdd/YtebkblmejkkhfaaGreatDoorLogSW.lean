/- The contracts of spec.l04Read and spec.FramesRead. Strings appended to a row of the call's own, out of another such row (nil or not). spec's texts of a log, and whether it is valid. -/
import Derived.Test.YtebkblmejkkhfaaGreatDoorFrReadW
import Derived.Test.YtebkblmejkkhfaaGreatDoorFrmSW
import Derived.Test.YtebkblmejkkhfaaGreatDoorSgOutW
import Derived.Laws.AppendOwnNone
import Derived.Test.YtebkblmejkkhfaaGreatDoorSegMathW
import Derived.Test.YtebkblmejkkhfaaGreatDoorSgMarkW
import Derived.Test.YtebkblmejkkhfaaGreatDoorMarkFW
import Derived.IntWalk
import Derived.WalkSmall
namespace Go.Proofs.YtebkblmejkkhfaaGreatDoor
open Go.RowKit
set_option linter.unusedVariables false

/-- A field of the box laid ahead of an append. -/
theorem key {w1 w2 : World} {base k : Nat} {u : Value} {xs : List Value} {t : ByteArray} {q : Nat} (hr : w1.ownsRow base 9 1 u k xs) (hg : ((w1.alloc (.cells #[.string t, .int .i64 (q : Int), .int .i64 0] 35)).alloc (.cells #[.string t] 9)).grownBy w2 u.ownBlock) :
    w2.cell? ⟨w1.heap.size, 1, none⟩ = some (.int .i64 (q : Int)) := by
  have h0 := (Blk.fresh w1 35 [.string t, .int .i64 (q : Int), .int .i64 0]).alloc (.cells #[.string t] 9)
  exact (h0.grown hg (fun e => by have := (hr.lt _ e.symm).2; omega)).cell (i := 1) rfl

set_option maxRecDepth 1000000 in
set_option maxHeartbeats 4000000 in
theorem specRead_any (s : ByteArray) (w : World) (hs : s.size ≤ 20000) :
    Calls Tryz.prog 150 #[.string s] w fun e w' => ∃ v, e = .returned (.tuple #[v, .int .i64 (endOf (frs s 0) : Int)]) ∧ OwnS w' w.heap.size v ((frs s 0).map Prod.fst) ∧ Below w.heap.size w w' := by
  obtain ⟨i0, hi, hz0, hz1, hz2⟩ := info_parts infoStr
  have hfl := frs_len (s := s) s.size 0 (by omega)
  go_enter Tryz.func150, Tryz.ntmps150
  go_wp2
  go_loopw [4, 5] (fun o a wr => ∃ (pre : List (ByteArray × Nat)) (p : Nat), a = .int .i64 p ∧ p ≤ s.size ∧ endOf pre = p ∧ pre ++ frs s p = frs s 0 ∧ wr.ownsRow w.heap.size 9 1 o pre.length (pre.map fun x => Value.string x.1) ∧ Below w.heap.size w wr) (fun _ a _ => s.size - (intOf a).toNat)
  case atStart => exact ⟨[], 0, rfl, by omega, rfl, rfl, World.ownsRow_lit w #[] 0 (Nat.le_refl _) (by simp) (by simp), (Below.refl _ _).alloc (Nat.le_refl _) _⟩
  case round =>
    obtain ⟨pre, p, rfl, hp, he, hx, hrow, hb⟩ := hrel
    have HF := Lib.hid (fun w => specAt_fr s p w hs (by omega))
    obtain ⟨A1, c1, rfl⟩ : ∃ A c, _ = Value.slice A pre.length c := ownR_some hrow
    cases hfr : fr s p with
    | error c =>
      have hc0 : (c != 0) = true := by simpa using fr_err hfr
      rw [hfr] at HF
      rw [frs_err hfr, List.append_nil] at hx
      simp only [txV] at HF
      have HX := Lib.hid hx
      clear hx
      go_wp2_with (go_at_call 171; refine (HF.out _).mono ?_; rintro e w1 ⟨rfl, hb1⟩)
      refine bodyPost_ret (v := .tuple #[.slice A1 pre.length c1, .int .i64 (p : Int)]) (by simp [results, Tryz.results150, go_sem]) rfl ?_
      have hb2 := (hb1.alloc hb1.size (.cells #[.string ⟨#[]⟩, .int .i64 0, .int .i64 c] 35))
      refine ⟨.slice A1 pre.length c1, ?_, ?_, hb.trans (hb2.mono hb.size)⟩
      · rw [← HX.out, he]
      · rw [← HX.out]
        have := row_below hrow hb2 (Nat.le_refl _)
        unfold OwnS
        rw [List.length_map, List.map_map]
        exact this
    | ok x =>
      obtain ⟨t, q⟩ := x
      have hok := fr_ok hfr
      rw [hfr] at HF
      rw [frs_ok hfr] at hx
      simp only [txV] at HF
      have hpl : pre.length + 1 ≤ 20000 := by have := congrArg List.length hx; simp at this; omega
      have hsz := hb.size
      go_wp2_with (first
        | (go_at_call 171; refine (HF.out _).mono ?_; rintro e w1 ⟨rfl, hb1⟩; have hzz := hb1.size; have hr1 := row_below hrow hb1 (Nat.le_refl _))
        | (at_builtin; refine wpList_append_own _ rfl _ _ 50 rfl w.heap.size 9 i0 (.string ⟨#[]⟩) 1 16 Tryz.underlying50 hi hz0 hz1 hz2 rfl (by decide) _ _ _ rfl ((hr1.alloc _).alloc _) ⟨w1.heap.size + 1, 0, none⟩ 1 1 [.string t] rfl rfl (by have h := one_cell (w1.alloc (.cells #[.string t, .int .i64 (q : Int), .int .i64 0] 35)) (.string t) 9; simpa using h) (one_str _) (by unfold maxLen; omega) (by omega) (by simp; omega) ?_; intro v' w2 hown' hgrow' hne; clear hne; have kf : w2.cell? ⟨w1.heap.size, 1, none⟩ = some (.int .i64 (q : Int)) := key hr1 hgrow'))
      have h5 : w2.ownsRow w.heap.size 9 1 v' (pre ++ [(t, q)]).length ((pre ++ [(t, q)]).map fun x => Value.string x.1) := by simpa using hown'
      have hb6 : Below w.heap.size w w2 := ((((hb.trans (hb1.mono hsz)).alloc (by omega) _).alloc (by simp; omega) _).grown hgrow' (by simp; omega) (fun k e => (hr1.lt k e).1))
      exact ⟨⟨pre ++ [(t, q)], q, rfl, hok.2.1, endOf_snoc _ _, by rw [← hx]; simp, h5, hb6⟩, by simp [intOf]; omega⟩

end Go.Proofs.YtebkblmejkkhfaaGreatDoor

namespace Go.Proofs.YtebkblmejkkhfaaGreatDoor
open Go.RowKit
set_option linter.unusedVariables false

theorem grown_refl (w : World) (r : Option Nat) : w.grownBy w r := ⟨rfl, rfl, rfl, Nat.le_refl _, fun _ _ _ => rfl⟩
theorem ownR_news {w : World} {base g n c : Nat} {e : TypeId} {xs : List Value} (h : w.ownsRow base e 1 (.slice (some ⟨g, 0, none⟩) n c) n xs) : ∀ j u, xs[j]? = some u → w.cell? ((⟨g, 0, none⟩ : Addr).add j) = some u := by
  intro j u hj
  have hl := h.1
  have hlt : j < xs.length := by
    rcases Nat.lt_or_ge j xs.length with h | h
    · exact h
    · rw [List.getElem?_eq_none h] at hj; cases hj
  rw [← hj, ← h.cellAt j (by omega)]
  unfold Addr.add
  split
  · rename_i h0; subst h0; rfl
  · simp
theorem wpList_append_S {ops : Array Oper} {rest : List Oper} {o : Oper} {a : Act} {w : World} {Q : Exit → Act → World → Prop} (hgd : o.guard = none) (s x : Operand)
    (ho : o.op = .call { callee := .builtin .append, args := #[s, x], argTypes := #[50, 50] })
    (base : Nat) (v : Value) (L : List ByteArray) (hs : a.eval s = v) (hown : OwnS w base v L)
    (base2 : Nat) (u : Value) (M : List ByteArray) (hx : a.eval x = u) (hM : OwnS w base2 u M)
    (hlen : L.length + M.length ≤ 1000000) (hbase : base ≤ w.heap.size)
    (h : ∀ v' w', OwnS w' base v' (L ++ M) → w.grownBy w' v.ownBlock → wpList Tryz.prog ops Q rest (a.put o.dst v') w') : wpList Tryz.prog ops Q (o :: rest) a w := by
  obtain ⟨i0, hi, hz0, hz1, hz2⟩ := info_parts infoStr
  have hM' := hM
  unfold OwnS at hM hown
  obtain ⟨hl, hh⟩ := hM
  rcases hh with ⟨rfl, h0⟩ | ⟨g, cap, cur, rfl, hg, hb, hn, hm, hss, ht⟩
  · have hm0 : M = [] := List.eq_nil_of_length_eq_zero (by omega)
    subst hm0
    refine wpList_append_own_none hgd s x 50 ho base 9 i0 1 Tryz.underlying50 hi v _ _ hs hown hx (h v w ?_ (grown_refl _ _))
    rw [List.append_nil]; exact hown
  · refine wpList_append_own w hgd s x 50 ho base 9 i0 (.string ⟨#[]⟩) 1 16 Tryz.underlying50 hi hz0 hz1 hz2 rfl (by decide) v _ _ hs hown ⟨g, 0, none⟩ M.length cap (M.map Value.string) hx (by simp) (ownR_news hM') (by intro u hu; obtain ⟨t, _, rfl⟩ := List.mem_map.1 hu; rfl) (by unfold maxLen; omega) (by omega) hbase ?_
    intro v' w' h1 h2 _
    refine h v' w' ?_ h2
    unfold OwnS
    rw [List.length_append, List.map_append]
    exact h1
end Go.Proofs.YtebkblmejkkhfaaGreatDoor

namespace Go.Proofs.YtebkblmejkkhfaaGreatDoor
open Go.RowKit
set_option linter.unusedVariables false
set_option linter.unusedSimpArgs false
set_option maxRecDepth 1000000

/-- What l05Texts answers. -/
def TxPost (L : List Fil) (f : Int) (w : World) (e : Ending) (w' : World) : Prop :=
  ∃ v b, e = .returned (.tuple #[v, .bool b]) ∧ (b = true ↔ (∀ i (h : i < L.length), goodS L f i h) ∧ 0 < L.length) ∧ (b = true → OwnS w' w.heap.size v (allT L)) ∧ Below w.heap.size w w'
theorem txPost_no {L : List Fil} {f : Int} {w w' : World} {v : Value} (h : ¬ ∀ i (h : i < L.length), goodS L f i h) (hb : Below w.heap.size w w') : TxPost L f w (.returned (.tuple #[v, .bool false])) w' :=
  ⟨v, false, rfl, ⟨(fun e => by cases e), fun e => absurd e.1 h⟩, (fun e => by cases e), hb⟩
theorem allT_le (L : List Fil) : ∀ k, k ≤ L.length → (∀ i (h : i < L.length), i < k → (tx L[i]).length ≤ 4) → (allT (L.take k)).length ≤ 4 * k
  | 0, _, _ => by simp [allT]
  | k + 1, hk, h => by
    rw [allT_take L k (by omega), List.length_append]
    have h1 := allT_le L k (by omega) (fun i hi hlt => h i hi (by omega))
    have h2 := h k (by omega) (by omega)
    omega
theorem fsOK_file {L : List Fil} (h : fsOK L = true) {k : Nat} (hk : k < L.length) : L[k].data.size ≤ 3000 ∧ L.length ≤ 12 := by
  have h1 := fsOK_iff.1 h
  have h2 := (h1.2 k hk).1
  unfold okF at h2
  simp at h2
  exact ⟨by omega, h1.1⟩
set_option maxHeartbeats 8000000 in
theorem specTexts_any (A : Option Addr) (L : List Fil) (c : Nat) (f m : Int) (w : World) (hL : Fls w w.heap.size A L) (hF : fsOK L = true) (hN : numOK f m = true) :
    Calls Tryz.prog 143 #[segV (.slice A L.length c) f m] w (TxPost L f w) := by
  have hn := (fsOK_iff.1 hF).1
  obtain ⟨g1, g2, g3, g4, g5, g6⟩ := numOK_iff.1 hN
  clear g3 hN
  have HF := Lib.hid hF
  clear hF
  have hb0 : Below w.heap.size w ((w.alloc (.cells #[.slice A L.length c, .int .i64 f, .int .i64 m] 61)).alloc (.cells #[] 9)) := ((Below.refl _ _).alloc (Nat.le_refl _) _).alloc (by simp) _
  have k0 := (Blk.fresh w 61 [.slice A L.length c, .int .i64 f, .int .i64 m]).alloc (.cells #[] 9)
  have hO0 : OwnS ((w.alloc (.cells #[.slice A L.length c, .int .i64 f, .int .i64 m] 61)).alloc (.cells #[] 9)) (w.heap.size + 1) (.slice (some ⟨w.heap.size + 1, 0, none⟩) 0 0) [] := by
    have := World.ownsRow_lit (e := 9) (size := 1) (w.alloc (.cells #[.slice A L.length c, .int .i64 f, .int .i64 m] 61)) (base := w.heap.size + 1) #[] 0 (by simp) (by simp) (by simp)
    simpa [OwnS] using this
  simp only [List.toArray] at k0
  go_enter Tryz.func143, Tryz.ntmps143
  have c0 := k0.cell (i := 0) rfl
  go_wp2
  generalize (w.alloc (.cells #[.slice A L.length c, .int .i64 f, .int .i64 m] 61)).alloc (.cells #[] 9) = w1 at hb0 k0 hO0 c0 ⊢
  go_loopw [4, 6, 7, 8, 9] (fun o i _ _ _ wr => ∃ (k : Nat) (v : Value), k ≤ L.length ∧ i = .int .i64 k ∧ (∀ j (h : j < L.length), j < k → goodS L f j h) ∧ Blk wr w.heap.size 61 [.slice A L.length c, .int .i64 f, .int .i64 m] ∧ OwnS wr (w.heap.size + 1) o (allT (L.take k)) ∧ Below w.heap.size w wr) (fun _ i _ _ _ _ => L.length - (intOf i).toNat)
  case atStart => exact ⟨0, .bool true, by omega, rfl, fun j _ h => by omega, k0, by rw [List.take_zero]; exact hO0, hb0⟩
  case round =>
    obtain ⟨k, _, hk, rfl, hgood, u0, hO, hb⟩ := hrel
    clear c0 k0 hO0 hb0
    have c0 := u0.cell (i := 0) rfl
    by_cases hlt : k < L.length
    · obtain ⟨a, rfl, hab, d0, d1, d2, hff⟩ := (hL.below hb (Nat.le_refl _)).at k hlt
      have hfile := fsOK_file HF.out hlt
      have hW := Blk.fresh wr 53 [.string L[k].name, .string L[k].data, .int .i64 L[k].sync]
      have t0 := u0.alloc (.cells #[.string L[k].name, .string L[k].data, .int .i64 L[k].sync] 53)
      have hO4 : OwnS (wr.alloc (.cells #[.string L[k].name, .string L[k].data, .int .i64 L[k].sync] 53)) _ _ _ := World.ownsRow.alloc hO (.cells #[.string L[k].name, .string L[k].data, .int .i64 L[k].sync] 53)
      have hb4 := hb.alloc hb.size (.cells #[.string L[k].name, .string L[k].data, .int .i64 L[k].sync] 53)
      simp only [List.toArray] at hW t0 hO4 hb4
      have x1 := hW.cell (i := 1) rfl
      go_wp2_with (fail)
      clear x1
      generalize wr.alloc (.cells #[.string L[k].name, .string L[k].data, .int .i64 L[k].sync] 53) = w3 at hW t0 hO4 hb4 ⊢
      generalize hB : wr.heap.size = B at *
      refine (specRead_any L[k].data _ (by omega)).mono ?_
      obtain ⟨P, HP⟩ : ∃ P, Hid (tx L[k] = P) := ⟨_, Lib.hid rfl⟩
      obtain ⟨E, HE⟩ : ∃ E, Hid (en L[k] = E) := ⟨_, Lib.hid rfl⟩
      have HP' := HP.out
      have HE' := HE.out
      unfold tx at HP'
      unfold en at HE'
      have hPl : P.length ≤ 3000 := by rw [← HP', List.length_map]; have := frs_len (s := L[k].data) L[k].data.size 0 (by omega); omega
      rw [HP', HE']
      clear HP' HE'
      rintro e w4 ⟨u, rfl, hT4, hb9⟩
      obtain ⟨Au, cu, rfl⟩ := ownS_some hT4
      have hW4 := hW.below hb9 hW.lt
      have t4 := t0.below hb9 t0.lt
      have hO5 : OwnS w4 _ _ _ := row_below hO4 hb9 (Nat.le_refl _)
      have hb5 := hb4.trans (hb9.mono hb4.size)
      clear hW t0 hO4 hb4 hb9 d0 d1 d2 c0 u0 hO hb
      have x0 := hW4.cell (i := 0) rfl
      have x1 := hW4.cell (i := 1) rfl
      have x2 := t4.cell (i := 1) rfl
      go_wp2_with (fail)
      obtain ⟨s, HS⟩ : ∃ s, Hid (segN (f + (k : Int) * 4) = s) := ⟨_, Lib.hid rfl⟩
      have NR : Hid (∀ W, Calls Tryz.prog 138 #[.int .i64 (f + (k : Int) * 4)] W fun e w' => e = .returned (.string s) ∧ Below W.heap.size W w') := Lib.hid fun W => by have := specSegName_any (f + (k : Int) * 4) W; rw [HS.out] at this; exact this
      have hal : (allT (L.take k)).length ≤ 4 * k := allT_le L k (by omega) (fun i hi h => (hgood i hi h).2.2.1)
      obtain ⟨q, hq⟩ : ∃ q, q + 1 = L.length := ⟨L.length - 1, by omega⟩
      have e1 : IntKind.i64.wrap ((k : Int) * 4) = (k : Int) * 4 := IntWalk.i64_in _ (by omega)
      have e2 : IntKind.i64.wrap (f + (k : Int) * 4) = f + (k : Int) * 4 := IntWalk.i64_in _ (by omega)
      have e3 : IntKind.i64.wrap ((L.length : Int) - 1) = (q : Int) := by rw [IntWalk.i64_in _ (by omega)]; omega
      obtain ⟨I, fw, hI, g5, h6, g6, g7⟩ := class_grown w4
      have g0 : ∀ s, (fw s).cell? ⟨B, 0, none⟩ = some (.string L[k].name) := fun s => kept_cell (h6 s) x0
      have g1 : ∀ s, (fw s).cell? ⟨B, 1, none⟩ = some (.string L[k].data) := fun s => kept_cell (h6 s) x1
      have g2 : ∀ s, (fw s).cell? ⟨w.heap.size, 1, none⟩ = some (.int .i64 f) := fun s => kept_cell (h6 s) x2
      have G7 := Lib.hid g7
      have G6 := Lib.hid g6
      clear h6 x0 x1 x2 g7

      by_cases h1 : L[k].name = s
      · by_cases h2 : E = L[k].data.size
        · by_cases h3 : P.length ≤ 4
          · by_cases h4 : k + 1 < L.length
            · by_cases h5 : P.length = 4
              · have dn := str_bne_f h1; have dn2 := str_beq_t h1
                have de : ((E : Int) != (L[k].data.size : Int)) = false := by simp; omega
                have dl : decide ((4 : Int) < (P.length : Int)) = false := by simp; omega
                have dk : decide ((k : Int) < (q : Int)) = true := by simp; omega
                have dk2 : decide (k < q) = true := by simp; omega
                have dq : ((k : Int) == (q : Int)) = false := by simp; omega
                have d4 : ((P.length : Int) != 4) = false := by simp; omega
                have d5 : ((P.length : Int) == 4) = true := by simp; omega
                have GD : Hid (goodS L f k hlt) := Lib.hid ⟨h1.trans HS.out.symm, HE.out.trans h2, by rw [HP.out]; omega, fun _ => by rw [HP.out]; exact h5, fun h => by omega⟩
                refine wp_region_kept fw (by kernel_rfl) (by kernel_rfl) g5 ?_
                repeat (first
                  | go_big_quiet_skip
                  | (go_big_quiet_want; go_big_quiet_op; first | go_big_quiet_on | (apply Exists.intro; refine ⟨fun s => ?_, ?_⟩; (go_at_call 138; refine (NR.out _).mono ?_; rintro e w9 ⟨rfl, hb9⟩; exact ⟨rfl, G6.out _ _ hb9⟩); go_big_quiet_on)))
                refine wpQuiet_nil ?_
                intro w5 h5
                have hb6 := G7.out _ h5
                have hw5 := hb5.trans (hb6.mono hb5.size)
                clear g0 g1 g2 g5 g6 h5
                have hO6 : OwnS w5 (w.heap.size + 1) _ (allT (L.take k)) := row_below hO5 hb6 (Nat.le_refl _)
                have hT5 : OwnS w5 _ _ P := row_below hT4 hb6 (Nat.le_refl _)
                have u5 := t4.below hb6 t4.lt
                go_wp2_with (at_builtin; refine wpList_append_S rfl _ _ rfl (w.heap.size + 1) _ (allT (L.take k)) rfl hO6 _ _ P rfl hT5 (by omega) (by have := u5.lt; omega) ?_; intro v6 w6 hO7 hg6)
                have hw6 := hw5.grown hg6 (by have := hw5.size; omega) (fun j e => by have := (hO6.lt j e).1; omega)
                have u6 := u5.grown hg6 (fun e => by have := (hO6.lt _ e.symm).1; omega)
                exact ⟨⟨k + 1, .bool true, by omega, by go_num, fun j hj hjk => (by
                  by_cases e : j = k
                  · subst e; exact GD.out
                  · exact hgood j hj (by omega)), u6, by rw [allT_take L k hlt, HP.out]; exact hO7, hw6⟩, by simp [intOf]; omega⟩
              · have dn := str_bne_f h1; have dn2 := str_beq_t h1
                have de : ((E : Int) != (L[k].data.size : Int)) = false := by simp; omega
                have dl : decide ((4 : Int) < (P.length : Int)) = false := by simp; omega
                have dk : decide ((k : Int) < (q : Int)) = true := by simp; omega
                have dk2 : decide (k < q) = true := by simp; omega
                have dq : ((k : Int) == (q : Int)) = false := by simp; omega
                have d4 : ((P.length : Int) != 4) = true := by simp; omega
                have d5 : ((P.length : Int) == 4) = false := by simp; omega
                have GB : Hid (¬ goodS L f k hlt) := Lib.hid (fun h => h5 (by rw [← HP.out]; exact h.2.2.2.1 h4))
                refine wp_region_kept fw (by kernel_rfl) (by kernel_rfl) g5 ?_
                repeat (first
                  | go_big_quiet_skip
                  | (go_big_quiet_want; go_big_quiet_op; first | go_big_quiet_on | (apply Exists.intro; refine ⟨fun s => ?_, ?_⟩; (go_at_call 138; refine (NR.out _).mono ?_; rintro e w9 ⟨rfl, hb9⟩; exact ⟨rfl, G6.out _ _ hb9⟩); go_big_quiet_on)))
                refine wpQuiet_nil ?_
                intro w5 h5
                have hb6 := G7.out _ h5
                have hw5 := hb5.trans (hb6.mono hb5.size)
                clear g0 g1 g2 g5 g6 h5
                go_wp2
                refine bodyPost_ret (v := .tuple #[u4, .bool false]) (by simp [results, Tryz.results143, go_sem]) rfl (txPost_no (fun h => GB.out (h k hlt)) hw5)
            · by_cases h5 : P.length = 4
              · have dn := str_bne_f h1; have dn2 := str_beq_t h1
                have de : ((E : Int) != (L[k].data.size : Int)) = false := by simp; omega
                have dl : decide ((4 : Int) < (P.length : Int)) = false := by simp; omega
                have dk : decide ((k : Int) < (q : Int)) = false := by simp; omega
                have dk2 : decide (k < q) = false := by simp; omega
                have dq : ((k : Int) == (q : Int)) = true := by simp; omega
                have d4 : ((P.length : Int) != 4) = false := by simp; omega
                have d5 : ((P.length : Int) == 4) = true := by simp; omega
                have GB : Hid (¬ goodS L f k hlt) := Lib.hid (fun h => h.2.2.2.2 (by omega) (by rw [HP.out]; exact h5))
                refine wp_region_kept fw (by kernel_rfl) (by kernel_rfl) g5 ?_
                repeat (first
                  | go_big_quiet_skip
                  | (go_big_quiet_want; go_big_quiet_op; first | go_big_quiet_on | (apply Exists.intro; refine ⟨fun s => ?_, ?_⟩; (go_at_call 138; refine (NR.out _).mono ?_; rintro e w9 ⟨rfl, hb9⟩; exact ⟨rfl, G6.out _ _ hb9⟩); go_big_quiet_on)))
                refine wpQuiet_nil ?_
                intro w5 h5
                have hb6 := G7.out _ h5
                have hw5 := hb5.trans (hb6.mono hb5.size)
                clear g0 g1 g2 g5 g6 h5
                go_wp2
                refine bodyPost_ret (v := .tuple #[u4, .bool false]) (by simp [results, Tryz.results143, go_sem]) rfl (txPost_no (fun h => GB.out (h k hlt)) hw5)
              · have dn := str_bne_f h1; have dn2 := str_beq_t h1
                have de : ((E : Int) != (L[k].data.size : Int)) = false := by simp; omega
                have dl : decide ((4 : Int) < (P.length : Int)) = false := by simp; omega
                have dk : decide ((k : Int) < (q : Int)) = false := by simp; omega
                have dk2 : decide (k < q) = false := by simp; omega
                have dq : ((k : Int) == (q : Int)) = true := by simp; omega
                have d4 : ((P.length : Int) != 4) = true := by simp; omega
                have d5 : ((P.length : Int) == 4) = false := by simp; omega
                have GD : Hid (goodS L f k hlt) := Lib.hid ⟨h1.trans HS.out.symm, HE.out.trans h2, by rw [HP.out]; omega, fun h => by omega, fun _ => by rw [HP.out]; exact h5⟩
                refine wp_region_kept fw (by kernel_rfl) (by kernel_rfl) g5 ?_
                repeat (first
                  | go_big_quiet_skip
                  | (go_big_quiet_want; go_big_quiet_op; first | go_big_quiet_on | (apply Exists.intro; refine ⟨fun s => ?_, ?_⟩; (go_at_call 138; refine (NR.out _).mono ?_; rintro e w9 ⟨rfl, hb9⟩; exact ⟨rfl, G6.out _ _ hb9⟩); go_big_quiet_on)))
                refine wpQuiet_nil ?_
                intro w5 h5
                have hb6 := G7.out _ h5
                have hw5 := hb5.trans (hb6.mono hb5.size)
                clear g0 g1 g2 g5 g6 h5
                have hO6 : OwnS w5 (w.heap.size + 1) _ (allT (L.take k)) := row_below hO5 hb6 (Nat.le_refl _)
                have hT5 : OwnS w5 _ _ P := row_below hT4 hb6 (Nat.le_refl _)
                have u5 := t4.below hb6 t4.lt
                go_wp2_with (at_builtin; refine wpList_append_S rfl _ _ rfl (w.heap.size + 1) _ (allT (L.take k)) rfl hO6 _ _ P rfl hT5 (by omega) (by have := u5.lt; omega) ?_; intro v6 w6 hO7 hg6)
                have hw6 := hw5.grown hg6 (by have := hw5.size; omega) (fun j e => by have := (hO6.lt j e).1; omega)
                have u6 := u5.grown hg6 (fun e => by have := (hO6.lt _ e.symm).1; omega)
                exact ⟨⟨k + 1, .bool true, by omega, by go_num, fun j hj hjk => (by
                  by_cases e : j = k
                  · subst e; exact GD.out
                  · exact hgood j hj (by omega)), u6, by rw [allT_take L k hlt, HP.out]; exact hO7, hw6⟩, by simp [intOf]; omega⟩
          · have dn := str_bne_f h1; have dn2 := str_beq_t h1
            have de : ((E : Int) != (L[k].data.size : Int)) = false := by simp; omega
            have dl : decide ((4 : Int) < (P.length : Int)) = true := by simp; omega
            have GB : Hid (¬ goodS L f k hlt) := Lib.hid (fun h => h3 (by rw [← HP.out]; exact h.2.2.1))
            refine wp_region_kept fw (by kernel_rfl) (by kernel_rfl) g5 ?_
            repeat (first
              | go_big_quiet_skip
              | (go_big_quiet_want; go_big_quiet_op; first | go_big_quiet_on | (apply Exists.intro; refine ⟨fun s => ?_, ?_⟩; (go_at_call 138; refine (NR.out _).mono ?_; rintro e w9 ⟨rfl, hb9⟩; exact ⟨rfl, G6.out _ _ hb9⟩); go_big_quiet_on)))
            refine wpQuiet_nil ?_
            intro w5 h5
            have hb6 := G7.out _ h5
            have hw5 := hb5.trans (hb6.mono hb5.size)
            clear g0 g1 g2 g5 g6 h5
            go_wp2
            refine bodyPost_ret (v := .tuple #[u4, .bool false]) (by simp [results, Tryz.results143, go_sem]) rfl (txPost_no (fun h => GB.out (h k hlt)) hw5)
        · have dn := str_bne_f h1; have dn2 := str_beq_t h1
          have de : ((E : Int) != (L[k].data.size : Int)) = true := by simp; omega
          have GB : Hid (¬ goodS L f k hlt) := Lib.hid (fun h => h2 (HE.out.symm.trans h.2.1))
          refine wp_region_kept fw (by kernel_rfl) (by kernel_rfl) g5 ?_
          repeat (first
            | go_big_quiet_skip
            | (go_big_quiet_want; go_big_quiet_op; first | go_big_quiet_on | (apply Exists.intro; refine ⟨fun s => ?_, ?_⟩; (go_at_call 138; refine (NR.out _).mono ?_; rintro e w9 ⟨rfl, hb9⟩; exact ⟨rfl, G6.out _ _ hb9⟩); go_big_quiet_on)))
          refine wpQuiet_nil ?_
          intro w5 h5
          have hb6 := G7.out _ h5
          have hw5 := hb5.trans (hb6.mono hb5.size)
          clear g0 g1 g2 g5 g6 h5
          go_wp2
          refine bodyPost_ret (v := .tuple #[u4, .bool false]) (by simp [results, Tryz.results143, go_sem]) rfl (txPost_no (fun h => GB.out (h k hlt)) hw5)
      · have dn := str_bne_t h1; have dn2 := str_beq_f h1
        have GB : Hid (¬ goodS L f k hlt) := Lib.hid (fun h => h1 (h.1.trans HS.out))
        refine wp_region_kept fw (by kernel_rfl) (by kernel_rfl) g5 ?_
        repeat (first
          | go_big_quiet_skip
          | (go_big_quiet_want; go_big_quiet_op; first | go_big_quiet_on | (apply Exists.intro; refine ⟨fun s => ?_, ?_⟩; (go_at_call 138; refine (NR.out _).mono ?_; rintro e w9 ⟨rfl, hb9⟩; exact ⟨rfl, G6.out _ _ hb9⟩); go_big_quiet_on)))
        refine wpQuiet_nil ?_
        intro w5 h5
        have hb6 := G7.out _ h5
        have hw5 := hb5.trans (hb6.mono hb5.size)
        clear g0 g1 g2 g5 g6 h5
        go_wp2
        refine bodyPost_ret (v := .tuple #[u4, .bool false]) (by simp [results, Tryz.results143, go_sem]) rfl (txPost_no (fun h => GB.out (h k hlt)) hw5)
    · obtain rfl : k = L.length := by omega
      have hlen : L.take L.length = L := List.take_of_length_le (Nat.le_refl _)
      rw [hlen] at hO
      have hO' := ownS_base hO (base' := w.heap.size) (by omega)
      obtain ⟨A5, c5, rfl⟩ := ownS_some hO
      by_cases h0 : 0 < L.length
      · go_wp2
        exact bodyPost_ret (v := .tuple #[.slice A5 (allT L).length c5, .bool true]) (by simp [results, Tryz.results143, go_sem]) rfl ⟨_, true, rfl, ⟨fun _ => ⟨fun i h => hgood i h h, h0⟩, fun _ => rfl⟩, fun _ => hO', hb⟩
      · go_wp2
        exact bodyPost_ret (v := .tuple #[.slice A5 (allT L).length c5, .bool false]) (by simp [results, Tryz.results143, go_sem]) rfl ⟨_, false, rfl, ⟨(fun e => by cases e), fun e => absurd e.2 h0⟩, (fun e => by cases e), hb⟩
end Go.Proofs.YtebkblmejkkhfaaGreatDoor
