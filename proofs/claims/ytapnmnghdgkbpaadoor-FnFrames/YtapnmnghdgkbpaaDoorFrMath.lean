/- Plain facts: a frame is read back wherever it stands; frames one behind the other are read back; of a beginning of them the first ones. -/
import Derived.Test.YtapnmnghdgkbpaaDoorFr
import Derived.Test.YtapnmnghdgkbpaaDoorFramesOf
namespace Go.Proofs.YtapnmnghdgkbpaaDoor
open Go.RowKit
set_option linter.unusedVariables false

theorem ext_self (x : ByteArray) : x.data.extract 0 x.size = x.data := Array.extract_size
theorem ext_out (x : ByteArray) (j : Nat) : x.data.extract x.size j = #[] := Array.extract_empty_of_size_le_start (Nat.le_refl _)
theorem ext_all {x : ByteArray} {k : Nat} (h : x.size ≤ k) : x.extract 0 k = x := ByteArray.ext (by rw [ByteArray.data_extract]; exact Array.extract_eq_self_of_le h)
theorem uns_seal (t : ByteArray) : uns (sealS t) = .ok t := by
  have h4 := four_size (crcOf 0 t)
  have hs := sealS_size t
  have e1 : (sealS t).extract 0 ((sealS t).size - 4) = t := by
    rw [hs, show t.size + 4 - 4 = t.size by omega]
    unfold sealS
    apply ByteArray.ext
    simp [ByteArray.data_extract]
  have e2 : (sealS t).extract ((sealS t).size - 4) (sealS t).size = strOfNums (fourN (crcOf 0 t)) := by
    rw [hs, show t.size + 4 - 4 = t.size by omega]
    unfold sealS
    have hz : (strOfNums (fourN (crcOf 0 t))).data.size = 4 := h4
    apply ByteArray.ext
    simp [ByteArray.data_extract, ext_out]
    exact .inr (Nat.le_of_eq h4)
  unfold uns
  rw [if_neg (by omega), e1, e2, if_pos (by simp)]
theorem byte_at {a b c : ByteArray} {k : Nat} (hk : k < b.size) (h : a.size + k < (a ++ b ++ c).size) : (a ++ b ++ c)[a.size + k] = b[k] := by
  rw [ByteArray.getElem_append_left (by simp; omega), ByteArray.getElem_append_right (by omega)]
  congr 1
  omega
/-- A length of two bytes at most is read back. -/
theorem rd_vint {a c : ByteArray} {u : Nat} (hu : u < 16384) : rd (a ++ strOfNums (vint u) ++ c) a.size 10 0 0 = .ok (u, (vint u).length) := by
  by_cases h1 : u < 128
  · obtain ⟨b, hb⟩ : ∃ b, strOfNums (vint u) = b := ⟨_, rfl⟩
    have hz : b.size = 1 := by rw [← hb, strOfNums_size, vint_small h1]; rfl
    have hl : (vint u).length = 1 := by rw [vint_small h1]; rfl
    rw [hb, hl]
    have hsz : (a ++ b ++ c).size = a.size + b.size + c.size := by simp
    have g0 : b[0].toNat = u := by
      subst hb
      simp [strOfNums, vint_small h1, ByteArray.getElem_eq_getElem_data]
      omega
    have hlt : a.size + 0 < (a ++ b ++ c).size := by omega
    have e0 := byte_at (a := a) (b := b) (c := c) (k := 0) (by omega) hlt
    rw [rd, dif_pos hlt, e0, g0, if_neg (by omega), if_pos h1, if_neg (by omega)]
    simp
  · obtain ⟨b, hb⟩ : ∃ b, strOfNums (vint u) = b := ⟨_, rfl⟩
    have h2 : u / 128 < 128 := by omega
    have hv : vint u = [((u % 128 + 128 : Nat) : Int), ((u / 128 : Nat) : Int)] := by rw [vint_large h1, vint_small h2]
    have hz : b.size = 2 := by rw [← hb, strOfNums_size, hv]; rfl
    have hl : (vint u).length = 2 := by rw [hv]; rfl
    rw [hb, hl]
    have hsz : (a ++ b ++ c).size = a.size + b.size + c.size := by simp
    have g0 : b[0].toNat = u % 128 + 128 := by
      subst hb
      simp [strOfNums, hv, ByteArray.getElem_eq_getElem_data]
      omega
    have g1 : b[1].toNat = u / 128 := by
      subst hb
      simp [strOfNums, hv, ByteArray.getElem_eq_getElem_data]
      omega
    have hl0 : a.size + 0 < (a ++ b ++ c).size := by omega
    have hl1 : a.size + (0 + 1) < (a ++ b ++ c).size := by omega
    have e0 := byte_at (a := a) (b := b) (c := c) (k := 0) (by omega) hl0
    have e1 := byte_at (a := a) (b := b) (c := c) (k := 0 + 1) (by omega) hl1
    rw [rd, dif_pos hl0, e0, g0, if_neg (by omega), if_neg (by omega), rd, dif_pos hl1, e1, g1, if_neg (by omega), if_pos h2, if_neg (by omega)]
    simp
    omega
theorem unzig_zig {n : Nat} : unzig (zig (n : Int)) = n := by
  have := zig_pos (n := (n : Int)) (by omega)
  unfold unzig
  rw [if_neg (by omega)]
  omega
theorem zig_nat (n : Nat) : zig (n : Int) = 2 * n := by have := zig_pos (n := (n : Int)) (by omega); omega
theorem mid_extract {a b c : ByteArray} : (a ++ b ++ c).extract a.size (a.size + b.size) = b := by
  apply ByteArray.ext
  simp [ByteArray.data_extract, ext_out, ext_self]
theorem frame_parts (t : ByteArray) : frameS t = strOfNums (vint (zig ((t.size + 4 : Nat) : Int))) ++ sealS t := by
  unfold frameS ptext; rw [sealS_size]
/-- A frame is read back wherever it stands. -/
theorem fr_at {a c t : ByteArray} (ht : t.size ≤ 1000) : fr (a ++ frameS t ++ c) a.size = .ok (t, a.size + (frameS t).size) := by
  obtain ⟨v, hv⟩ : ∃ v, strOfNums (vint (zig ((t.size + 4 : Nat) : Int))) = v := ⟨_, rfl⟩
  have hz := zig_nat (t.size + 4)
  have hvs : v.size = (vint (zig ((t.size + 4 : Nat) : Int))).length := by rw [← hv, strOfNums_size]
  have hfp := frame_parts t
  rw [hv] at hfp
  have hss := sealS_size t
  have hfs : (frameS t).size = v.size + (t.size + 4) := by rw [hfp, ByteArray.size_append, hss]
  have hrd := rd_vint (a := a) (c := sealS t ++ c) (u := zig ((t.size + 4 : Nat) : Int)) (by omega)
  rw [hv, ← hvs] at hrd
  have hs : a ++ frameS t ++ c = a ++ v ++ (sealS t ++ c) := by rw [hfp]; simp [ByteArray.append_assoc]
  have hex : (a ++ v ++ (sealS t ++ c)).extract (a.size + v.size) (a.size + v.size + (t.size + 4)) = sealS t := by
    have h := mid_extract (a := a ++ v) (b := sealS t) (c := c)
    rw [hss, ByteArray.size_append, ByteArray.append_assoc (a := a ++ v)] at h
    exact h
  have hsz : (a ++ v ++ (sealS t ++ c)).size = a.size + v.size + (t.size + 4 + c.size) := by simp [hss]
  rw [hs, hfs]
  unfold fr gt
  rw [hrd]
  simp only
  rw [unzig_zig, if_neg (by omega), Int.toNat_natCast, if_neg (by rw [hsz]; omega)]
  simp only
  rw [hex]
  unfold frU
  rw [uns_seal]
  simp only
  rw [if_neg (by omega)]
  simp only [Except.ok.injEq, Prod.mk.injEq, true_and]
  omega
/-- A frame cut short is none. -/
theorem fr_short {a t : ByteArray} {k : Nat} (ht : t.size ≤ 1000) (hk : k < (frameS t).size) : ∃ d, fr (a ++ (frameS t).extract 0 k) a.size = .error d := by
  obtain ⟨v, hv⟩ : ∃ v, strOfNums (vint (zig ((t.size + 4 : Nat) : Int))) = v := ⟨_, rfl⟩
  have hz := zig_nat (t.size + 4)
  have hvs : v.size = (vint (zig ((t.size + 4 : Nat) : Int))).length := by rw [← hv, strOfNums_size]
  have hfp := frame_parts t
  rw [hv] at hfp
  have hss := sealS_size t
  have hfs : (frameS t).size = v.size + (t.size + 4) := by rw [hfp, ByteArray.size_append, hss]
  have hxs : ((frameS t).extract 0 k).size = k := by simp; omega
  have hsz : (a ++ (frameS t).extract 0 k).size = a.size + k := by rw [ByteArray.size_append, hxs]
  by_cases hkv : v.size ≤ k
  · -- the length is whole
    have hsp : a ++ (frameS t).extract 0 k = a ++ v ++ (frameS t).extract v.size k := by
      have h1 : (frameS t).extract 0 v.size = v := by
        rw [hfp]
        apply ByteArray.ext
        simp [ByteArray.data_extract]
      have h2 : (frameS t).extract 0 k = (frameS t).extract 0 v.size ++ (frameS t).extract v.size k := by
        rw [ByteArray.extract_append_extract]
        congr 1 <;> omega
      rw [h2, h1, ByteArray.append_assoc]
    have hrd := rd_vint (a := a) (c := (frameS t).extract v.size k) (u := zig ((t.size + 4 : Nat) : Int)) (by omega)
    rw [hv, ← hvs, ← hsp] at hrd
    unfold fr gt
    rw [hrd]
    simp only
    rw [unzig_zig, if_neg (by omega), Int.toNat_natCast, if_pos (by rw [hsz]; omega)]
    exact ⟨_, rfl⟩
  · -- the length itself is cut
    have hl2 : v.size ≤ 2 := by rw [hvs]; exact vint_low _ (by omega)
    have hb0 : 0 < v.size := by rw [hvs]; exact vint_pos _
    unfold fr gt
    by_cases hk0 : k = 0
    · have hn : ¬ a.size + 0 < (a ++ (frameS t).extract 0 k).size := by omega
      rw [rd, dif_neg hn]
      exact ⟨_, rfl⟩
    · have hk1 : k = 1 := by omega
      have hv2 : v.size = 2 := by omega
      have hl0 : a.size + 0 < (a ++ (frameS t).extract 0 k).size := by omega
      have hl1 : ¬ a.size + (0 + 1) < (a ++ (frameS t).extract 0 k).size := by omega
      have hbig : ¬ zig ((t.size + 4 : Nat) : Int) < 128 := fun h => by rw [vint_small h] at hvs; simp at hvs; omega
      have e0 : (a ++ (frameS t).extract 0 k)[a.size + 0].toNat = zig ((t.size + 4 : Nat) : Int) % 128 + 128 := by
        rw [ByteArray.getElem_append_right (by omega), ByteArray.getElem_extract]
        have hlt : 0 < v.size := by omega
        have : (frameS t)[0 + (a.size + 0 - a.size)]'(by omega) = v[0] := by
          have e : (frameS t)[0]'(by omega) = v[0] := by
            rw [getElem_congr_coll hfp, ByteArray.getElem_append_left hlt]
          rw [← e]
          congr 1
          omega
        have hv' : v = strOfNums (((zig ((t.size + 4 : Nat) : Int) % 128 + 128 : Nat) : Int) :: vint (zig ((t.size + 4 : Nat) : Int) / 128)) := by rw [← hv, vint_large hbig]
        rw [this, getElem_congr_coll hv']
        show (UInt8.ofNat (((zig ((t.size + 4 : Nat) : Int) % 128 + 128 : Nat) : Int)).toNat).toNat = _
        rw [Int.toNat_natCast]
        obtain ⟨u, hu⟩ : ∃ u, zig ((t.size + 4 : Nat) : Int) = u := ⟨_, rfl⟩
        rw [hu]
        simp
        omega
      rw [rd, dif_pos hl0, e0, if_neg (by omega), if_neg (by omega), rd, dif_neg hl1]
      exact ⟨_, rfl⟩
/-- Frames one behind the other. -/
noncomputable def cat : List ByteArray → ByteArray
  | [] => ⟨#[]⟩
  | t :: r => frameS t ++ cat r
theorem emp_append (s : ByteArray) : (⟨#[]⟩ : ByteArray) ++ s = s := ByteArray.empty_append
theorem append_emp (s : ByteArray) : s ++ (⟨#[]⟩ : ByteArray) = s := ByteArray.append_empty
theorem frL_cat : ∀ (L : List ByteArray) (acc : ByteArray), frL L acc ≠ ⟨#[]⟩ → frL L acc = acc ++ cat L ∧ ∀ t ∈ L, t.size ≤ 1000 := by
  intro L
  induction L with
  | nil => intro acc _; exact ⟨by rw [frL, cat, append_emp], by simp⟩
  | cons t r ih =>
    intro acc h
    rw [frL] at h ⊢
    split at h
    · exact absurd rfl h
    · rename_i h1
      split at h
      · exact absurd rfl h
      · rename_i h2
        obtain ⟨h3, h4⟩ := ih _ h
        rw [if_neg h1, if_neg h2, h3, cat, ByteArray.append_assoc]
        exact ⟨rfl, fun x hx => by
          rcases List.mem_cons.1 hx with rfl | hx
          · omega
          · exact h4 x hx⟩
theorem fr_end (s : ByteArray) : ∃ d, fr s s.size = .error d := by
  unfold fr gt
  rw [rd, dif_neg (by omega)]
  exact ⟨_, rfl⟩
/-- Frames one behind the other are read back. -/
theorem frs_cat : ∀ (L : List ByteArray) (a : ByteArray), (∀ t ∈ L, t.size ≤ 1000) → (frs (a ++ cat L) a.size).map Prod.fst = L ∧ (L ≠ [] → endOf (frs (a ++ cat L) a.size) = (a ++ cat L).size) := by
  intro L
  induction L with
  | nil =>
    intro a _
    obtain ⟨d, hd⟩ := fr_end a
    rw [cat, append_emp, frs_err hd]
    exact ⟨rfl, fun h => absurd rfl h⟩
  | cons t r ih =>
    intro a h
    have h1 := fr_at (a := a) (c := cat r) (h t (by simp))
    have h2 := ih (a ++ frameS t) (fun x hx => h x (by simp [hx]))
    have e : a ++ cat (t :: r) = a ++ frameS t ++ cat r := by rw [cat, ByteArray.append_assoc]
    rw [e, frs_ok h1]
    rw [ByteArray.size_append] at h2
    refine ⟨by rw [List.map_cons, h2.1], fun _ => ?_⟩
    cases r with
    | nil =>
      have hn : frs (a ++ frameS t ++ cat []) (a.size + (frameS t).size) = [] := List.map_eq_nil_iff.1 h2.1
      rw [hn, cat, append_emp, ByteArray.size_append]
      rfl
    | cons t2 r2 =>
      have h3 := h2.2 (by simp)
      have hne : frs (a ++ frameS t ++ cat (t2 :: r2)) (a.size + (frameS t).size) ≠ [] := fun e => by rw [e] at h2; simp at h2
      unfold endOf at h3 ⊢
      rw [List.getLast?_cons_of_ne_nil hne]
      exact h3
theorem frs_in {s : ByteArray} : ∀ (n p : Nat), s.size - p ≤ n → ∀ x ∈ frs s p, x.2 ≤ s.size := by
  intro n
  induction n with
  | zero =>
    intro p hp x hx
    cases h : fr s p with
    | error c => rw [frs_err h] at hx; cases hx
    | ok y => obtain ⟨t, q⟩ := y; have := fr_ok h; omega
  | succ n ih =>
    intro p hp x hx
    cases h : fr s p with
    | error c => rw [frs_err h] at hx; cases hx
    | ok y =>
      obtain ⟨t, q⟩ := y
      have := fr_ok h
      rw [frs_ok h] at hx
      rcases List.mem_cons.1 hx with rfl | hx
      · exact this.2.1
      · exact ih q (by omega) x hx
theorem endOf_le (s : ByteArray) : endOf (frs s 0) ≤ s.size := by
  unfold endOf
  cases h : (frs s 0).getLast? with
  | none => simp
  | some x =>
    have := frs_in s.size 0 (by omega) x (List.mem_of_getLast? h)
    simpa using this
/-- Of a beginning of frames the first ones are read back. -/
theorem frs_cut : ∀ (L : List ByteArray) (a : ByteArray) (k : Nat), (∀ t ∈ L, t.size ≤ 1000) → k < (cat L).size → ∃ m, m < L.length ∧ (frs (a ++ (cat L).extract 0 k) a.size).map Prod.fst = L.take m := by
  intro L
  induction L with
  | nil =>
    intro a k _ h
    have h0 : k < 0 := h
    omega
  | cons t r ih =>
    intro a k h hk
    have ht := h t (by simp)
    rw [cat, ByteArray.size_append] at hk
    by_cases hf : k < (frameS t).size
    · obtain ⟨d, hd⟩ := fr_short (a := a) ht hf
      have e : (cat (t :: r)).extract 0 k = (frameS t).extract 0 k := by
        rw [cat]
        apply ByteArray.ext
        have : (frameS t).size = (frameS t).data.size := rfl
        simp [ByteArray.data_extract]
        omega
      rw [e, frs_err hd]
      exact ⟨0, by simp, rfl⟩
    · have e : a ++ (cat (t :: r)).extract 0 k = a ++ frameS t ++ (cat r).extract 0 (k - (frameS t).size) := by
        rw [cat, ByteArray.append_assoc, ByteArray.extract_append, Nat.zero_sub]
        rw [ext_all (by omega)]
      obtain ⟨m, hm, hh⟩ := ih (a ++ frameS t) (k - (frameS t).size) (fun x hx => h x (by simp [hx])) (by omega)
      rw [e, frs_ok (fr_at ht)]
      rw [ByteArray.size_append] at hh
      exact ⟨m + 1, by simp; omega, by rw [List.map_cons, hh, List.take_succ_cons]⟩
end Go.Proofs.YtapnmnghdgkbpaaDoor
