/-
  The document's answer: Set. Premises: a row of keys with times of one's own, in order, each key once.
-/
import Derived.Test.YtbaghdfalhlhcaaQ
namespace Go.Proofs.Ytbaghdfalhlhcaa
open Go.RowKit

/-- How a key and a time are held against another. -/
theorem less_ways (y : Sc) (k : ByteArray) (t : Int) : (lessS y (k, t) = true ∧ (decide (y.2 < t) = true ∨ (decide (y.2 < t) = false ∧ (y.2 == t) = true ∧ Op.bytesLess y.1.toList k.toList = true))) ∨ (lessS y (k, t) = false ∧ decide (y.2 < t) = false ∧ ((y.2 == t) = false ∨ ((y.2 == t) = true ∧ Op.bytesLess y.1.toList k.toList = false))) := by
  have h := less_or y (k, t)
  simp only at h
  cases h1 : decide (y.2 < t) with
  | true => exact Or.inl ⟨by rw [h, h1]; rfl, Or.inl rfl⟩
  | false =>
    cases h2 : (y.2 == t) with
    | false => exact Or.inr ⟨by rw [h, h1, h2]; rfl, rfl, Or.inl rfl⟩
    | true =>
      cases h3 : Op.bytesLess y.1.toList k.toList with
      | true => exact Or.inl ⟨by rw [h, h1, h2, h3]; rfl, Or.inr ⟨rfl, rfl, rfl⟩⟩
      | false => exact Or.inr ⟨by rw [h, h1, h2, h3]; rfl, rfl, Or.inr ⟨rfl, rfl⟩⟩
set_option maxHeartbeats 16000000 in
theorem rset_any {w : World} {B : Nat} {v : Value} {L : List Sc} (h : RowS w B v L) (hB : B ≤ w.heap.size) (hn : L.length ≤ 1000000) (hu : Uniq L) (hr : Rises L) (key : ByteArray) (t : Int) :
    Calls Try.prog 11 #[v, .string key, .int .i64 t] w fun e w' => ∃ v', e = .returned (.tuple #[v', .bool (!(atK L key).isSome)]) ∧ RowS w' B v' (setK L key t) ∧ Only [] w w' := by
  have hD := Lib.hid (rdrop_any h hB hn hu key)
  have hform := Lib.hid (setK_form L key t)
  have hr2 := Lib.hid (dropK_rises hr key)
  have hle2 := dropK_le L key
  obtain ⟨R, hR⟩ : ∃ R, R = dropK L key := ⟨_, rfl⟩
  rw [← hR] at hD hform hr2 hle2
  rw [hform.out]
  generalize (atK L key).isSome = b at *
  have hn2 : Hid (R.length ≤ 1000000) := Lib.hid (by omega)
  have hBH := Lib.hid hB
  obtain ⟨A, c, hve⟩ := h.len
  generalize L.length = n0 at hve
  subst hve
  clear h hn hu hr hle2 hR hB hform
  go_enter Try.func11, Try.ntmps11
  go_upto_region 2 with (go_at_call 13; ((with_reducible refine (hD.out).mono ?_); rintro e w2 ⟨v2, rfl, hR2, hO2⟩; obtain ⟨A2, c2, hve⟩ := hR2.len; have hRH := Lib.hid hR2; have hOH := Lib.hid hO2; clear hR2 hO2))
  have hcut := Lib.hid (fun (i : Nat) (hi : i ≤ R.length) => And.intro (cut_toS hRH.out i hi i rfl) (cut_fromS hRH.out i hi i rfl))
  have hstop : Hid (∀ i : Nat, (∀ (j : Nat) (y : Sc), j < i → R[j]? = some y → lessS y (key, t) = true) → (∀ y, R[i]? = some y → lessS y (key, t) = false) → i ≤ R.length → ahd R (key, t) = i) := Lib.hid (fun i h1 h2 h3 => ahd_stop hr2.out h1 h2 h3)
  subst hve
  have hcel := Lib.hid (rowS_cell hRH.out)
  obtain ⟨n, hnn⟩ : ∃ n, n = R.length := ⟨_, rfl⟩
  have hnH := Lib.hid hnn
  rw [← hnn] at hcel hn2 hcut hstop ⊢
  clear hnn hD
  have hn3 := hn2.out
  go_wp2_with fail
  go_loopw [9] (fun s9 wr => ∃ i : Nat, i ≤ n ∧ s9 = .int .i64 i ∧ w2 = wr ∧ Hid (∀ (j : Nat) (y : Sc), j < i → R[j]? = some y → lessS y (key, t) = true)) (fun s9 _ => n - (intOf s9).toNat)
  case atStart => exact ⟨0, by omega, rfl, rfl, Lib.hid (fun j y hj => by omega)⟩
  case round =>
    obtain ⟨i, hi, rfl, rfl, hpre⟩ := hrel
    by_cases hil : i < n
    · obtain ⟨y, g, hy, rfl, d1, d2⟩ := hcel.out i hil
      have hix := run_ixS g i n c2 hil
      have hilH := Lib.hid hil
      have hlt : decide ((i : Int) < (n : Int)) = true := decide_eq_true (by omega)
      have hltn : decide (i < n) = true := decide_eq_true hil
      have hyH := Lib.hid hy
      clear hil hy
      rcases less_ways y key t with ⟨hl, hw | ⟨hw1, hw2, hw3⟩⟩ | ⟨hl, hw1, hw2 | ⟨hw2, hw3⟩⟩
      · have hlH := Lib.hid hl
        clear hl
        go_wp2_with fail
        go_roundw
        case rel => exact ⟨i + 1, by have := hilH.out; omega, by go_num, trivial, Lib.hid (fun j z hj hz => by
          by_cases hji : j = i
          · subst hji
            rw [hyH.out] at hz
            cases hz
            exact hlH.out
          · exact hpre.out j z (by omega) hz)⟩
        case measure => have := hilH.out; simp [intOf]; omega
      · have hlH := Lib.hid hl
        clear hl
        go_wp2_with fail
        go_roundw
        case rel => exact ⟨i + 1, by have := hilH.out; omega, by go_num, trivial, Lib.hid (fun j z hj hz => by
          by_cases hji : j = i
          · subst hji
            rw [hyH.out] at hz
            cases hz
            exact hlH.out
          · exact hpre.out j z (by omega) hz)⟩
        case measure => have := hilH.out; simp [intOf]; omega
      · have hst : Hid (ahd R (key, t) = i) := Lib.hid (hstop.out i hpre.out (fun z hz => by rw [hyH.out] at hz; cases hz; exact hl) hi)
        clear hl
        obtain ⟨⟨S, hS, hsrc⟩, ⟨T, hT, htsrc⟩⟩ := hcut.out i hi
        have hsH := Lib.hid hsrc
        have htH := Lib.hid htsrc
        have hl1 : Hid ((R.take i).length ≤ 1000000) := Lib.hid (by rw [List.length_take]; have := hn2.out; have := hnH.out; omega)
        have hl2 : Hid ((R.take i).length + 1 + (R.drop i).length ≤ 1000001) := Lib.hid (by rw [List.length_take, List.length_drop]; have := hn2.out; have := hnH.out; omega)
        generalize hP : R.take i = P at *
        generalize hD : R.drop i = Q at *
        have hPH := Lib.hid hP
        have hDH := Lib.hid hD
        clear hsrc htsrc hP hD
        have hkn : decide ((i : Int) < 0) = false := decide_eq_false (by omega)
        go_wp2_with (first
          | (at_builtin; refine wpList_append_s (o := ⟨some 53, _, _, _, _, _⟩) (by rfl) (.const (.slice none 0 0)) (.tmp 52) (by rfl) w2.heap.size (.slice none 0 0) S [] P (by rfl) (by rfl) (rowS_nil _ _) hsH.out (by have := hl1.out; simp; omega) (Nat.le_refl _) ?_; intro v4 w4 hR4 hO4 hv4; have hR4H := Lib.hid (show RowS w4 w2.heap.size v4 P from hR4); have hO4H := Lib.hid (show Only [] w2 w4 from hO4); clear hR4 hO4 hv4)
          | (at_builtin; refine wpList_append_s (o := ⟨some 59, _, _, _, _, _⟩) (by rfl) (.tmp 54) (.tmp 58) (by rfl) w2.heap.size v4 (.slice (some ⟨w4.heap.size, 0, none⟩) 1 1) P [(key, t)] (by rfl) (by rfl) (hR4H.out.none ((Only.refl [] _).alloc (.cells #[.string key, .int .i64 t] 44))) (rowS_one (key, t) (Nat.le_refl _)).src (by have := hl1.out; simp; omega) (by have := hO4H.out.size; simp; omega) ?_; intro v5 w5 hR5 hO5 hv5; have hR5H := Lib.hid hR5; have hO5H := Lib.hid (own_newS hO5 (hO4H.out.alloc _) (fun k hk => (hR4H.out.lt k hk).1)); clear hR5 hO5 hv5)
          | (at_builtin; refine wpList_append_s (o := ⟨some 64, _, _, _, _, _⟩) (by rfl) (.tmp 60) (.tmp 63) (by rfl) w2.heap.size v5 T (P ++ [(key, t)]) Q (by rfl) (by rfl) hR5H.out (htH.out.none hO5H.out) (by have := hl2.out; simp; omega) hO5H.out.size ?_; intro v6 w6 hR6 hO6 hv6; have hR6H := Lib.hid hR6; have hO6H := Lib.hid (own_newS hO6 hO5H.out (fun k hk => (hR5H.out.lt k hk).1)); clear hR6 hO6 hv6))
        all_goals go_ret2
        have hsz := hOH.out.size
        have hBB := hBH.out
        exact ⟨v6, rfl, by rw [hst.out, hPH.out, hDH.out]; simpa using hR6H.out.base (show B ≤ w2.heap.size by omega), only_nil hOH.out hO6H.out⟩
      · have hst : Hid (ahd R (key, t) = i) := Lib.hid (hstop.out i hpre.out (fun z hz => by rw [hyH.out] at hz; cases hz; exact hl) hi)
        clear hl
        obtain ⟨⟨S, hS, hsrc⟩, ⟨T, hT, htsrc⟩⟩ := hcut.out i hi
        have hsH := Lib.hid hsrc
        have htH := Lib.hid htsrc
        have hl1 : Hid ((R.take i).length ≤ 1000000) := Lib.hid (by rw [List.length_take]; have := hn2.out; have := hnH.out; omega)
        have hl2 : Hid ((R.take i).length + 1 + (R.drop i).length ≤ 1000001) := Lib.hid (by rw [List.length_take, List.length_drop]; have := hn2.out; have := hnH.out; omega)
        generalize hP : R.take i = P at *
        generalize hD : R.drop i = Q at *
        have hPH := Lib.hid hP
        have hDH := Lib.hid hD
        clear hsrc htsrc hP hD
        have hkn : decide ((i : Int) < 0) = false := decide_eq_false (by omega)
        go_wp2_with (first
          | (at_builtin; refine wpList_append_s (o := ⟨some 53, _, _, _, _, _⟩) (by rfl) (.const (.slice none 0 0)) (.tmp 52) (by rfl) w2.heap.size (.slice none 0 0) S [] P (by rfl) (by rfl) (rowS_nil _ _) hsH.out (by have := hl1.out; simp; omega) (Nat.le_refl _) ?_; intro v4 w4 hR4 hO4 hv4; have hR4H := Lib.hid (show RowS w4 w2.heap.size v4 P from hR4); have hO4H := Lib.hid (show Only [] w2 w4 from hO4); clear hR4 hO4 hv4)
          | (at_builtin; refine wpList_append_s (o := ⟨some 59, _, _, _, _, _⟩) (by rfl) (.tmp 54) (.tmp 58) (by rfl) w2.heap.size v4 (.slice (some ⟨w4.heap.size, 0, none⟩) 1 1) P [(key, t)] (by rfl) (by rfl) (hR4H.out.none ((Only.refl [] _).alloc (.cells #[.string key, .int .i64 t] 44))) (rowS_one (key, t) (Nat.le_refl _)).src (by have := hl1.out; simp; omega) (by have := hO4H.out.size; simp; omega) ?_; intro v5 w5 hR5 hO5 hv5; have hR5H := Lib.hid hR5; have hO5H := Lib.hid (own_newS hO5 (hO4H.out.alloc _) (fun k hk => (hR4H.out.lt k hk).1)); clear hR5 hO5 hv5)
          | (at_builtin; refine wpList_append_s (o := ⟨some 64, _, _, _, _, _⟩) (by rfl) (.tmp 60) (.tmp 63) (by rfl) w2.heap.size v5 T (P ++ [(key, t)]) Q (by rfl) (by rfl) hR5H.out (htH.out.none hO5H.out) (by have := hl2.out; simp; omega) hO5H.out.size ?_; intro v6 w6 hR6 hO6 hv6; have hR6H := Lib.hid hR6; have hO6H := Lib.hid (own_newS hO6 hO5H.out (fun k hk => (hR5H.out.lt k hk).1)); clear hR6 hO6 hv6))
        all_goals go_ret2
        have hsz := hOH.out.size
        have hBB := hBH.out
        exact ⟨v6, rfl, by rw [hst.out, hPH.out, hDH.out]; simpa using hR6H.out.base (show B ≤ w2.heap.size by omega), only_nil hOH.out hO6H.out⟩
    · have hin : i = n := by omega
      have hst : Hid (ahd R (key, t) = i) := Lib.hid (hstop.out i hpre.out (fun z hz => by rw [hin, hnH.out, List.getElem?_eq_none (Nat.le_refl _)] at hz; cases hz) hi)
      have hlt : decide ((i : Int) < (n : Int)) = false := decide_eq_false (by omega)
      have hltn : decide (i < n) = false := decide_eq_false (by omega)
      clear hil hin
      obtain ⟨⟨S, hS, hsrc⟩, ⟨T, hT, htsrc⟩⟩ := hcut.out i hi
      have hsH := Lib.hid hsrc
      have htH := Lib.hid htsrc
      have hl1 : Hid ((R.take i).length ≤ 1000000) := Lib.hid (by rw [List.length_take]; have := hn2.out; have := hnH.out; omega)
      have hl2 : Hid ((R.take i).length + 1 + (R.drop i).length ≤ 1000001) := Lib.hid (by rw [List.length_take, List.length_drop]; have := hn2.out; have := hnH.out; omega)
      generalize hP : R.take i = P at *
      generalize hD : R.drop i = Q at *
      have hPH := Lib.hid hP
      have hDH := Lib.hid hD
      clear hsrc htsrc hP hD
      have hkn : decide ((i : Int) < 0) = false := decide_eq_false (by omega)
      go_wp2_with (first
        | (at_builtin; refine wpList_append_s (o := ⟨some 53, _, _, _, _, _⟩) (by rfl) (.const (.slice none 0 0)) (.tmp 52) (by rfl) w2.heap.size (.slice none 0 0) S [] P (by rfl) (by rfl) (rowS_nil _ _) hsH.out (by have := hl1.out; simp; omega) (Nat.le_refl _) ?_; intro v4 w4 hR4 hO4 hv4; have hR4H := Lib.hid (show RowS w4 w2.heap.size v4 P from hR4); have hO4H := Lib.hid (show Only [] w2 w4 from hO4); clear hR4 hO4 hv4)
        | (at_builtin; refine wpList_append_s (o := ⟨some 59, _, _, _, _, _⟩) (by rfl) (.tmp 54) (.tmp 58) (by rfl) w2.heap.size v4 (.slice (some ⟨w4.heap.size, 0, none⟩) 1 1) P [(key, t)] (by rfl) (by rfl) (hR4H.out.none ((Only.refl [] _).alloc (.cells #[.string key, .int .i64 t] 44))) (rowS_one (key, t) (Nat.le_refl _)).src (by have := hl1.out; simp; omega) (by have := hO4H.out.size; simp; omega) ?_; intro v5 w5 hR5 hO5 hv5; have hR5H := Lib.hid hR5; have hO5H := Lib.hid (own_newS hO5 (hO4H.out.alloc _) (fun k hk => (hR4H.out.lt k hk).1)); clear hR5 hO5 hv5)
        | (at_builtin; refine wpList_append_s (o := ⟨some 64, _, _, _, _, _⟩) (by rfl) (.tmp 60) (.tmp 63) (by rfl) w2.heap.size v5 T (P ++ [(key, t)]) Q (by rfl) (by rfl) hR5H.out (htH.out.none hO5H.out) (by have := hl2.out; simp; omega) hO5H.out.size ?_; intro v6 w6 hR6 hO6 hv6; have hR6H := Lib.hid hR6; have hO6H := Lib.hid (own_newS hO6 hO5H.out (fun k hk => (hR5H.out.lt k hk).1)); clear hR6 hO6 hv6))
      all_goals go_ret2
      have hsz := hOH.out.size
      have hBB := hBH.out
      exact ⟨v6, rfl, by rw [hst.out, hPH.out, hDH.out]; simpa using hR6H.out.base (show B ≤ w2.heap.size by omega), only_nil hOH.out hO6H.out⟩
end Go.Proofs.Ytbaghdfalhlhcaa
