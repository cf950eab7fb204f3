/-
  The document's answers that lie in new blocks: Set; Due, or the row as it was. Premises: as those of Set and Due.
-/
import Derived.Test.YtbaghdfalhlhcaaS
namespace Go.Proofs.Ytbaghdfalhlhcaa
open Go.RowKit

set_option maxHeartbeats 16000000 in
theorem rset_new {w : World} {B : Nat} {v : Value} {L : List Sc} (h : RowS w B v L) (hB : B ≤ w.heap.size) (hn : L.length ≤ 1000000) (hu : Uniq L) (hr : Rises L) (key : ByteArray) (t : Int) :
    Calls Try.prog 11 #[v, .string key, .int .i64 t] w fun e w' => ∃ v', e = .returned (.tuple #[v', .bool (!(atK L key).isSome)]) ∧ RowS w' w.heap.size v' (setK L key t) ∧ Only [] w w' := by
  have hD := Lib.hid (rdrop_any h hB hn hu key)
  have hform := Lib.hid (setK_form L key t)
  have hr2 := Lib.hid (dropK_rises hr key)
  have hle2 := dropK_le L key
  obtain ⟨R, hR⟩ : ∃ R, R = dropK L key := ⟨_, rfl⟩
  rw [← hR] at hD hform hr2 hle2
  rw [hform.out]
  generalize (atK L key).isSome = b at *
  have hn2 : Hid (R.length ≤ 1000000) := Lib.hid (by omega)
  have hBH := Lib.hid hB
  obtain ⟨A, c, hve⟩ := h.len
  generalize L.length = n0 at hve
  subst hve
  clear h hn hu hr hle2 hR hB hform
  go_enter Try.func11, Try.ntmps11
  go_upto_region 2 with (go_at_call 13; ((with_reducible refine (hD.out).mono ?_); rintro e w2 ⟨v2, rfl, hR2, hO2⟩; obtain ⟨A2, c2, hve⟩ := hR2.len; have hRH := Lib.hid hR2; have hOH := Lib.hid hO2; clear hR2 hO2))
  have hcut := Lib.hid (fun (i : Nat) (hi : i ≤ R.length) => And.intro (cut_toS hRH.out i hi i rfl) (cut_fromS hRH.out i hi i rfl))
  have hstop : Hid (∀ i : Nat, (∀ (j : Nat) (y : Sc), j < i → R[j]? = some y → lessS y (key, t) = true) → (∀ y, R[i]? = some y → lessS y (key, t) = false) → i ≤ R.length → ahd R (key, t) = i) := Lib.hid (fun i h1 h2 h3 => ahd_stop hr2.out h1 h2 h3)
  subst hve
  have hcel := Lib.hid (rowS_cell hRH.out)
  obtain ⟨n, hnn⟩ : ∃ n, n = R.length := ⟨_, rfl⟩
  have hnH := Lib.hid hnn
  rw [← hnn] at hcel hn2 hcut hstop ⊢
  clear hnn hD
  have hn3 := hn2.out
  go_wp2_with fail
  go_loopw [9] (fun s9 wr => ∃ i : Nat, i ≤ n ∧ s9 = .int .i64 i ∧ w2 = wr ∧ Hid (∀ (j : Nat) (y : Sc), j < i → R[j]? = some y → lessS y (key, t) = true)) (fun s9 _ => n - (intOf s9).toNat)
  case atStart => exact ⟨0, by omega, rfl, rfl, Lib.hid (fun j y hj => by omega)⟩
  case round =>
    obtain ⟨i, hi, rfl, rfl, hpre⟩ := hrel
    by_cases hil : i < n
    · obtain ⟨y, g, hy, rfl, d1, d2⟩ := hcel.out i hil
      have hix := run_ixS g i n c2 hil
      have hilH := Lib.hid hil
      have hlt : decide ((i : Int) < (n : Int)) = true := decide_eq_true (by omega)
      have hltn : decide (i < n) = true := decide_eq_true hil
      have hyH := Lib.hid hy
      clear hil hy
      rcases less_ways y key t with ⟨hl, hw | ⟨hw1, hw2, hw3⟩⟩ | ⟨hl, hw1, hw2 | ⟨hw2, hw3⟩⟩
      · have hlH := Lib.hid hl
        clear hl
        go_wp2_with fail
        go_roundw
        case rel => exact ⟨i + 1, by have := hilH.out; omega, by go_num, trivial, Lib.hid (fun j z hj hz => by
          by_cases hji : j = i
          · subst hji
            rw [hyH.out] at hz
            cases hz
            exact hlH.out
          · exact hpre.out j z (by omega) hz)⟩
        case measure => have := hilH.out; simp [intOf]; omega
      · have hlH := Lib.hid hl
        clear hl
        go_wp2_with fail
        go_roundw
        case rel => exact ⟨i + 1, by have := hilH.out; omega, by go_num, trivial, Lib.hid (fun j z hj hz => by
          by_cases hji : j = i
          · subst hji
            rw [hyH.out] at hz
            cases hz
            exact hlH.out
          · exact hpre.out j z (by omega) hz)⟩
        case measure => have := hilH.out; simp [intOf]; omega
      · have hst : Hid (ahd R (key, t) = i) := Lib.hid (hstop.out i hpre.out (fun z hz => by rw [hyH.out] at hz; cases hz; exact hl) hi)
        clear hl
        obtain ⟨⟨S, hS, hsrc⟩, ⟨T, hT, htsrc⟩⟩ := hcut.out i hi
        have hsH := Lib.hid hsrc
        have htH := Lib.hid htsrc
        have hl1 : Hid ((R.take i).length ≤ 1000000) := Lib.hid (by rw [List.length_take]; have := hn2.out; have := hnH.out; omega)
        have hl2 : Hid ((R.take i).length + 1 + (R.drop i).length ≤ 1000001) := Lib.hid (by rw [List.length_take, List.length_drop]; have := hn2.out; have := hnH.out; omega)
        generalize hP : R.take i = P at *
        generalize hD : R.drop i = Q at *
        have hPH := Lib.hid hP
        have hDH := Lib.hid hD
        clear hsrc htsrc hP hD
        have hkn : decide ((i : Int) < 0) = false := decide_eq_false (by omega)
        go_wp2_with (first
          | (at_builtin; refine wpList_append_s (o := ⟨some 53, _, _, _, _, _⟩) (by rfl) (.const (.slice none 0 0)) (.tmp 52) (by rfl) w2.heap.size (.slice none 0 0) S [] P (by rfl) (by rfl) (rowS_nil _ _) hsH.out (by have := hl1.out; simp; omega) (Nat.le_refl _) ?_; intro v4 w4 hR4 hO4 hv4; have hR4H := Lib.hid (show RowS w4 w2.heap.size v4 P from hR4); have hO4H := Lib.hid (show Only [] w2 w4 from hO4); clear hR4 hO4 hv4)
          | (at_builtin; refine wpList_append_s (o := ⟨some 59, _, _, _, _, _⟩) (by rfl) (.tmp 54) (.tmp 58) (by rfl) w2.heap.size v4 (.slice (some ⟨w4.heap.size, 0, none⟩) 1 1) P [(key, t)] (by rfl) (by rfl) (hR4H.out.none ((Only.refl [] _).alloc (.cells #[.string key, .int .i64 t] 44))) (rowS_one (key, t) (Nat.le_refl _)).src (by have := hl1.out; simp; omega) (by have := hO4H.out.size; simp; omega) ?_; intro v5 w5 hR5 hO5 hv5; have hR5H := Lib.hid hR5; have hO5H := Lib.hid (own_newS hO5 (hO4H.out.alloc _) (fun k hk => (hR4H.out.lt k hk).1)); clear hR5 hO5 hv5)
          | (at_builtin; refine wpList_append_s (o := ⟨some 64, _, _, _, _, _⟩) (by rfl) (.tmp 60) (.tmp 63) (by rfl) w2.heap.size v5 T (P ++ [(key, t)]) Q (by rfl) (by rfl) hR5H.out (htH.out.none hO5H.out) (by have := hl2.out; simp; omega) hO5H.out.size ?_; intro v6 w6 hR6 hO6 hv6; have hR6H := Lib.hid hR6; have hO6H := Lib.hid (own_newS hO6 hO5H.out (fun k hk => (hR5H.out.lt k hk).1)); clear hR6 hO6 hv6))
        all_goals go_ret2
        have hsz := hOH.out.size
        exact ⟨v6, rfl, by rw [hst.out, hPH.out, hDH.out]; simpa using hR6H.out.base (show w.heap.size ≤ w2.heap.size by omega), only_nil hOH.out hO6H.out⟩
      · have hst : Hid (ahd R (key, t) = i) := Lib.hid (hstop.out i hpre.out (fun z hz => by rw [hyH.out] at hz; cases hz; exact hl) hi)
        clear hl
        obtain ⟨⟨S, hS, hsrc⟩, ⟨T, hT, htsrc⟩⟩ := hcut.out i hi
        have hsH := Lib.hid hsrc
        have htH := Lib.hid htsrc
        have hl1 : Hid ((R.take i).length ≤ 1000000) := Lib.hid (by rw [List.length_take]; have := hn2.out; have := hnH.out; omega)
        have hl2 : Hid ((R.take i).length + 1 + (R.drop i).length ≤ 1000001) := Lib.hid (by rw [List.length_take, List.length_drop]; have := hn2.out; have := hnH.out; omega)
        generalize hP : R.take i = P at *
        generalize hD : R.drop i = Q at *
        have hPH := Lib.hid hP
        have hDH := Lib.hid hD
        clear hsrc htsrc hP hD
        have hkn : decide ((i : Int) < 0) = false := decide_eq_false (by omega)
        go_wp2_with (first
          | (at_builtin; refine wpList_append_s (o := ⟨some 53, _, _, _, _, _⟩) (by rfl) (.const (.slice none 0 0)) (.tmp 52) (by rfl) w2.heap.size (.slice none 0 0) S [] P (by rfl) (by rfl) (rowS_nil _ _) hsH.out (by have := hl1.out; simp; omega) (Nat.le_refl _) ?_; intro v4 w4 hR4 hO4 hv4; have hR4H := Lib.hid (show RowS w4 w2.heap.size v4 P from hR4); have hO4H := Lib.hid (show Only [] w2 w4 from hO4); clear hR4 hO4 hv4)
          | (at_builtin; refine wpList_append_s (o := ⟨some 59, _, _, _, _, _⟩) (by rfl) (.tmp 54) (.tmp 58) (by rfl) w2.heap.size v4 (.slice (some ⟨w4.heap.size, 0, none⟩) 1 1) P [(key, t)] (by rfl) (by rfl) (hR4H.out.none ((Only.refl [] _).alloc (.cells #[.string key, .int .i64 t] 44))) (rowS_one (key, t) (Nat.le_refl _)).src (by have := hl1.out; simp; omega) (by have := hO4H.out.size; simp; omega) ?_; intro v5 w5 hR5 hO5 hv5; have hR5H := Lib.hid hR5; have hO5H := Lib.hid (own_newS hO5 (hO4H.out.alloc _) (fun k hk => (hR4H.out.lt k hk).1)); clear hR5 hO5 hv5)
          | (at_builtin; refine wpList_append_s (o := ⟨some 64, _, _, _, _, _⟩) (by rfl) (.tmp 60) (.tmp 63) (by rfl) w2.heap.size v5 T (P ++ [(key, t)]) Q (by rfl) (by rfl) hR5H.out (htH.out.none hO5H.out) (by have := hl2.out; simp; omega) hO5H.out.size ?_; intro v6 w6 hR6 hO6 hv6; have hR6H := Lib.hid hR6; have hO6H := Lib.hid (own_newS hO6 hO5H.out (fun k hk => (hR5H.out.lt k hk).1)); clear hR6 hO6 hv6))
        all_goals go_ret2
        have hsz := hOH.out.size
        exact ⟨v6, rfl, by rw [hst.out, hPH.out, hDH.out]; simpa using hR6H.out.base (show w.heap.size ≤ w2.heap.size by omega), only_nil hOH.out hO6H.out⟩
    · have hin : i = n := by omega
      have hst : Hid (ahd R (key, t) = i) := Lib.hid (hstop.out i hpre.out (fun z hz => by rw [hin, hnH.out, List.getElem?_eq_none (Nat.le_refl _)] at hz; cases hz) hi)
      have hlt : decide ((i : Int) < (n : Int)) = false := decide_eq_false (by omega)
      have hltn : decide (i < n) = false := decide_eq_false (by omega)
      clear hil hin
      obtain ⟨⟨S, hS, hsrc⟩, ⟨T, hT, htsrc⟩⟩ := hcut.out i hi
      have hsH := Lib.hid hsrc
      have htH := Lib.hid htsrc
      have hl1 : Hid ((R.take i).length ≤ 1000000) := Lib.hid (by rw [List.length_take]; have := hn2.out; have := hnH.out; omega)
      have hl2 : Hid ((R.take i).length + 1 + (R.drop i).length ≤ 1000001) := Lib.hid (by rw [List.length_take, List.length_drop]; have := hn2.out; have := hnH.out; omega)
      generalize hP : R.take i = P at *
      generalize hD : R.drop i = Q at *
      have hPH := Lib.hid hP
      have hDH := Lib.hid hD
      clear hsrc htsrc hP hD
      have hkn : decide ((i : Int) < 0) = false := decide_eq_false (by omega)
      go_wp2_with (first
        | (at_builtin; refine wpList_append_s (o := ⟨some 53, _, _, _, _, _⟩) (by rfl) (.const (.slice none 0 0)) (.tmp 52) (by rfl) w2.heap.size (.slice none 0 0) S [] P (by rfl) (by rfl) (rowS_nil _ _) hsH.out (by have := hl1.out; simp; omega) (Nat.le_refl _) ?_; intro v4 w4 hR4 hO4 hv4; have hR4H := Lib.hid (show RowS w4 w2.heap.size v4 P from hR4); have hO4H := Lib.hid (show Only [] w2 w4 from hO4); clear hR4 hO4 hv4)
        | (at_builtin; refine wpList_append_s (o := ⟨some 59, _, _, _, _, _⟩) (by rfl) (.tmp 54) (.tmp 58) (by rfl) w2.heap.size v4 (.slice (some ⟨w4.heap.size, 0, none⟩) 1 1) P [(key, t)] (by rfl) (by rfl) (hR4H.out.none ((Only.refl [] _).alloc (.cells #[.string key, .int .i64 t] 44))) (rowS_one (key, t) (Nat.le_refl _)).src (by have := hl1.out; simp; omega) (by have := hO4H.out.size; simp; omega) ?_; intro v5 w5 hR5 hO5 hv5; have hR5H := Lib.hid hR5; have hO5H := Lib.hid (own_newS hO5 (hO4H.out.alloc _) (fun k hk => (hR4H.out.lt k hk).1)); clear hR5 hO5 hv5)
        | (at_builtin; refine wpList_append_s (o := ⟨some 64, _, _, _, _, _⟩) (by rfl) (.tmp 60) (.tmp 63) (by rfl) w2.heap.size v5 T (P ++ [(key, t)]) Q (by rfl) (by rfl) hR5H.out (htH.out.none hO5H.out) (by have := hl2.out; simp; omega) hO5H.out.size ?_; intro v6 w6 hR6 hO6 hv6; have hR6H := Lib.hid hR6; have hO6H := Lib.hid (own_newS hO6 hO5H.out (fun k hk => (hR5H.out.lt k hk).1)); clear hR6 hO6 hv6))
      all_goals go_ret2
      have hsz := hOH.out.size
      exact ⟨v6, rfl, by rw [hst.out, hPH.out, hDH.out]; simpa using hR6H.out.base (show w.heap.size ≤ w2.heap.size by omega), only_nil hOH.out hO6H.out⟩
set_option maxHeartbeats 16000000 in
theorem rdue_newV {w : World} {B : Nat} {v : Value} {L : List Sc} (h : RowS w B v L) (hB : B ≤ w.heap.size) (hn : L.length ≤ 1000000) (hr : Rises L) (now : Int) (V : Value) (hV : v = V) :
    Calls Try.prog 14 #[v, .int .i64 now] w fun e w' => ∃ v' u, e = .returned (.tuple #[v', u]) ∧ Rd w w' B (dueN L now) v' u L ∧ (v' = V ∨ ∀ q, v'.ownBlock = some q → w.heap.size ≤ q) := by
  have hst : Hid (Rd w w B 0 v (.slice none 0 0) L ∧ (v = V ∨ ∀ q, v.ownBlock = some q → w.heap.size ≤ q)) := Lib.hid ⟨⟨h, rowT_nil _ _, fun q hq => by simp [Value.ownBlock] at hq, Only.refl _ _⟩, Or.inl hV⟩
  clear hV
  obtain ⟨A, c, hve⟩ := h.len
  obtain ⟨n, hnn⟩ : ∃ n, n = L.length := ⟨_, rfl⟩
  rw [← hnn] at hve
  subst hve
  have hnH := Lib.hid hnn
  have hnb := Lib.hid hn
  have hBH := Lib.hid hB
  have hdl := Lib.hid (dueN_le L now)
  have hds := Lib.hid (fun (i : Nat) (x : Sc) (hx : L[i]? = some x) => due_lt hr (now := now) hx)
  obtain ⟨dn, hdn⟩ : ∃ dn, dn = dueN L now := ⟨_, rfl⟩
  rw [← hdn] at hdl hds ⊢
  clear h hnn hn hB hr hdn
  go_enter Try.func14, Try.ntmps14
  go_wp2_with fail
  go_loopg [0, 6] dn (fun g s0 s6 wr => ∃ (k q : Nat) (A0 A6 : Option Addr) (c0 c6 : Nat), g = dn - k ∧ k ≤ dn ∧ Hid (q = n - k) ∧ s0 = .slice A0 q c0 ∧ s6 = .slice A6 k c6 ∧ Hid (Rd w wr B k (.slice A0 q c0) (.slice A6 k c6) L ∧ (.slice A0 q c0 = V ∨ ∀ x, (Value.slice A0 q c0).ownBlock = some x → w.heap.size ≤ x)))
  case atStart => exact ⟨0, n, A, none, c, 0, by omega, by omega, Lib.hid rfl, rfl, rfl, hst⟩
  case round =>
    obtain ⟨k, q, A0, A6, c0, c6, hg, hk, hq, rfl, rfl, hrdx⟩ := hrel
    have hrd := Lib.hid hrdx.out.1
    have hfr := Lib.hid hrdx.out.2
    clear hrdx
    have hqv := hq.out
    have hnv := hnH.out
    have hdv := hdl.out
    by_cases hq0 : q = 0
    · have hk2 : k = dn := by omega
      have hd : decide ((0 : Int) < (q : Int)) = false := decide_eq_false (by omega)
      have hq1 : ¬ 0 < q := by omega
      clear hqv hnv hdv hg
      go_wp2_with fail
      go_ret2
      exact ⟨_, _, rfl, by rw [← hk2]; exact hrd.out, hfr.out⟩
    · have hkl : k < L.length := by omega
      obtain ⟨y, hy⟩ : ∃ y, L[k]? = some y := ⟨_, List.getElem?_eq_getElem hkl⟩
      have hy0 : (L.drop k)[0]? = some y := by rw [List.getElem?_drop, Nat.add_zero]; exact hy
      rcases hrd.out.row.form with ⟨_, hz⟩ | ⟨g1, cap, he, _, _, _, hc⟩
      · rw [hz] at hy0; simp at hy0
      · have hA : A0 = some ⟨g1, 0, none⟩ := by injection he
        clear he
        subst hA
        obtain ⟨d0, d1⟩ := hc 0 y hy0
        simp only [Nat.zero_mul, Nat.zero_add] at d0 d1
        have hix : ∀ w, Sem.run Try.prog (Instr.indexAt 27 (.slice (some ⟨g1, 0, none⟩) q c0) (.int .i64 0)) w = .ok (.pointer (some ⟨g1, 0, none⟩)) w := fun w => run_ixS g1 0 q c0 (by omega) w
        have hd : decide ((0 : Int) < (q : Int)) = true := decide_eq_true (by omega)
        have hq1 : 0 < q := by omega
        have hwl := hds.out k y hy
        have hyH := Lib.hid hy
        have hkH := Lib.hid hkl
        have hgH := Lib.hid hg
        clear hqv hnv hdv hq0 hkl hy hy0 hc hg
        by_cases hkd : k < dn
        · have hle : decide (y.2 ≤ now) = true := decide_eq_true (hwl.1 hkd)
          have hkdH := Lib.hid hkd
          clear hwl hkd
          obtain ⟨ya, ys⟩ := y
          simp only at d0 d1 hle
          have hal := Lib.hid ((Only.refl [] wr).alloc (.cells #[.string ya] 9))
          go_upto_region 4 with (first
            | (at_builtin; refine wpList_append_rowT (o := ⟨some 24, _, _, _, _, _⟩) (by rfl) (.tmp 18) (.tmp 23) (by rfl) w.heap.size wr.heap.size (.slice A6 k c6) (.slice (some ⟨wr.heap.size, 0, none⟩) 1 1) ((L.take k).map Prod.fst) [ya] (by rfl) (by rfl) (hrd.out.out.same hal.out) (rowT_one wr ya (Nat.le_refl _)) (by have := hnb.out; simp; omega) (by have := hrd.out.only.size; have := hal.out.size; omega) ?_; intro v4 w4 hR4 hO4 hv4; have hR4H := Lib.hid hR4; have hO4H := Lib.hid hO4; have hv4H := Lib.hid hv4; clear hR4 hO4 hv4))
          have hkt : (L.take (k + 1)).map Prod.fst = (L.take k).map Prod.fst ++ [ya] := by rw [List.take_add_one, hyH.out]; simp
          have hR5 : Hid (RowT w4 w.heap.size v4 ((L.take (k + 1)).map Prod.fst)) := Lib.hid (by rw [hkt]; exact hR4H.out)
          have hr4 : Hid (RowS w4 B (.slice (some ⟨g1, 0, none⟩) q c0) (L.drop k)) := Lib.hid ((hrd.out.row.none hal.out).only hO4H.out (fun x hx hm => hrd.out.ap x (by simpa using hm) hx))
          have ho4 : Hid (Only [] w w4) := Lib.hid ((only_nil hrd.out.only hal.out).trans hO4H.out (fun x hx => Or.inr ((hrd.out.out.lt x (by simpa using hx)).1)))
          have hdk : (L.drop k).drop 1 = L.drop (k + 1) := by rw [List.drop_drop]
          obtain ⟨T, hT, hsrc⟩ := cut_fromS hr4.out 1 (by rw [List.length_drop]; have := hkH.out; omega) 1 rfl
          rw [hdk] at hsrc
          have hsH := Lib.hid hsrc
          have hvlt := Lib.hid (fun x (hx : v4.ownBlock = some x) => (hR5.out.lt x hx).2)
          obtain ⟨A4, c4, hve4⟩ := hR5.out.len
          have hlen4 : ((L.take (k + 1)).map Prod.fst).length = k + 1 := by rw [List.length_map, List.length_take]; have := hkH.out; omega
          rw [hlen4] at hve4
          subst hve4
          clear hsrc hdk hkt hlen4 d0 d1
          go_wp2_with (first
            | (at_builtin; refine wpList_append_s (o := ⟨some 27, _, _, _, _, _⟩) (by rfl) (.const (.slice none 0 0)) (.tmp 26) (by rfl) w4.heap.size (.slice none 0 0) T [] (L.drop (k + 1)) (by rfl) (by rfl) (rowS_nil _ _) hsH.out (by have := hnb.out; simp; omega) (Nat.le_refl _) ?_; intro v6 w6 hR6 hO6 hv6; have hR6H := Lib.hid (show RowS w6 w4.heap.size v6 (L.drop (k + 1)) from hR6); have hO6H := Lib.hid (show Only [] w4 w6 from hO6); obtain ⟨A7, c7, hve7⟩ := hR6H.out.len; rw [List.length_drop] at hve7; subst hve7; clear hR6 hO6 hv6))
          go_roundg (dn - (k + 1))
          case measure => have := hkdH.out; have := hgH.out; omega
          case rel =>
            have hkn := hkdH.out
            have hB1 := hBH.out
            have hs1 := ho4.out.size
            exact ⟨k + 1, _, A7, A4, c7, c4, rfl, by omega, Lib.hid (by rw [hnH.out]), rfl, rfl, Lib.hid ⟨⟨hR6H.out.base (by omega), hR5.out.same hO6H.out, fun x hx hx2 => by
              have h1 := hvlt.out x hx
              have h2 := (hR6H.out.lt x hx2).1
              omega, only_nil ho4.out hO6H.out⟩, Or.inr fun x hx => by
              have h2 := (hR6H.out.lt x hx).1
              omega⟩⟩
        · have hle : decide (y.2 ≤ now) = false := decide_eq_false (fun e => hkd (hwl.2 e))
          have hk2 : k = dn := by omega
          have hk2H := Lib.hid hk2
          clear hwl hkd hk2
          obtain ⟨ya, ys⟩ := y
          simp only at d0 d1 hle
          go_wp2_with fail
          go_ret2
          exact ⟨_, _, rfl, by rw [← hk2H.out]; exact hrd.out, hfr.out⟩
theorem rdue_new {w : World} {B : Nat} {v : Value} {L : List Sc} (h : RowS w B v L) (hB : B ≤ w.heap.size) (hn : L.length ≤ 1000000) (hr : Rises L) (now : Int) :
    Calls Try.prog 14 #[v, .int .i64 now] w fun e w' => ∃ v' u, e = .returned (.tuple #[v', u]) ∧ Rd w w' B (dueN L now) v' u L ∧ (v' = v ∨ ∀ q, v'.ownBlock = some q → w.heap.size ≤ q) :=
  rdue_newV h hB hn hr now v rfl
end Go.Proofs.Ytbaghdfalhlhcaa
