/-
  The document's answers: Below, Same, Cut. Premises: rows of pairs of one's own.
-/
import Derived.Test.YtijfipghoilpeaaDoorN
namespace Go.Proofs.YtijfipghoilpeaaDoor
open Go.RowKit

theorem rowS_cell {w : World} {B : Nat} {A : Option Addr} {n c : Nat} {L : List Sc} (h : RowS w B (.slice A n c) L) : ∀ k, k < L.length → ∃ (y : Sc) (g : Nat), L[k]? = some y ∧ A = some ⟨g, 0, none⟩ ∧ w.cell? ⟨g, k * 2, none⟩ = some (.string y.1) ∧ w.cell? ⟨g, k * 2 + 1, none⟩ = some (.int .i64 y.2) := by
  intro k hk
  rcases h.form with ⟨_, rfl⟩ | ⟨g, cap, he, h1, h2, h3, hc⟩
  · simp at hk
  · cases he
    exact ⟨L[k], g, List.getElem?_eq_getElem hk, rfl, hc k _ (List.getElem?_eq_getElem hk)⟩
theorem blw_take {L : List Sc} {i : Nat} {y : Sc} (h : L[i]? = some y) (s : Int) (op : Bool) : blw (L.take (i + 1)) s op = blw (L.take i) s op + (if (decide (y.2 < s) || (op && y.2 == s)) = true then 1 else 0) := by
  rw [List.take_add_one, h]
  unfold blw
  rw [List.countP_append]
  simp [List.countP_cons]
theorem blw_take_le (L : List Sc) (i : Nat) (s : Int) (op : Bool) : blw (L.take i) s op ≤ i := by
  have := blw_le (L.take i) s op
  rw [List.length_take] at this
  omega
set_option maxHeartbeats 8000000 in
theorem rbelow_any {w : World} {B : Nat} {v : Value} {L : List Sc} (h : RowS w B v L) (hn : L.length ≤ 1000000) (s : Int) (op : Bool) :
    Calls Tryd.prog 21 #[v, .int .i64 s, .bool op] w fun e w' => e = .returned (.int .i64 ((blw L s op : Nat) : Int)) ∧ Only [] w w' := by
  obtain ⟨A, c, rfl⟩ := h.len
  have hcel := Lib.hid (rowS_cell h)
  clear h
  have hst := Lib.hid (fun (i : Nat) (y : Sc) (hy : L[i]? = some y) => blw_take hy s op)
  have hle := Lib.hid (fun i => blw_take_le L i s op)
  obtain ⟨n, hnn⟩ : ∃ n, n = L.length := ⟨_, rfl⟩
  have hend : Hid (blw (L.take n) s op = blw L s op) := Lib.hid (by rw [hnn, List.take_length])
  rw [← hnn] at hcel hn ⊢
  clear hnn
  cases op
  all_goals
    go_enter Tryd.func21, Tryd.ntmps21
    go_wp2_with fail
  · go_loopw [7, 8] (fun s7 s8 wr => ∃ i : Nat, i ≤ n ∧ s8 = .int .i64 i ∧ s7 = .int .i64 ((blw (L.take i) s false : Nat) : Int) ∧ w = wr) (fun _ s8 _ => n - (intOf s8).toNat)
    case atStart => exact ⟨0, by omega, rfl, rfl, rfl⟩
    case round =>
      obtain ⟨i, hi, rfl, rfl, rfl⟩ := hrel
      by_cases hil : i < n
      · obtain ⟨⟨ya, ys⟩, g, hy, rfl, d1, d2⟩ := hcel.out i hil
        have hst1 := Lib.hid (hst.out i _ hy)
        have hyl := hle.out i
        have hix := run_ixS g i n c hil
        have hilH := Lib.hid hil
        have hlt : decide ((i : Int) < (n : Int)) = true := decide_eq_true (by omega)
        have hltn : decide (i < n) = true := decide_eq_true hil
        clear d1 hy hcel hst hle hil
        generalize hak : blw (L.take i) s false = a at *
        clear hak
        simp only at d2 hst1
        cases hq : decide (ys < s) with
        | true =>
          rw [hq] at hst1
          go_wp2_with fail
          go_roundw
          case rel => exact ⟨i + 1, by have := hilH.out; omega, by go_num, by rw [hst1.out]; rfl, trivial⟩
          case measure => have := hilH.out; simp [intOf]; omega
        | false =>
          rw [hq] at hst1
          go_wp2_with fail
          go_roundw
          case rel => exact ⟨i + 1, by have := hilH.out; omega, by go_num, by rw [hst1.out]; rfl, trivial⟩
          case measure => have := hilH.out; simp [intOf]; omega
      · have hin : i = n := by omega
        subst hin
        go_wp2_with fail
        go_ret
        exact ⟨ret_int (by rw [hend.out]), Only.refl _ _⟩
  · go_loopw [7, 8] (fun s7 s8 wr => ∃ i : Nat, i ≤ n ∧ s8 = .int .i64 i ∧ s7 = .int .i64 ((blw (L.take i) s true : Nat) : Int) ∧ w = wr) (fun _ s8 _ => n - (intOf s8).toNat)
    case atStart => exact ⟨0, by omega, rfl, rfl, rfl⟩
    case round =>
      obtain ⟨i, hi, rfl, rfl, rfl⟩ := hrel
      by_cases hil : i < n
      · obtain ⟨⟨ya, ys⟩, g, hy, rfl, d1, d2⟩ := hcel.out i hil
        have hst1 := Lib.hid (hst.out i _ hy)
        have hyl := hle.out i
        have hix := run_ixS g i n c hil
        have hilH := Lib.hid hil
        have hlt : decide ((i : Int) < (n : Int)) = true := decide_eq_true (by omega)
        have hltn : decide (i < n) = true := decide_eq_true hil
        clear d1 hy hcel hst hle hil
        generalize hak : blw (L.take i) s true = a at *
        clear hak
        simp only at d2 hst1
        cases hq : decide (ys < s) with
        | true =>
          rw [hq] at hst1
          go_wp2_with fail
          go_roundw
          case rel => exact ⟨i + 1, by have := hilH.out; omega, by go_num, by rw [hst1.out]; rfl, trivial⟩
          case measure => have := hilH.out; simp [intOf]; omega
        | false =>
          rw [hq] at hst1
          cases hq2 : (ys == s) with
          | true =>
            rw [hq2] at hst1
            go_wp2_with fail
            go_roundw
            case rel => exact ⟨i + 1, by have := hilH.out; omega, by go_num, by rw [hst1.out]; rfl, trivial⟩
            case measure => have := hilH.out; simp [intOf]; omega
          | false =>
            rw [hq2] at hst1
            go_wp2_with fail
            go_roundw
            case rel => exact ⟨i + 1, by have := hilH.out; omega, by go_num, by rw [hst1.out]; rfl, trivial⟩
            case measure => have := hilH.out; simp [intOf]; omega
      · have hin : i = n := by omega
        subst hin
        go_wp2_with fail
        go_ret
        exact ⟨ret_int (by rw [hend.out]), Only.refl _ _⟩

set_option maxHeartbeats 2000000 in
theorem rsame_any {w : World} {B B' : Nat} {v v' : Value} {L L' : List Sc} (h : RowS w B v L) (h' : RowS w B' v' L') (hl : L.length ≤ 1000000) :
    Calls Tryd.prog 22 #[v, v'] w fun r w' => r = .returned (.bool (decide (L = L'))) ∧ Only [] w w' := by
  obtain ⟨A, c, rfl⟩ := h.len
  obtain ⟨A', c', rfl⟩ := h'.len
  by_cases hn : L.length = L'.length
  · have hcel := Lib.hid (rowS_cell h)
    have hcel' := Lib.hid (rowS_cell h')
    have hext : Hid ((∀ i : Nat, i < L.length → L[i]? = L'[i]?) → L = L') := Lib.hid (fun hq => by
      apply List.ext_getElem?
      intro i
      by_cases hi : i < L.length
      · exact hq i hi
      · rw [List.getElem?_eq_none (by omega), List.getElem?_eq_none (by omega)])
    clear h h'
    rw [← hn] at hcel' ⊢
    clear hn
    generalize L.length = n at *
    go_enter Tryd.func22, Tryd.ntmps22
    go_wp2_with fail
    go_loopw [5] (fun s5 wr => ∃ i : Nat, i ≤ n ∧ s5 = .int .i64 i ∧ Hid (∀ j : Nat, j < i → L[j]? = L'[j]?) ∧ Hid (Only [] w wr)) (fun s5 _ => n - (intOf s5).toNat)
    case atStart => exact ⟨0, by omega, rfl, Lib.hid (fun j hj => absurd hj (by omega)), Lib.hid (Only.refl _ _)⟩
    case round =>
      obtain ⟨i, hi, rfl, hpre, hon⟩ := hrel
      by_cases hil : i < n
      · obtain ⟨⟨ya, ys⟩, g, hy, rfl, d1, d2⟩ := hcel.out i hil
        obtain ⟨⟨za, zs⟩, g2, hz, rfl, d3, d4⟩ := hcel'.out i hil
        have e1 := cell_keep hon.out d1
        have e2 := cell_keep hon.out d2
        have e3 := cell_keep hon.out d3
        have e4 := cell_keep hon.out d4
        have hix := run_ixS g i n c hil
        have hix2 := run_ixS g2 i n c' hil
        have hyH := Lib.hid hy
        have hzH := Lib.hid hz
        have hilH := Lib.hid hil
        have hlt : decide ((i : Int) < (n : Int)) = true := decide_eq_true (by omega)
        have hltn : decide (i < n) = true := decide_eq_true hil
        simp only at e1 e2 e3 e4
        clear hy hz d1 d2 d3 d4 hil
        by_cases hxy : (ya, ys) = (za, zs)
        · cases hxy
          go_wp2_with fail
          go_quiet (fail)
          go_wp2_with fail
          go_roundw
          case rel => exact ⟨i + 1, by have := hilH.out; omega, by go_num, Lib.hid (fun j hj => by
            by_cases hji : j = i
            · subst hji; rw [hyH.out, hzH.out]
            · exact hpre.out j (by omega)), Lib.hid (hon.out.drewN _)⟩
          case measure => have := hilH.out; simp [intOf]; omega
        · have hno : Hid (decide (L = L') = false) := Lib.hid (decide_eq_false (fun e => hxy (by have h1 := hyH.out; have h2 := hzH.out; rw [e, h2] at h1; exact (Option.some.inj h1).symm)))
          rcases sc_ne hxy with ⟨f1, f2⟩ | f1
          · simp only at f1 f2
            subst f1
            clear hxy
            go_wp2_with fail
            go_quiet (fail)
            go_wp2_with fail
            go_ret
            exact ⟨by rw [hno.out]; rfl, hon.out.drewN _⟩
          · simp only at f1
            clear hxy
            go_wp2_with fail
            go_quiet (fail)
            go_wp2_with fail
            go_ret
            exact ⟨by rw [hno.out]; rfl, hon.out.drewN _⟩
      · have : i = n := by omega
        subst this
        have hyes : Hid (decide (L = L') = true) := Lib.hid (decide_eq_true (hext.out hpre.out))
        go_wp2_with fail
        go_ret
        exact ⟨by rw [hyes.out]; rfl, hon.out⟩
  · have hno : Hid (decide (L = L') = false) := Lib.hid (decide_eq_false (fun e => hn (by rw [e])))
    have hb : ((L.length : Int) == (L'.length : Int)) = false := beq_false_of_ne (by omega)
    have hb2 : (L.length == L'.length) = false := beq_false_of_ne hn
    clear h h' hn
    generalize L.length = n at *
    generalize L'.length = n' at *
    go_enter Tryd.func22, Tryd.ntmps22
    go_wp2_with fail
    go_ret
    exact ⟨by rw [hno.out]; rfl, Only.refl _ _⟩

/-- What a cut tells. -/
def cutS (L : List Sc) (i j : Int) : List Sc := (L.take (j + 1).toNat).drop i.toNat
/-- What it tells of the first k. -/
def pref (L : List Sc) (i j : Int) (k : Nat) : List Sc := (L.take (min (j + 1).toNat k)).drop i.toNat
theorem pref_zero (L : List Sc) (i j : Int) : pref L i j 0 = [] := by simp [pref]
theorem pref_len (L : List Sc) (i j : Int) (k : Nat) : (pref L i j k).length ≤ L.length := by unfold pref; rw [List.length_drop, List.length_take]; omega
theorem pref_in {L : List Sc} {i j : Int} {k : Nat} {x : Sc} (hx : L[k]? = some x) (h1 : i ≤ (k : Int)) (h2 : (k : Int) ≤ j) : pref L i j (k + 1) = pref L i j k ++ [x] := by
  unfold pref
  have hk : k < L.length := (List.getElem?_eq_some_iff.1 hx).1
  rw [show min (j + 1).toNat (k + 1) = k + 1 by omega, show min (j + 1).toNat k = k by omega, List.take_add_one, hx]
  rw [List.drop_append_of_le_length (by rw [List.length_take]; omega)]
  rfl
theorem pref_out {L : List Sc} {i j : Int} {k : Nat} (h : ¬ i ≤ (k : Int) ∨ ¬ (k : Int) ≤ j) : pref L i j (k + 1) = pref L i j k := by
  unfold pref
  rcases h with h | h
  · have e : ∀ q : Nat, q ≤ k + 1 → (L.take q).drop i.toNat = [] := by
      intro q hq
      rw [List.drop_eq_nil_iff, List.length_take]
      omega
    rw [e _ (by omega), e _ (by omega)]
  · rw [show min (j + 1).toNat (k + 1) = min (j + 1).toNat k by omega]
theorem pref_all (L : List Sc) (i j : Int) : pref L i j L.length = cutS L i j := by
  unfold pref cutS
  congr 1
  rcases Nat.le_total (j + 1).toNat L.length with h | h
  · rw [Nat.min_eq_left h]
  · rw [Nat.min_eq_right h, List.take_length, List.take_of_length_le h]
theorem cutS_len (L : List Sc) (i j : Int) : (cutS L i j).length ≤ L.length := by rw [← pref_all]; exact pref_len L i j _
set_option maxHeartbeats 8000000 in
theorem rcut_any {w : World} {B : Nat} {v : Value} {L : List Sc} (h : RowS w B v L) (i j : Int) (hn : L.length ≤ 1000000) :
    Calls Tryd.prog 24 #[v, .int .i64 i, .int .i64 j] w fun e w' => ∃ v', e = .returned v' ∧ FreshS w v' (cutS L i j) w' := by
  obtain ⟨A, c, rfl⟩ := h.len
  have hcel := Lib.hid (rowS_cell h)
  clear h
  have hlen := Lib.hid hn
  obtain ⟨n, hnn⟩ : ∃ n, n = L.length := ⟨_, rfl⟩
  have hnH := Lib.hid hnn
  rw [← hnn] at hcel hn ⊢
  clear hnn
  go_enter Tryd.func24, Tryd.ntmps24
  go_wp2_with fail
  go_loopw [7, 8] (fun s7 s8 wr => ∃ (k : Nat) (v7 : Value), k ≤ n ∧ s8 = .int .i64 k ∧ v7 = s7 ∧ Hid (RowS wr w.heap.size v7 (pref L i j k)) ∧ Hid (Only [] w wr)) (fun _ s8 _ => n - (intOf s8).toNat)
  case atStart => exact ⟨0, _, by omega, rfl, rfl, Lib.hid (by rw [pref_zero]; exact rowS_nil _ _), Lib.hid (Only.refl _ _)⟩
  case round =>
    obtain ⟨k, v7, hk, rfl, rfl, how, hon⟩ := hrel
    by_cases hkl : k < n
    · obtain ⟨⟨ya, ys⟩, g, hx, rfl, d1, d2⟩ := hcel.out k hkl
      have e1 := cell_keep hon.out d1
      have e2 := cell_keep hon.out d2
      have hix := run_ixS g k n c hkl
      have hklH := Lib.hid hkl
      have hxH := Lib.hid hx
      simp only at e1 e2
      clear d1 d2 hx
      have hlt : decide ((k : Int) < (n : Int)) = true := decide_eq_true (by omega)
      have hltn : decide (k < n) = true := decide_eq_true hkl
      clear hkl
      by_cases hlow : i ≤ (k : Int)
      · have hd1 : decide (i ≤ (k : Int)) = true := decide_eq_true hlow
        by_cases hhigh : (k : Int) ≤ j
        · have hd3 : decide ((k : Int) ≤ j) = true := decide_eq_true hhigh
          have hst := Lib.hid (pref_in (L := L) (i := i) (j := j) hxH.out hlow hhigh)
          clear hlow hhigh
          go_wp2_with (at_builtin; refine wpList_append_s (o := ⟨some 29, _, _, _, _, _⟩) (by rfl) (.tmp 23) (.tmp 28) (by rfl) w.heap.size v7 (.slice (some ⟨wr.heap.size, 0, none⟩) 1 1) (pref L i j k) [(ya, ys)] (by rfl) (by rfl) (how.out.none ((Only.refl [] _).alloc (.cells #[.string ya, .int .i64 ys] 30))) (rowS_one (ya, ys) (Nat.le_refl _)).src (by have := pref_len L i j k; have := hnH.out; have := hlen.out; simp; omega) (by have := hon.out.size; simp; omega) ?happ)
          case happ =>
            intro v2 w2 hR2 hO2 hv2
            rw [← hst.out] at hR2
            have hR2H := Lib.hid hR2
            have hO2H := Lib.hid (own_newS hO2 (hon.out.alloc _) (fun q hq => (how.out.lt q hq).1))
            clear hR2 hO2 hv2 e1 e2
            go_wp2_with fail
            go_roundw
            case rel => exact ⟨k + 1, _, by have := hklH.out; omega, by go_num, rfl, hR2H, hO2H⟩
            case measure => have := hklH.out; simp [intOf]; omega
        · have hd3 : decide ((k : Int) ≤ j) = false := decide_eq_false hhigh
          have hst := Lib.hid (pref_out (L := L) (i := i) (j := j) (k := k) (Or.inr hhigh))
          clear hlow hhigh
          go_wp2_with fail
          go_roundw
          case rel => exact ⟨k + 1, _, by have := hklH.out; omega, by go_num, rfl, Lib.hid (by rw [hst.out]; exact how.out), hon⟩
          case measure => have := hklH.out; simp [intOf]; omega
      · have hd1 : decide (i ≤ (k : Int)) = false := decide_eq_false hlow
        have hst := Lib.hid (pref_out (L := L) (i := i) (j := j) (k := k) (Or.inl hlow))
        clear hlow
        go_wp2_with fail
        all_goals go_roundw
        all_goals first
          | exact ⟨k + 1, _, by have := hklH.out; omega, by go_num, rfl, Lib.hid (by rw [hst.out]; exact how.out), hon⟩
          | (have := hklH.out; simp [intOf]; omega)
    · have hkn : k = n := by omega
      subst hkn
      have hfin := Lib.hid (pref_all L i j)
      rw [← hnH.out] at hfin
      go_wp2_with fail
      go_ret
      exact ⟨_, rfl, by rw [← hfin.out]; exact how.out, hon.out⟩
end Go.Proofs.YtijfipghoilpeaaDoor
