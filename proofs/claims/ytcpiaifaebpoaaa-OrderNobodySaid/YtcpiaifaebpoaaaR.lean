/-
  The document's answers: Has, Drop, Touch. Premise: a row of texts of one's own.
-/
import Derived.Test.YtcpiaifaebpoaaaO
import Derived.Deep.CutBlock
import Derived.BigRegion
namespace Go.Proofs.Ytcpiaifaebpoaaa
open Go.RowKit

set_option maxHeartbeats 8000000 in
theorem rhas_any {w : World} {B : Nat} {v : Value} {L : List ByteArray} (h : RowT w B v L) (hn : L.length ≤ 1000000) (key : ByteArray) :
    Calls Try.prog 18 #[v, .string key] w fun e w' => e = .returned (.bool (hasK L key)) ∧ w = w' := by
  have hH := Lib.hid h
  obtain ⟨A, c, rfl⟩ := h.len
  have hyes : Hid (∀ i : Nat, L[i]? = some key → hasK L key = true) := Lib.hid (fun i hi => hasK_iff.2 (List.mem_of_getElem? hi))
  have hno : Hid ((∀ (j : Nat) (y : ByteArray), j < L.length → L[j]? = some y → y ≠ key) → hasK L key = false) := Lib.hid (fun hq => hasK_no.2 (fun hm => by
    obtain ⟨j, hj⟩ := List.getElem?_of_mem hm
    exact hq j _ (List.getElem?_eq_some_iff.1 hj).1 hj rfl))
  have hget : Hid (∀ i, i < L.length → ∃ y, L[i]? = some y) := Lib.hid (fun i hi => ⟨_, List.getElem?_eq_getElem hi⟩)
  obtain ⟨b, hb⟩ : ∃ b, b = hasK L key := ⟨_, rfl⟩
  rw [← hb] at hyes hno ⊢
  obtain ⟨n, hnn⟩ : ∃ n, n = L.length := ⟨_, rfl⟩
  rw [← hnn] at hH hno hget hn ⊢
  clear h hb hnn
  go_enter Try.func18, Try.ntmps18
  go_wp2_with fail
  go_loopw [5] (fun s5 wr => ∃ i : Nat, i ≤ n ∧ s5 = .int .i64 i ∧ w = wr ∧ Hid (∀ (j : Nat) (y : ByteArray), j < i → L[j]? = some y → y ≠ key)) (fun s5 _ => n - (intOf s5).toNat)
  case atStart => exact ⟨0, by omega, rfl, rfl, Lib.hid (fun j y hj => by omega)⟩
  case round =>
    obtain ⟨i, hi, rfl, rfl, hpre⟩ := hrel
    by_cases hil : i < n
    · obtain ⟨y, hy⟩ := hget.out i hil
      obtain ⟨g, c', he, _, _, d0⟩ := hH.out.cell hy
      have hA : A = some ⟨g, 0, none⟩ := by injection he
      clear he
      subst hA
      have hix := run_ixT g i n c hil
      have hilH := Lib.hid hil
      have hyH := Lib.hid hy
      have hlt : decide ((i : Int) < (n : Int)) = true := decide_eq_true (by omega)
      have hltn : decide (i < n) = true := decide_eq_true hil
      have hwk := wrap_small (x := (i : Int) + 1) (by omega)
      clear hil hy
      by_cases hk : y = key
      · subst hk
        have hbq : (y.toList == y.toList) = true := by simp
        have hv := Lib.hid (hyes.out i hyH.out)
        go_wp2_with fail
        go_ret
        exact ⟨ret_bool hv.out.symm, rfl⟩
      · have hne := key_ne hk
        have hkH := Lib.hid hk
        clear hk
        go_wp2_with fail
        go_roundw
        case rel => exact ⟨i + 1, by have := hilH.out; omega, by go_num, trivial, Lib.hid (fun j z hj hz => by
          by_cases hji : j = i
          · subst hji
            rw [hyH.out] at hz
            rw [← Option.some.inj hz]
            exact hkH.out
          · exact hpre.out j z (by omega) hz)⟩
        case measure => have := hilH.out; simp [intOf]; omega
    · have hin : i = n := by omega
      subst hin
      have hv := Lib.hid (hno.out hpre.out)
      go_wp2_with fail
      go_ret
      exact ⟨ret_bool hv.out.symm, rfl⟩
set_option maxHeartbeats 8000000 in
theorem rgo_any {w : World} {B : Nat} {v : Value} {L : List ByteArray} (h : RowT w B v L) (hn : L.length ≤ 1000000) (key : ByteArray) :
    Calls Try.prog 10 #[v, .string key] w fun e w' => ∃ v', e = .returned (.tuple #[v', .bool (hasK L key)]) ∧ RowT w' w.heap.size v' (goK L key) ∧ Only [] w w' := by
  have hH := Lib.hid h
  obtain ⟨A, c, rfl⟩ := h.len
  have hend : Hid (hasK L key = decide ((goK (L.take L.length) key).length < L.length)) := Lib.hid (by rw [List.take_length]; exact hasK_len L key)
  have hfin : Hid (goK (L.take L.length) key = goK L key) := Lib.hid (by rw [List.take_length])
  have hstep : Hid (∀ (i : Nat) (y : ByteArray), L[i]? = some y → goK (L.take (i + 1)) key = if y = key then goK (L.take i) key else goK (L.take i) key ++ [y]) := Lib.hid (fun i y hy => by
    rw [List.take_add_one, hy]
    exact goK_snoc _ _ _)
  have hle : Hid (∀ i : Nat, (goK (L.take i) key).length ≤ 1000000) := Lib.hid (fun i => by
    have := goK_le (L.take i) key
    rw [List.length_take] at this
    omega)
  have hget : Hid (∀ i, i < L.length → ∃ y, L[i]? = some y) := Lib.hid (fun i hi => ⟨_, List.getElem?_eq_getElem hi⟩)
  obtain ⟨b, hb⟩ : ∃ b, b = hasK L key := ⟨_, rfl⟩
  obtain ⟨G, hG⟩ : ∃ G, G = goK L key := ⟨_, rfl⟩
  rw [← hb] at hend ⊢
  rw [← hG] at hfin ⊢
  obtain ⟨n, hnn⟩ : ∃ n, n = L.length := ⟨_, rfl⟩
  rw [← hnn] at hH hend hfin hget hn ⊢
  clear h hb hnn hG
  go_enter Try.func10, Try.ntmps10
  go_wp2_with fail
  go_loopw [6, 7] (fun s6 s7 wr => ∃ (i : Nat) (v6 : Value), i ≤ n ∧ s7 = .int .i64 i ∧ v6 = s6 ∧ Hid (RowT wr w.heap.size v6 (goK (L.take i) key)) ∧ Hid (Only [] w wr)) (fun _ s7 _ => n - (intOf s7).toNat)
  case atStart => exact ⟨0, _, by omega, rfl, rfl, Lib.hid (rowT_nil _ _), Lib.hid (Only.refl _ _)⟩
  case round =>
    obtain ⟨i, v6, hi, rfl, rfl, hR, hon⟩ := hrel
    by_cases hil : i < n
    · obtain ⟨y, hy⟩ := hget.out i hil
      obtain ⟨g, c', he, _, _, d0⟩ := (hH.out.same hon.out).cell hy
      have hA : A = some ⟨g, 0, none⟩ := by injection he
      clear he
      subst hA
      have hix := run_ixT g i n c hil
      have hilH := Lib.hid hil
      have hst := hstep.out i y hy
      have hlt : decide ((i : Int) < (n : Int)) = true := decide_eq_true (by omega)
      have hltn : decide (i < n) = true := decide_eq_true hil
      have hwk := wrap_small (x := (i : Int) + 1) (by omega)
      clear hil hy
      by_cases hk : y = key
      · subst hk
        rw [if_pos rfl] at hst
        have hbq : (y.toList == y.toList) = true := by simp
        have hstH := Lib.hid hst
        clear hst
        go_wp2_with fail
        go_roundw
        case rel => exact ⟨i + 1, v6, by have := hilH.out; omega, by go_num, rfl, Lib.hid (by rw [hstH.out]; exact hR.out), hon⟩
        case measure => have := hilH.out; simp [intOf]; omega
      · have hne := key_ne hk
        rw [if_neg hk] at hst
        have hstH := Lib.hid hst
        clear hst hk
        obtain ⟨T, hT⟩ : ∃ T, T = goK (L.take i) key := ⟨_, rfl⟩
        have hTl := Lib.hid (hle.out i)
        rw [← hT] at hR hstH hTl
        clear hT
        go_wp2_with (first
          | (at_builtin; refine wpList_append_rowT (o := ⟨some 26, _, _, _, _, _⟩) (by rfl) (.tmp 20) (.tmp 25) (by rfl) w.heap.size wr.heap.size v6 (.slice (some ⟨wr.heap.size, 0, none⟩) 1 1) T [y] (by rfl) (by rfl) (hR.out.same ((Only.refl [] wr).alloc (.cells #[.string y] 9))) (rowT_one wr y (Nat.le_refl _)) (by have := hTl.out; simp; omega) (by have := hon.out.size; have := ((Only.refl [] wr).alloc (.cells #[.string y] 9)).size; omega) ?_; intro v7 w7 hR7 hO7 hv7; have hR7H := Lib.hid hR7; have hO7H := Lib.hid (own_newS hO7 (hon.out.alloc _) (fun x hx => (hR.out.lt x hx).1)); clear hR7 hO7 hv7))
        go_roundw
        case rel => exact ⟨i + 1, v7, by have := hilH.out; omega, by go_num, rfl, Lib.hid (by rw [hstH.out]; exact hR7H.out), hO7H⟩
        case measure => have := hilH.out; simp [intOf]; omega
    · have hin : i = n := by omega
      subst hin
      have hR2 := hR.out
      have he2 := hend.out
      rw [hfin.out] at hR2 he2
      obtain ⟨A6, c6, rfl⟩ := hR2.len
      have hR2H := Lib.hid hR2
      have he2H := Lib.hid he2
      clear hR2 he2 hR
      go_wp2_with fail
      go_ret2
      refine ⟨_, ?_, hR2H.out, hon.out⟩
      rw [he2H.out]
      have : decide ((G.length : Int) < (i : Int)) = decide (G.length < i) := by
        by_cases hq : G.length < i
        · rw [decide_eq_true hq, decide_eq_true (by omega)]
        · rw [decide_eq_false hq, decide_eq_false (by omega)]
      first | rw [this] | simp
theorem rtip_any {w : World} {B : Nat} {v : Value} {L : List ByteArray} (h : RowT w B v L) (hn : L.length ≤ 1000000) (key : ByteArray) :
    Calls Try.prog 12 #[v, .string key] w fun e w' => ∃ v', e = .returned (.tuple #[v', .bool (!hasK L key)]) ∧ RowT w' w.heap.size v' (tipK L key) ∧ Only [] w w' := by
  have hD := Lib.hid (rgo_any h hn key)
  obtain ⟨A, c, hve⟩ := h.len
  generalize L.length = n0 at hve
  subst hve
  have hle : Hid ((goK L key).length ≤ 1000000) := Lib.hid (Nat.le_trans (goK_le L key) hn)
  obtain ⟨b, hb⟩ : ∃ b, b = hasK L key := ⟨_, rfl⟩
  rw [← hb] at hD ⊢
  unfold tipK
  obtain ⟨G, hG⟩ : ∃ G, G = goK L key := ⟨_, rfl⟩
  rw [← hG] at hD hle ⊢
  clear h hn hb hG
  go_enter Try.func12, Try.ntmps12
  go_upto_region 2 with (go_at_call 10; ((with_reducible refine (hD.out).mono ?_); rintro e w2 ⟨v2, rfl, hR2, hO2⟩; have hRH := Lib.hid hR2; have hOH := Lib.hid hO2; clear hR2 hO2))
  obtain ⟨A2, c2, hve2⟩ := hRH.out.len
  generalize G.length = m2 at hve2
  subst hve2
  go_wp2_with (first
    | (at_builtin; refine wpList_append_rowT (o := ⟨some 17, _, _, _, _, _⟩) (by rfl) (.tmp 14) (.tmp 16) (by rfl) w.heap.size w2.heap.size (.slice A2 m2 c2) (.slice (some ⟨w2.heap.size, 0, none⟩) 1 1) G [key] (by rfl) (by rfl) (hRH.out.same ((Only.refl [] w2).alloc (.cells #[.string key] 9))) (rowT_one w2 key (Nat.le_refl _)) (by have := hle.out; simp; omega) (by have := hOH.out.size; have := ((Only.refl [] w2).alloc (.cells #[.string key] 9)).size; omega) ?_; intro v7 w7 hR7 hO7 hv7; have hR7H := Lib.hid hR7; have hO7H := Lib.hid (own_newS hO7 (hOH.out.alloc _) (fun x hx => (hRH.out.lt x hx).1)); clear hR7 hO7 hv7))
  all_goals go_ret2
  exact ⟨v7, rfl, hR7H.out, hO7H.out⟩
end Go.Proofs.Ytcpiaifaebpoaaa
