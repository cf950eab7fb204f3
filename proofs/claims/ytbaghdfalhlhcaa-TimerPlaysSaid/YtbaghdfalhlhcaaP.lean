/-
  The document's Same of two rows of keys with times. Premises: rows of one's own.
-/
import Derived.Test.YtbaghdfalhlhcaaD
namespace Go.Proofs.Ytbaghdfalhlhcaa
open Go.RowKit

theorem rowS_cell {w : World} {B : Nat} {A : Option Addr} {n c : Nat} {L : List Sc} (h : RowS w B (.slice A n c) L) : ∀ k, k < L.length → ∃ (y : Sc) (g : Nat), L[k]? = some y ∧ A = some ⟨g, 0, none⟩ ∧ w.cell? ⟨g, k * 2, none⟩ = some (.string y.1) ∧ w.cell? ⟨g, k * 2 + 1, none⟩ = some (.int .i64 y.2) := by
  intro k hk
  rcases h.form with ⟨_, rfl⟩ | ⟨g, cap, he, h1, h2, h3, hc⟩
  · simp at hk
  · cases he
    exact ⟨L[k], g, List.getElem?_eq_getElem hk, rfl, hc k _ (List.getElem?_eq_getElem hk)⟩
set_option maxHeartbeats 2000000 in
theorem rsame_any {w : World} {B B' : Nat} {v v' : Value} {L L' : List Sc} (h : RowS w B v L) (h' : RowS w B' v' L') (hl : L.length ≤ 1000000) :
    Calls Try.prog 21 #[v, v'] w fun r w' => r = .returned (.bool (decide (L = L'))) ∧ Only [] w w' := by
  obtain ⟨A, c, rfl⟩ := h.len
  obtain ⟨A', c', rfl⟩ := h'.len
  by_cases hn : L.length = L'.length
  · have hcel := Lib.hid (rowS_cell h)
    have hcel' := Lib.hid (rowS_cell h')
    have hext : Hid ((∀ i : Nat, i < L.length → L[i]? = L'[i]?) → L = L') := Lib.hid (fun hq => by
      apply List.ext_getElem?
      intro i
      by_cases hi : i < L.length
      · exact hq i hi
      · rw [List.getElem?_eq_none (by omega), List.getElem?_eq_none (by omega)])
    clear h h'
    rw [← hn] at hcel' ⊢
    clear hn
    generalize L.length = n at *
    go_enter Try.func21, Try.ntmps21
    go_wp2_with fail
    go_loopw [5] (fun s5 wr => ∃ i : Nat, i ≤ n ∧ s5 = .int .i64 i ∧ Hid (∀ j : Nat, j < i → L[j]? = L'[j]?) ∧ Hid (Only [] w wr)) (fun s5 _ => n - (intOf s5).toNat)
    case atStart => exact ⟨0, by omega, rfl, Lib.hid (fun j hj => absurd hj (by omega)), Lib.hid (Only.refl _ _)⟩
    case round =>
      obtain ⟨i, hi, rfl, hpre, hon⟩ := hrel
      by_cases hil : i < n
      · obtain ⟨⟨ya, ys⟩, g, hy, rfl, d1, d2⟩ := hcel.out i hil
        obtain ⟨⟨za, zs⟩, g2, hz, rfl, d3, d4⟩ := hcel'.out i hil
        have e1 := cell_keep hon.out d1
        have e2 := cell_keep hon.out d2
        have e3 := cell_keep hon.out d3
        have e4 := cell_keep hon.out d4
        have hix := run_ixS g i n c hil
        have hix2 := run_ixS g2 i n c' hil
        have hyH := Lib.hid hy
        have hzH := Lib.hid hz
        have hilH := Lib.hid hil
        have hlt : decide ((i : Int) < (n : Int)) = true := decide_eq_true (by omega)
        have hltn : decide (i < n) = true := decide_eq_true hil
        simp only at e1 e2 e3 e4
        clear hy hz d1 d2 d3 d4 hil
        by_cases hxy : (ya, ys) = (za, zs)
        · cases hxy
          go_wp2_with fail
          go_quiet (fail)
          go_wp2_with fail
          go_roundw
          case rel => exact ⟨i + 1, by have := hilH.out; omega, by go_num, Lib.hid (fun j hj => by
            by_cases hji : j = i
            · subst hji; rw [hyH.out, hzH.out]
            · exact hpre.out j (by omega)), Lib.hid (hon.out.drewN _)⟩
          case measure => have := hilH.out; simp [intOf]; omega
        · have hno : Hid (decide (L = L') = false) := Lib.hid (decide_eq_false (fun e => hxy (by have h1 := hyH.out; have h2 := hzH.out; rw [e, h2] at h1; exact (Option.some.inj h1).symm)))
          rcases sc_ne hxy with ⟨f1, f2⟩ | f1
          · simp only at f1 f2
            subst f1
            clear hxy
            go_wp2_with fail
            go_quiet (fail)
            go_wp2_with fail
            go_ret
            exact ⟨by rw [hno.out]; rfl, hon.out.drewN _⟩
          · simp only at f1
            clear hxy
            go_wp2_with fail
            go_quiet (fail)
            go_wp2_with fail
            go_ret
            exact ⟨by rw [hno.out]; rfl, hon.out.drewN _⟩
      · have : i = n := by omega
        subst this
        have hyes : Hid (decide (L = L') = true) := Lib.hid (decide_eq_true (hext.out hpre.out))
        go_wp2_with fail
        go_ret
        exact ⟨by rw [hyes.out]; rfl, hon.out⟩
  · have hno : Hid (decide (L = L') = false) := Lib.hid (decide_eq_false (fun e => hn (by rw [e])))
    have hb : ((L.length : Int) == (L'.length : Int)) = false := beq_false_of_ne (by omega)
    have hb2 : (L.length == L'.length) = false := beq_false_of_ne hn
    clear h h' hn
    generalize L.length = n at *
    generalize L'.length = n' at *
    go_enter Try.func21, Try.ntmps21
    go_wp2_with fail
    go_ret
    exact ⟨by rw [hno.out]; rfl, Only.refl _ _⟩

end Go.Proofs.Ytbaghdfalhlhcaa
