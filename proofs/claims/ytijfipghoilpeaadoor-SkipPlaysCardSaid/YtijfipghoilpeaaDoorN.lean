/-
  The document's answers: Less, Ahead, Rank. Premises: a row of pairs of one's own; for Rank: in order.
-/
import Derived.Test.YtijfipghoilpeaaDoorM
import Derived.Test.YtijfipghoilpeaaDoorG
namespace Go.Proofs.YtijfipghoilpeaaDoor
open Go.RowKit

set_option maxHeartbeats 1000000 in
theorem less_any (x y : Sc) (w : World) :
    Calls Tryd.prog 25 #[scV x, scV y] w fun e w' => e = .returned (.bool (lessS x y)) ∧ Only [] w w' := by
  obtain ⟨a, s⟩ := x
  obtain ⟨b, t⟩ := y
  unfold scV lessS
  by_cases hst : s = t
  · have he : (s == t) = true := by simpa using hst
    subst hst
    go_enter Tryd.func25, Tryd.ntmps25
    go_wp2
    go_ret
    refine ⟨ret_bool (by simp), ?_⟩
    exact ((Only.refl [] w).alloc _).alloc _
  · have he : (s == t) = false := by simpa using hst
    go_enter Tryd.func25, Tryd.ntmps25
    go_wp2
    go_ret
    refine ⟨ret_bool (by simp), ?_⟩
    exact ((Only.refl [] w).alloc _).alloc _
theorem ahd_take {L : List Sc} {i : Nat} {y : Sc} (h : L[i]? = some y) (x : Sc) : ahd (L.take (i + 1)) x = ahd (L.take i) x + (if lessS y x = true then 1 else 0) := by
  rw [List.take_add_one, h]
  exact ahd_snoc _ _ _
theorem ahd_take_le (L : List Sc) (i : Nat) (x : Sc) : ahd (L.take i) x ≤ i := by
  have := ahd_le (L.take i) x
  rw [List.length_take] at this
  omega
set_option maxHeartbeats 4000000 in
theorem rahead_any {w : World} {B : Nat} {v : Value} {L : List Sc} (h : RowS w B v L) (hn : L.length ≤ 1000000) (x : Sc) :
    Calls Tryd.prog 19 #[v, scV x] w fun e w' => e = .returned (.int .i64 ((ahd L x : Nat) : Int)) ∧ Only [] w w' := by
  obtain ⟨b1, b2, b3⟩ := boxed1 w x.1 x.2
  obtain ⟨A, c, rfl⟩ := h.len
  have hcel : Hid (∀ k, k < L.length → ∃ (y : Sc) (g : Nat), L[k]? = some y ∧ A = some ⟨g, 0, none⟩ ∧ w.cell? ⟨g, k * 2, none⟩ = some (.string y.1) ∧ w.cell? ⟨g, k * 2 + 1, none⟩ = some (.int .i64 y.2)) := by
    refine Lib.hid (fun k hk => ?_)
    rcases h.form with ⟨_, rfl⟩ | ⟨g, cap, he, h1, h2, h3, hc⟩
    · simp at hk
    · cases he
      exact ⟨L[k], g, List.getElem?_eq_getElem hk, rfl, hc k _ (List.getElem?_eq_getElem hk)⟩
  clear h
  have hst := Lib.hid (fun (i : Nat) (y : Sc) (hy : L[i]? = some y) => ahd_take hy x)
  have hle := Lib.hid (fun i => ahd_take_le L i x)
  obtain ⟨n, hnn⟩ : ∃ n, n = L.length := ⟨_, rfl⟩
  have hend : Hid (ahd (L.take n) x = ahd L x) := Lib.hid (by rw [hnn, List.take_length])
  rw [← hnn] at hcel hn ⊢
  have hls := fun y w => less_any y x w
  clear hnn
  obtain ⟨xa, xs⟩ := x
  unfold scV at *
  simp only at b1 b2 b3 hls
  go_enter Tryd.func19, Tryd.ntmps19
  go_wp2_with fail
  generalize hW1 : w.alloc (.cells #[.string xa, .int .i64 xs] 30) = W1 at *
  generalize w.heap.size = b0 at *
  have b1H := Lib.hid b1
  have hlsH := Lib.hid hls
  clear hW1 b1 hls
  go_loopw [5, 6] (fun s5 s6 wr => ∃ i : Nat, i ≤ n ∧ s6 = .int .i64 i ∧ s5 = .int .i64 ((ahd (L.take i) (xa, xs) : Nat) : Int) ∧ Hid (Only [] W1 wr)) (fun _ s6 _ => n - (intOf s6).toNat)
  case atStart => exact ⟨0, by omega, rfl, rfl, Lib.hid (Only.refl _ _)⟩
  case round =>
    obtain ⟨i, hi, rfl, rfl, hon⟩ := hrel
    by_cases hil : i < n
    · obtain ⟨⟨ya, ys⟩, g, hy, rfl, d1, d2⟩ := hcel.out i hil
      have hst1 := Lib.hid (hst.out i _ hy)
      have hyl := hle.out i
      have c0 := cell_keep (b1H.out.trans hon.out (by simp)) d1
      have c1 := cell_keep (b1H.out.trans hon.out (by simp)) d2
      have t0 := cell_keep hon.out b2
      have t1 := cell_keep hon.out b3
      have hix := run_ixS g i n c hil
      have hilH := Lib.hid hil
      have hlt : decide ((i : Int) < (n : Int)) = true := decide_eq_true (by omega)
      have hltn : decide (i < n) = true := decide_eq_true hil
      clear d1 d2 hy b2 b3 hcel hst hle hil
      generalize hak : ahd (L.take i) (xa, xs) = a at *
      clear hak
      simp only at c0 c1
      cases hl : lessS (ya, ys) (xa, xs) with
      | true =>
        rw [hl] at hst1
        have hcl : ∀ w1, Calls Tryd.prog 25 #[.agg #[.string ya, .int .i64 ys], .agg #[.string xa, .int .i64 xs]] w1 fun e w' => e = .returned (.bool true) ∧ Only [] w1 w' := fun w1 => by
          have := hlsH.out (ya, ys) w1
          rw [hl] at this
          exact this
        have hclH := Lib.hid hcl
        clear hl hcl
        go_wp2_with fail
        go_region_held3 (fun w' => w'.cell? ⟨g, i * 2, none⟩ = some (.string ya) ∧ w'.cell? ⟨g, i * 2 + 1, none⟩ = some (.int .i64 ys) ∧ w'.cell? ⟨b0, 0, none⟩ = some (.string xa) ∧ w'.cell? ⟨b0, 1, none⟩ = some (.int .i64 xs))
          (first | exact ⟨c0, c1, t0, t1⟩ | exact ⟨z0, z1, z2, z3⟩ | assumption)
          (first | (go_at_call 25; (with_reducible refine (hclH.out _).mono ?_); rintro e w3 ⟨rfl, h3⟩; have z0 := cell_keep (a := wr.drew) h3 c0; have z1 := cell_keep (a := wr.drew) h3 c1; have z2 := cell_keep (a := wr.drew) h3 t0; have z3 := cell_keep (a := wr.drew) h3 t1; have hO3 := Lib.hid ((hon.out.drew).trans h3 (by simp))))
        go_wp2_with fail
        go_roundw
        case rel => exact ⟨i + 1, by have := hilH.out; omega, by go_num, by rw [hst1.out]; rfl, hO3⟩
        case measure => have := hilH.out; simp [intOf]; omega
      | false =>
        rw [hl] at hst1
        have hcl : ∀ w1, Calls Tryd.prog 25 #[.agg #[.string ya, .int .i64 ys], .agg #[.string xa, .int .i64 xs]] w1 fun e w' => e = .returned (.bool false) ∧ Only [] w1 w' := fun w1 => by
          have := hlsH.out (ya, ys) w1
          rw [hl] at this
          exact this
        have hclH := Lib.hid hcl
        clear hl hcl
        go_wp2_with fail
        go_region_held3 (fun w' => w'.cell? ⟨g, i * 2, none⟩ = some (.string ya) ∧ w'.cell? ⟨g, i * 2 + 1, none⟩ = some (.int .i64 ys) ∧ w'.cell? ⟨b0, 0, none⟩ = some (.string xa) ∧ w'.cell? ⟨b0, 1, none⟩ = some (.int .i64 xs))
          (first | exact ⟨c0, c1, t0, t1⟩ | exact ⟨z0, z1, z2, z3⟩ | assumption)
          (first | (go_at_call 25; (with_reducible refine (hclH.out _).mono ?_); rintro e w3 ⟨rfl, h3⟩; have z0 := cell_keep (a := wr.drew) h3 c0; have z1 := cell_keep (a := wr.drew) h3 c1; have z2 := cell_keep (a := wr.drew) h3 t0; have z3 := cell_keep (a := wr.drew) h3 t1; have hO3 := Lib.hid ((hon.out.drew).trans h3 (by simp))))
        go_wp2_with fail
        go_roundw
        case rel => exact ⟨i + 1, by have := hilH.out; omega, by go_num, by rw [hst1.out]; rfl, hO3⟩
        case measure => have := hilH.out; simp [intOf]; omega
    · have hin : i = n := by omega
      subst hin
      rw [hend.out]
      go_wp2_with fail
      go_ret
      exact ⟨rfl, b1H.out.trans hon.out (by simp)⟩

theorem sc_ne {a b : Sc} (h : a ≠ b) : (a.1 = b.1 ∧ (a.2 == b.2) = false) ∨ (a.1.toList == b.1.toList) = false := by
  by_cases h1 : a.1 = b.1
  · exact Or.inl ⟨h1, beq_false_of_ne (fun e => h (Prod.ext h1 e))⟩
  · refine Or.inr ?_
    cases hq : (a.1.toList == b.1.toList) with
    | false => rfl
    | true => exact absurd (ba_eq (by simpa using hq)) h1
set_option maxHeartbeats 4000000 in
theorem rrank_any {w : World} {B : Nat} {v : Value} {L : List Sc} (h : RowS w B v L) (hr : Rises L) (hn : L.length ≤ 1000000) (x : Sc) :
    Calls Tryd.prog 17 #[v, scV x] w fun e w' => e = .returned (.int .i64 (rnk L x)) ∧ Only [] w w' := by
  obtain ⟨b1, b2, b3⟩ := boxed1 w x.1 x.2
  obtain ⟨A, c, rfl⟩ := h.len
  have hcel : Hid (∀ k, k < L.length → ∃ (y : Sc) (g : Nat), L[k]? = some y ∧ A = some ⟨g, 0, none⟩ ∧ w.cell? ⟨g, k * 2, none⟩ = some (.string y.1) ∧ w.cell? ⟨g, k * 2 + 1, none⟩ = some (.int .i64 y.2)) := by
    refine Lib.hid (fun k hk => ?_)
    rcases h.form with ⟨_, rfl⟩ | ⟨g, cap, he, h1, h2, h3, hc⟩
    · simp at hk
    · cases he
      exact ⟨L[k], g, List.getElem?_eq_getElem hk, rfl, hc k _ (List.getElem?_eq_getElem hk)⟩
  clear h
  have hfound : Hid (∀ i : Nat, L[i]? = some x → rnk L x = (i : Int)) := Lib.hid (fun (i : Nat) hi => by unfold rnk; rw [if_pos (List.mem_of_getElem? hi), at_ahd hr hi])
  have hnone : Hid ((∀ j, j < L.length → L[j]? ≠ some x) → rnk L x = -1) := Lib.hid (fun hq => by
    unfold rnk
    rw [if_neg]
    intro hm
    obtain ⟨j, hj⟩ := List.getElem?_of_mem hm
    exact hq j (List.getElem?_eq_some_iff.1 hj).1 hj)
  obtain ⟨n, hnn⟩ : ∃ n, n = L.length := ⟨_, rfl⟩
  rw [← hnn] at hcel hn hnone ⊢
  clear hnn hr
  obtain ⟨xa, xs⟩ := x
  unfold scV at *
  simp only at b1 b2 b3
  generalize rnk L (xa, xs) = rv at *
  go_enter Tryd.func17, Tryd.ntmps17
  go_wp2_with fail
  generalize hW1 : w.alloc (.cells #[.string xa, .int .i64 xs] 30) = W1 at *
  generalize w.heap.size = b0 at *
  have b1H := Lib.hid b1
  clear hW1 b1
  go_loopw [5] (fun s5 wr => ∃ i : Nat, i ≤ n ∧ s5 = .int .i64 i ∧ Hid (∀ j, j < i → L[j]? ≠ some (xa, xs)) ∧ Hid (Only [] W1 wr)) (fun s5 _ => n - (intOf s5).toNat)
  case atStart => exact ⟨0, by omega, rfl, Lib.hid (fun j hj => by omega), Lib.hid (Only.refl _ _)⟩
  case round =>
    obtain ⟨i, hi, rfl, hpre, hon⟩ := hrel
    by_cases hil : i < n
    · obtain ⟨⟨ya, ys⟩, g, hy, rfl, d1, d2⟩ := hcel.out i hil
      have c0 := cell_keep (b1H.out.trans hon.out (by simp)) d1
      have c1 := cell_keep (b1H.out.trans hon.out (by simp)) d2
      have t0 := cell_keep hon.out b2
      have t1 := cell_keep hon.out b3
      have hix := run_ixS g i n c hil
      have hilH := Lib.hid hil
      have hyH := Lib.hid hy
      have hlt : decide ((i : Int) < (n : Int)) = true := decide_eq_true (by omega)
      have hltn : decide (i < n) = true := decide_eq_true hil
      simp only at c0 c1
      clear d1 d2 hy b2 b3 hcel hil
      by_cases hyx : (ya, ys) = (xa, xs)
      · have hv := Lib.hid (hfound.out i (by rw [hyH.out, hyx]))
        cases hyx
        clear hyH
        go_wp2_with fail
        go_quiet (fail)
        go_wp2_with fail
        go_ret
        exact ⟨ret_int hv.out.symm, b1H.out.trans (hon.out.drewN _) (by simp)⟩
      · have hpre2 : Hid (∀ j, j < i + 1 → L[j]? ≠ some (xa, xs)) := Lib.hid (fun j hj => by
          by_cases hji : j = i
          · subst hji; rw [hyH.out]; exact fun e => hyx (Option.some.inj e)
          · exact hpre.out j (by omega))
        rcases sc_ne hyx with ⟨e1, e2⟩ | e1
        · simp only at e1 e2
          subst e1
          clear hyx hyH
          go_wp2_with fail
          go_quiet (fail)
          go_wp2_with fail
          go_roundw
          case rel => exact ⟨i + 1, by have := hilH.out; omega, by go_num, hpre2, Lib.hid (hon.out.drewN _)⟩
          case measure => have := hilH.out; simp [intOf]; omega
        · simp only at e1
          clear hyx hyH
          go_wp2_with fail
          go_quiet (fail)
          go_wp2_with fail
          go_roundw
          case rel => exact ⟨i + 1, by have := hilH.out; omega, by go_num, hpre2, Lib.hid (hon.out.drewN _)⟩
          case measure => have := hilH.out; simp [intOf]; omega
    · have hin : i = n := by omega
      subst hin
      have hv := Lib.hid (hnone.out hpre.out)
      go_wp2_with fail
      go_ret
      exact ⟨ret_int hv.out.symm, b1H.out.trans hon.out (by simp)⟩
end Go.Proofs.YtijfipghoilpeaaDoor
