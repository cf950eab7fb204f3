/-
  The walk of carry: a thing goes from a place to another one.
-/
import Derived.Test.YtnmcedkinacbpaaH
import Derived.Deep.LoopGhost
namespace Go.Proofs.Ytnmcedkinacbpaa
open Go.RowKit

/-- What stands at a place when a thing went from p to q. -/
def cr (L : List Int) (p q j : Nat) : Int := if j = q then nth L p else if p ≤ j ∧ j < q then nth L (j + 1) else if q < j ∧ j ≤ p then nth L (j - 1) else nth L j
def Carried (w : World) (D g N f : Nat) (L : List Int) (p q : Nat) (w' : World) : Prop := ∃ M, DQ w' D g N f M ∧ M.length = L.length ∧ (∀ j, nth M j = cr L p q j) ∧ Only [g] w w'
theorem slot_int {w : World} {D g N f n : Nat} (h : Hd w D (some ⟨g, 0, none⟩) N f n) (hs : Sh N f 0) (p : Nat) (hp : p < N) (x : Int) (hx : x = (p : Int)) (k : Nat) :
    Calls Try.prog 28 #[.pointer (some ⟨D, 0, none⟩), .int .i64 x] (w.drewN k) fun e w' => e = .returned (.pointer (some ⟨g, rot N f p, none⟩)) ∧ ∃ m, w' = w.drewN m := by
  subst hx
  exact (slot_any (h.drewN k) hs p hp).mono fun _ _ ⟨h1, m, h2⟩ => ⟨h1, k + m, by rw [h2, World.drewN_drewN]⟩

/-- How things stand in a round. -/
def Up (w : World) (D g N f : Nat) (L : List Int) (p i : Nat) (wr : World) : Prop := ∃ M, DQ wr D g N f M ∧ M.length = L.length ∧ (∀ j, nth M j = if p ≤ j ∧ j < i then nth L (j + 1) else nth L j) ∧ Only [g] w wr
def Down (w : World) (D g N f : Nat) (L : List Int) (p i : Nat) (wr : World) : Prop := ∃ M, DQ wr D g N f M ∧ M.length = L.length ∧ (∀ j, nth M j = if i < j ∧ j ≤ p then nth L (j - 1) else nth L j) ∧ Only [g] w wr
theorem up_step {w wr : World} {D g N f p i : Nat} {L : List Int} (h : Up w D g N f L p i wr) (h1 : p ≤ i) (h2 : i + 1 < L.length) (k : Nat) : Up w D g N f L p (i + 1) ((wr.drewN k).setCell ⟨g, rot N f i, none⟩ (.int .i64 (nth L (i + 1)))) := by
  obtain ⟨M, m1, m2, m3, m4⟩ := h
  refine ⟨M.set i (nth L (i + 1)), dq_set (m1.drewN k) (by omega) _, by simpa using m2, fun j => ?_, (m4.drewN k).set (Or.inl (by simp)) _⟩
  rw [nth_set _ _ _ _ (by omega), m3 j]
  by_cases hj : j = i
  · subst hj; rw [if_pos rfl, if_pos ⟨h1, by omega⟩]
  · rw [if_neg hj]
    by_cases hc : p ≤ j ∧ j < i
    · rw [if_pos hc, if_pos ⟨hc.1, by omega⟩]
    · rw [if_neg hc, if_neg (by omega)]
theorem down_step {w wr : World} {D g N f p i : Nat} {L : List Int} (h : Down w D g N f L p i wr) (h1 : i ≤ p) (h0 : 0 < i) (h2 : i < L.length) (k : Nat) : Down w D g N f L p (i - 1) ((wr.drewN k).setCell ⟨g, rot N f i, none⟩ (.int .i64 (nth L (i - 1)))) := by
  obtain ⟨M, m1, m2, m3, m4⟩ := h
  refine ⟨M.set i (nth L (i - 1)), dq_set (m1.drewN k) (by omega) _, by simpa using m2, fun j => ?_, (m4.drewN k).set (Or.inl (by simp)) _⟩
  rw [nth_set _ _ _ _ (by omega), m3 j]
  by_cases hj : j = i
  · subst hj; rw [if_pos rfl, if_pos ⟨by omega, h1⟩]
  · rw [if_neg hj]
    by_cases hc : i < j ∧ j ≤ p
    · rw [if_pos hc, if_pos ⟨by omega, hc.2⟩]
    · rw [if_neg hc, if_neg (by omega)]
theorem up_done {w wr : World} {D g N f p q : Nat} {L : List Int} (h : Up w D g N f L p q wr) (h1 : p ≤ q) (h2 : q < L.length) (k : Nat) : Carried w D g N f L p q ((wr.drewN k).setCell ⟨g, rot N f q, none⟩ (.int .i64 (nth L p))) := by
  obtain ⟨M, m1, m2, m3, m4⟩ := h
  refine ⟨M.set q (nth L p), dq_set (m1.drewN k) (by omega) _, by simpa using m2, fun j => ?_, (m4.drewN k).set (Or.inl (by simp)) _⟩
  rw [nth_set _ _ _ _ (by omega), m3 j]
  unfold cr
  by_cases hj : j = q
  · rw [if_pos hj, if_pos hj]
  · rw [if_neg hj, if_neg hj]
    by_cases hc : p ≤ j ∧ j < q
    · rw [if_pos hc, if_pos hc]
    · rw [if_neg hc, if_neg hc, if_neg (by omega)]
theorem down_done {w wr : World} {D g N f p q : Nat} {L : List Int} (h : Down w D g N f L p q wr) (h1 : q < p) (h2 : q < L.length) (k : Nat) : Carried w D g N f L p q ((wr.drewN k).setCell ⟨g, rot N f q, none⟩ (.int .i64 (nth L p))) := by
  obtain ⟨M, m1, m2, m3, m4⟩ := h
  refine ⟨M.set q (nth L p), dq_set (m1.drewN k) (by omega) _, by simpa using m2, fun j => ?_, (m4.drewN k).set (Or.inl (by simp)) _⟩
  rw [nth_set _ _ _ _ (by omega), m3 j]
  unfold cr
  by_cases hj : j = q
  · rw [if_pos hj, if_pos hj]
  · rw [if_neg hj, if_neg hj, if_neg (show ¬ (p ≤ j ∧ j < q) by omega)]
/-- What a round needs: the cell that is read, the cell that is written. -/
theorem up_cells {w wr : World} {D g N f p i : Nat} {L : List Int} (h : Up w D g N f L p i wr) (h2 : i + 1 < L.length) :
    Hd wr D (some ⟨g, 0, none⟩) N f L.length ∧ wr.cell? ⟨g, rot N f (i + 1), none⟩ = some (.int .i64 (nth L (i + 1))) ∧ (∃ u, wr.cell? ⟨g, rot N f i, none⟩ = some u) ∧ wr.frozen? ⟨g, rot N f i, none⟩ = false := by
  obtain ⟨M, m1, m2, m3, m4⟩ := h
  have a1 := (m1.row.cell (k := i + 1) (Nat.zero_le _) (by omega)).1
  obtain ⟨a2, a3⟩ := m1.row.cell (k := i) (Nat.zero_le _) (by omega)
  rw [m3, if_neg (by omega)] at a1
  exact ⟨m2 ▸ m1.head, a1, ⟨_, a2⟩, a3⟩
theorem down_cells {w wr : World} {D g N f p i : Nat} {L : List Int} (h : Down w D g N f L p i wr) (h0 : 0 < i) (h2 : i < L.length) :
    Hd wr D (some ⟨g, 0, none⟩) N f L.length ∧ wr.cell? ⟨g, rot N f (i - 1), none⟩ = some (.int .i64 (nth L (i - 1))) ∧ (∃ u, wr.cell? ⟨g, rot N f i, none⟩ = some u) ∧ wr.frozen? ⟨g, rot N f i, none⟩ = false := by
  obtain ⟨M, m1, m2, m3, m4⟩ := h
  have a1 := (m1.row.cell (k := i - 1) (Nat.zero_le _) (by omega)).1
  obtain ⟨a2, a3⟩ := m1.row.cell (k := i) (Nat.zero_le _) (by omega)
  rw [m3, if_neg (by omega)] at a1
  exact ⟨m2 ▸ m1.head, a1, ⟨_, a2⟩, a3⟩
theorem up_last {w wr : World} {D g N f p i : Nat} {L : List Int} (h : Up w D g N f L p i wr) (h2 : i < L.length) :
    Hd wr D (some ⟨g, 0, none⟩) N f L.length ∧ (∃ u, wr.cell? ⟨g, rot N f i, none⟩ = some u) ∧ wr.frozen? ⟨g, rot N f i, none⟩ = false := by
  obtain ⟨M, m1, m2, m3, m4⟩ := h
  obtain ⟨a2, a3⟩ := m1.row.cell (k := i) (Nat.zero_le _) (by omega)
  exact ⟨m2 ▸ m1.head, ⟨_, a2⟩, a3⟩
theorem down_last {w wr : World} {D g N f p i : Nat} {L : List Int} (h : Down w D g N f L p i wr) (h2 : i < L.length) :
    Hd wr D (some ⟨g, 0, none⟩) N f L.length ∧ (∃ u, wr.cell? ⟨g, rot N f i, none⟩ = some u) ∧ wr.frozen? ⟨g, rot N f i, none⟩ = false := by
  obtain ⟨M, m1, m2, m3, m4⟩ := h
  obtain ⟨a2, a3⟩ := m1.row.cell (k := i) (Nat.zero_le _) (by omega)
  exact ⟨m2 ▸ m1.head, ⟨_, a2⟩, a3⟩

set_option maxHeartbeats 4000000 in
theorem carry_any {w : World} {D g N f : Nat} {L : List Int} (h : DQ w D g N f L) (p q : Nat) (hp : p < L.length) (hq : q < L.length) :
    Calls Try.prog 34 #[.pointer (some ⟨D, 0, none⟩), .int .i64 (p : Int), .int .i64 (q : Int)] w fun e w' => e = .returned (.tuple #[]) ∧ Carried w D g N f L p q w' := by
  obtain ⟨s1, s2, s3⟩ := h.sh
  have hs0 := Lib.hid h.sh.zero
  have hSp := Lib.hid (slot_any h.head h.sh.zero p (by omega))
  have hcp := (h.row.cell (k := p) (Nat.zero_le _) hp).1
  have hU : Hid (∀ k, Up w D g N f L p p (w.drewN k)) := Lib.hid fun k => ⟨L, h.drewN k, rfl, fun j => by rw [if_neg (by omega)], (Only.refl _ _).drewN k⟩
  have hV : Hid (∀ k, Down w D g N f L p p (w.drewN k)) := Lib.hid fun k => ⟨L, h.drewN k, rfl, fun j => by rw [if_neg (by omega)], (Only.refl _ _).drewN k⟩
  have hqN : q < N := by omega
  have hpN : p < N := by omega
  obtain ⟨n, hn⟩ : ∃ n, n = L.length := ⟨_, rfl⟩
  rw [← hn] at hp hq s2
  have hnH := Lib.hid hn
  have hs3 := Lib.hid s3
  clear h hn s1
  obtain ⟨v, hv⟩ : ∃ v, v = nth L p := ⟨_, rfl⟩
  rw [← hv] at hcp
  have hvH := Lib.hid hv
  clear hv
  by_cases hlt : q < p
  · clear hU
    have hd : decide ((q : Int) < (p : Int)) = true := decide_eq_true (by omega)
    go_enter Try.func34, Try.ntmps34
    go_wp2_with (go_at_call 28; ((with_reducible refine (hSp.out).mono ?_); rintro e w' ⟨rfl, k0, rfl⟩))
    go_loopw [8] (fun s8 wr => ∃ i : Nat, q ≤ i ∧ i ≤ p ∧ s8 = .int .i64 i ∧ Hid (Down w D g N f L p i wr)) (fun s8 _ => (intOf s8).toNat)
    case atStart => exact ⟨p, by omega, by omega, rfl, Lib.hid (hV.out _)⟩
    case round =>
      obtain ⟨i, hi1, hi2, rfl, hD⟩ := hrel
      by_cases hil : i = q
      · subst hil
        obtain ⟨hh, ⟨u, hu⟩, hfz⟩ := down_last hD.out (by rw [← hnH.out]; omega)
        have hS1 := Lib.hid (slot_any hh hs0.out i hqN)
        clear hh
        go_wp2_with (go_at_call 28; ((with_reducible refine (hS1.out).mono ?_); rintro e w' ⟨rfl, k1, rfl⟩))
        go_end0
        have := down_done hD.out hlt (by rw [← hnH.out]; omega) k1
        rw [← hvH.out] at this
        exact ⟨rfl, this⟩
      · have hne : ((i : Int) == (q : Int)) = false := beq_false_of_ne (by omega)
        obtain ⟨hh, hr, ⟨u, hu⟩, hfz⟩ := down_cells hD.out (by omega) (by rw [← hnH.out]; omega)
        have hS1 := Lib.hid (slot_any hh hs0.out i (by omega))
        have hS2 := Lib.hid (fun k => slot_int hh hs0.out (i - 1) (by omega) ((i : Int) + -1) (by omega) k)
        have hw1 := wrap_small (x := (i : Int) + -1) (by omega)
        clear hh
        go_wp2_with (first
          | (go_at_call 28; ((with_reducible refine (hS1.out).mono ?_); rintro e w' ⟨rfl, k1, rfl⟩))
          | (go_at_call 28; ((with_reducible refine (hS2.out _).mono ?_); rintro e w' ⟨rfl, k2, rfl⟩)))
        go_roundw
        case rel => exact ⟨i - 1, by omega, by omega, by congr 1; omega, Lib.hid (down_step hD.out hi2 (by omega) (by rw [← hnH.out]; omega) _)⟩
        case measure => simp [intOf]; omega
  · clear hV
    have hd : decide ((q : Int) < (p : Int)) = false := decide_eq_false (by omega)
    go_enter Try.func34, Try.ntmps34
    go_wp2_with (go_at_call 28; ((with_reducible refine (hSp.out).mono ?_); rintro e w' ⟨rfl, k0, rfl⟩))
    go_loopw [8] (fun s8 wr => ∃ i : Nat, p ≤ i ∧ i ≤ q ∧ s8 = .int .i64 i ∧ Hid (Up w D g N f L p i wr)) (fun s8 _ => q - (intOf s8).toNat)
    case atStart => exact ⟨p, by omega, by omega, rfl, Lib.hid (hU.out _)⟩
    case round =>
      obtain ⟨i, hi1, hi2, rfl, hD⟩ := hrel
      by_cases hil : i = q
      · subst hil
        obtain ⟨hh, ⟨u, hu⟩, hfz⟩ := up_last hD.out (by rw [← hnH.out]; omega)
        have hS1 := Lib.hid (slot_any hh hs0.out i hqN)
        clear hh
        go_wp2_with (go_at_call 28; ((with_reducible refine (hS1.out).mono ?_); rintro e w' ⟨rfl, k1, rfl⟩))
        go_end0
        have := up_done hD.out hi1 (by rw [← hnH.out]; omega) k1
        rw [← hvH.out] at this
        exact ⟨rfl, this⟩
      · have hne : ((i : Int) == (q : Int)) = false := beq_false_of_ne (by omega)
        obtain ⟨hh, hr, ⟨u, hu⟩, hfz⟩ := up_cells hD.out (by rw [← hnH.out]; omega)
        have hS1 := Lib.hid (slot_any hh hs0.out i (by omega))
        have hS2 := Lib.hid (fun k => slot_int hh hs0.out (i + 1) (by omega) ((i : Int) + 1) (by omega) k)
        have hw1 := wrap_small (x := (i : Int) + 1) (by omega)
        clear hh
        go_wp2_with (first
          | (go_at_call 28; ((with_reducible refine (hS1.out).mono ?_); rintro e w' ⟨rfl, k1, rfl⟩))
          | (go_at_call 28; ((with_reducible refine (hS2.out _).mono ?_); rintro e w' ⟨rfl, k2, rfl⟩)))
        go_roundw
        case rel => exact ⟨i + 1, by omega, by omega, by congr 1, Lib.hid (up_step hD.out hi1 (by rw [← hnH.out]; omega) _)⟩
        case measure => simp [intOf]; omega

end Go.Proofs.Ytnmcedkinacbpaa
