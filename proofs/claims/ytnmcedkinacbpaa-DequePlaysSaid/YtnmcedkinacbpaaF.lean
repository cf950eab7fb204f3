/-
  The walk of shorten: things go at both ends. No condition but the sizes that a list's room has.
-/
import Derived.Test.YtnmcedkinacbpaaE
namespace Go.Proofs.Ytnmcedkinacbpaa
open Go.RowKit

/-- What a call leaves that turns a list's head, room and place: it lies in its old room, or a new one. -/
def Left (w : World) (D g : Nat) (L : List Int) (w' : World) : Prop := ∃ g' N' f', DQ w' D g' N' f' L ∧ Only [D, g] w w' ∧ (g' = g ∨ w.heap.size ≤ g')
theorem part_at (L : List Int) (a m k : Nat) (hk : k < m) (_ : a + m ≤ L.length) : nth ((L.drop a).take m) k = nth L (a + k) := by
  unfold nth
  rw [List.getElem?_take, if_pos hk, List.getElem?_drop]
theorem part_len (L : List Int) (a m : Nat) (hm : a + m ≤ L.length) : ((L.drop a).take m).length = m := by
  rw [List.length_take, List.length_drop]; omega
theorem dq_part {w : World} {D g N f a m : Nat} {L : List Int} (h : Hd w D (some ⟨g, 0, none⟩) N (rot N f a) m) (hs : Sh N f L.length) (hx : Rg w g N f a (a + m) (nth L)) (hm : a + m ≤ L.length) (hne : D ≠ g) :
    DQ w D g N (rot N f a) ((L.drop a).take m) := by
  have hl := part_len L a m hm
  obtain ⟨s1, s2, s3⟩ := hs
  refine ⟨by rw [hl]; exact h, ?_, ⟨?_, by omega, s3⟩, hne⟩
  · obtain ⟨C, c1, c2, c3⟩ := hx
    refine ⟨C, c1, c2, fun k h1 h2 => ?_⟩
    rw [hl] at h2
    rw [part_at L a m k h2 hm]
    have := c3 (a + k) (by omega) (by omega)
    have e1 := rot_or N f a
    have e2 := rot_or N (rot N f a) k
    have e3 := rot_or N f (a + k)
    rw [show rot N (rot N f a) k = rot N f (a + k) by omega]
    exact this
  · have e1 := rot_or N f a
    omega

theorem sh_dq {w : World} {D g N f a b n m : Nat} {L : List Int} (h : Hd w D (some ⟨g, 0, none⟩) N (rot N f a) m) (hs : Sh N f L.length) (hx : Rg w g N f a (n - b) (nth L)) (hn : n = L.length) (hm : m = L.length - a - b) (hab : a + b ≤ L.length) (hne : D ≠ g) :
    DQ w D g N (rot N f a) ((L.drop a).take m) :=
  dq_part h hs (by rw [show a + m = n - b by omega]; exact hx) (by omega) hne
theorem shDQ {w : World} {D g N f m : Nat} {L : List Int} (h : DQ w D g N f L) (hL : L.length = m) : Sh N f m := hL ▸ h.sh
theorem rgDQ {w : World} {D g N f m k : Nat} {L : List Int} (h : DQ w D g N f L) (hL : L.length = m) : Rg (w.drewN k) g N f 0 m (nth L) := hL ▸ h.row
/-- Behind a move. -/
theorem left_moved {w w4 w5 : World} {D g N q m : Nat} {L : List Int} (hL : L.length = m) (hO : Only [D, g] w w4) (hd : DQ w4 D g N q L) (h : Moved w4 D m (nth L) w5) : Left w D g L w5 := by
  obtain ⟨N', k1, k2, k3, _, k5, _⟩ := h
  obtain ⟨h1, h2⟩ := hd.lt
  subst hL
  exact ⟨w4.heap.size, N', 0, ⟨k1, k2, k3, by omega⟩, hO.trans k5 (by simp), Or.inr hO.size⟩
set_option maxHeartbeats 4000000 in
theorem shorten_any {w : World} {D g N f : Nat} {L : List Int} (h : DQ w D g N f L) (a b : Nat) (hab : a + b ≤ L.length) :
    Calls Try.prog 30 #[.pointer (some ⟨D, 0, none⟩), .int .i64 (a : Int), .int .i64 (b : Int)] w fun e w' => e = .returned (.tuple #[]) ∧ Left w D g ((L.drop a).take (L.length - a - b)) w' := by
  obtain ⟨hD, hg⟩ := h.lt
  obtain ⟨hh, hr, hs, hne⟩ := h
  obtain ⟨s1, s2, s3⟩ := hs
  have hs : Sh N f L.length := ⟨s1, s2, s3⟩
  have hE1 : Hid (Calls Try.prog 37 #[.pointer (some ⟨D, 0, none⟩), .int .i64 0, .int .i64 (a : Int)] w fun e w' => e = .returned (.tuple #[]) ∧ Only [g] w w' ∧ Rg w' g N f a L.length (nth L)) := Lib.hid (empty_any hh hs.zero (lo := a) (hi := L.length) (x := nth L) (by obtain ⟨C, c1, c2, c3⟩ := hr; exact ⟨C, c1, c2, fun k _ h2 => c3 k (Nat.zero_le _) h2⟩) 0 a (by omega) s2 (Or.inr (by omega)))
  have hE2 : Hid (∀ w1, Only [g] w w1 → Rg w1 g N f a L.length (nth L) → Calls Try.prog 37 #[.pointer (some ⟨D, 0, none⟩), .int .i64 ((L.length : Int) - b), .int .i64 (b : Int)] w1 fun e w' => e = .returned (.tuple #[]) ∧ Only [g] w1 w' ∧ Rg w' g N f a (L.length - b) (nth L)) := by
    refine Lib.hid (fun w1 ho hx => ?_)
    have := empty_any (hh.keep ho (by simpa using hne)) hs.zero (lo := a) (hi := L.length - b) (x := nth L) (by obtain ⟨C, c1, c2, c3⟩ := hx; exact ⟨C, c1, c2, fun k h1 h2 => c3 k h1 (by omega)⟩) (L.length - b) b (by omega) (by omega) (Or.inl (by omega))
    rw [show ((L.length - b : Nat) : Int) = (L.length : Int) - b by omega] at this
    exact this
  have hR := Lib.hid (fun (w1 : World) (hq : Hd w1 D (some ⟨g, 0, none⟩) N f L.length) => round_any hq hs.zero a (by omega))
  obtain ⟨n, hn⟩ : ∃ n, n = L.length := ⟨_, rfl⟩
  obtain ⟨m, hm⟩ : ∃ m, m = L.length - a - b := ⟨_, rfl⟩
  have hw1 := wrap_small (x := (n : Int) - b) (by omega)
  have hw2 := wrap_small (x := (a : Int) + b) (by omega)
  have hw3 := wrap_small (x := (n : Int) - (a + b)) (by omega)
  have hmi : (n : Int) - ((a : Int) + b) = (m : Int) := by omega
  have hw4 := wrap_small (x := 4 * (m : Int)) (by omega)
  have hw5 : wrap64 (m : Int) = (m : Int) := IntWalk.wrap64_in _ (by omega)
  obtain ⟨c0, c1, c2, f0, f1, f2⟩ := hh.facts
  have hhH := Lib.hid hh
  have hsH := Lib.hid hs
  have hneH := Lib.hid hne
  have hnH := Lib.hid hn
  have hmH := Lib.hid hm
  rw [← hm]
  rw [← hn] at hE1 hE2 hhH hR c2
  clear hh hs hr hn hm hne
  go_enter Try.func30, Try.ntmps30
  go_wp2_with (first
    | (go_at_call 37; ((with_reducible refine (hE1.out).mono ?_); rintro e w1 ⟨rfl, hO1, hX1⟩; have hd1 := Lib.hid (hhH.out.keep hO1 (by simpa using hneH.out)); obtain ⟨d0, d1, d2, e0, e1, e2⟩ := hd1.out.facts; have hO1H := Lib.hid hO1; have hX1H := Lib.hid hX1; clear hO1 hX1))
    | (go_at_call 37; ((with_reducible refine (hE2.out w1 hO1H.out hX1H.out).mono ?_); rintro e w2 ⟨rfl, hO2, hX2⟩; have hd2 := Lib.hid (hd1.out.keep hO2 (by simpa using hneH.out)); obtain ⟨d0', d1', d2', e0', e1', e2'⟩ := hd2.out.facts; have hO2H := Lib.hid hO2; have hX2H := Lib.hid hX2; clear hO2 hX2))
    | (go_at_call 27; ((with_reducible refine (hR.out w2 hd2.out).mono ?_); rintro e w' ⟨rfl, rfl⟩)))
  have hd4 := (hd2.out.setF (rot N f a)).setN m
  have hO4 : Only [D, g] w ((w2.setCell ⟨D, 1, none⟩ (.int .i64 (rot N f a : Nat))).setCell ⟨D, 2, none⟩ (.int .i64 (m : Nat))) := (((hO1H.out.trans hO2H.out (by simp)).mono (by simp)).set (Or.inl (by simp)) _).set (Or.inl (by simp)) _
  have hX4 : Rg ((w2.setCell ⟨D, 1, none⟩ (.int .i64 (rot N f a : Nat))).setCell ⟨D, 2, none⟩ (.int .i64 (m : Nat))) g N f a (n - b) (nth L) := by
    have ho : Only [D] w2 ((w2.setCell ⟨D, 1, none⟩ (.int .i64 (rot N f a : Nat))).setCell ⟨D, 2, none⟩ (.int .i64 (m : Nat))) := ((Only.refl _ _).set (Or.inl (by simp)) _).set (Or.inl (by simp)) _
    exact hX2H.out.keep ho (by simpa using fun e : g = D => hneH.out e.symm)
  generalize (w2.setCell ⟨D, 1, none⟩ (.int .i64 (rot N f a : Nat))).setCell ⟨D, 2, none⟩ (.int .i64 (m : Nat)) = w4 at *
  clear c0 c1 c2 f0 f1 f2 d0 d1 d2 e0 e1 e2 d0' d1' d2' e0' e1' e2' hw1 hw2 hw3
  obtain ⟨c0, c1, c2, f0, f1, f2⟩ := hd4.facts
  have hd4H := Lib.hid hd4
  have hO4H := Lib.hid hO4
  have hX4H := Lib.hid hX4
  have hDQ := Lib.hid (sh_dq hd4 hsH.out hX4 hnH.out hmH.out hab hneH.out)
  clear hd4 hO4 hX4 hmi
  generalize rot N f a = q at *
  by_cases hN8 : (8 : Int) < N
  · have hdN : decide ((8 : Int) < (N : Int)) = true := decide_eq_true hN8
    by_cases h4 : 4 * (m : Int) < N
    · have hd4' : decide (4 * (m : Int) < (N : Int)) = true := decide_eq_true h4
      have hM := Lib.hid (fun k => move_any (hd4H.out.drewN k) (shDQ hDQ.out (part_len L a m (by have e1 := hmH.out; omega))) (rgDQ (k := k) hDQ.out (part_len L a m (by have e1 := hmH.out; omega))))
      go_quiet (fail)
      go_wp2_with (go_at_call 26; ((with_reducible refine (hM.out _).mono ?_); rintro e w5 ⟨rfl, hM5⟩; have hM5H := Lib.hid hM5; clear hM5))
      all_goals go_end0
      exact ⟨rfl, left_moved (part_len L a m (by have e1 := hmH.out; omega)) (hO4H.out.drewN _) (hDQ.out.drewN _) hM5H.out⟩
    · have hd4' : decide (4 * (m : Int) < (N : Int)) = false := decide_eq_false h4
      go_quiet (fail)
      go_wp2_with fail
      all_goals go_end0
      exact ⟨rfl, g, N, q, hDQ.out.drewN _, hO4H.out.drewN _, Or.inl rfl⟩
  · have hdN : decide ((8 : Int) < (N : Int)) = false := decide_eq_false hN8
    go_quiet (fail)
    go_wp2_with fail
    all_goals go_end0
    exact ⟨rfl, g, N, q, hDQ.out.drewN _, hO4H.out.drewN _, Or.inl rfl⟩

end Go.Proofs.Ytnmcedkinacbpaa
