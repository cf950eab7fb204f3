/-
  The walk of Push. A list shorter than the greatest one.
-/
import Derived.Test.YtnmcedkinacbpaaF
namespace Go.Proofs.Ytnmcedkinacbpaa
open Go.RowKit

theorem rg_put {w : World} {g N f lo hi : Nat} {x : Nat → Int} (hx : Rg w g N f lo hi x) (i : Nat) (hiN : i < N) (v : Int) {f' lo' hi' : Nat} {x' : Nat → Int}
    (hk : ∀ k, lo' ≤ k → k < hi' → (rot N f' k = i ∧ x' k = v) ∨ (rot N f' k ≠ i ∧ ∃ j, lo ≤ j ∧ j < hi ∧ rot N f j = rot N f' k ∧ x' k = x j)) :
    Rg (w.setCell ⟨g, i, none⟩ (.int .i64 v)) g N f' lo' hi' x' := by
  obtain ⟨C, c1, c2, c3⟩ := hx
  refine ⟨C.setIfInBounds i (.int .i64 v), ?_, by simpa using c2, fun k h1 h2 => ?_⟩
  · rw [setCell_eq_setRow _ _ _ _ _ _ _ c1, setRow_heap _ _ _ _ _ _ c1]
  · rcases hk k h1 h2 with ⟨e1, e2⟩ | ⟨e1, j, j1, j2, j3, j4⟩
    · rw [e1, e2, Array.getElem?_setIfInBounds_self_of_lt (by omega)]
    · rw [Array.getElem?_setIfInBounds_ne (by omega), ← j3, c3 j j1 j2, j4]
theorem hd_put {w : World} {D : Nat} {a : Option Addr} {N f n g i : Nat} (h : Hd w D a N f n) (hne : D ≠ g) (v : Value) : Hd (w.setCell ⟨g, i, none⟩ v) D a N f n := by
  unfold Hd at *
  rw [Below.heap_setCell _ _ _ _ hne, h]
theorem Hd.setN' {w : World} {D : Nat} {a : Option Addr} {N f n : Nat} (h : Hd w D a N f n) (x : Int) (n' : Nat) (hx : x = (n' : Int)) : Hd (w.setCell ⟨D, 2, none⟩ (.int .i64 x)) D a N f n' := hx ▸ h.setN n'
theorem nth_cons (v : Int) (L : List Int) (k : Nat) : nth (v :: L) (k + 1) = nth L k := by simp [nth]
theorem nth_app (L : List Int) (v : Int) (k : Nat) : nth (L ++ [v]) k = if k < L.length then nth L k else if k = L.length then v else 0 := by
  unfold nth
  by_cases h : k < L.length
  · rw [if_pos h, List.getElem?_append_left h]
  · rw [if_neg h, List.getElem?_append_right (by omega)]
    by_cases h2 : k = L.length
    · subst h2; simp
    · rw [if_neg h2, List.getElem?_eq_none (by simp; omega)]; rfl
theorem push_front_dq {w : World} {D g N f : Nat} {L : List Int} (h : Hd w D (some ⟨g, 0, none⟩) N (rot N f (N - 1)) (L.length + 1)) (hx : Rg w g N f 0 L.length (nth L)) (hs : Sh N f L.length) (hlt : L.length < N) (hne : D ≠ g) (v : Int) (k : Nat) :
    DQ ((w.drewN k).setCell ⟨g, rot N (rot N f (N - 1)) 0, none⟩ (.int .i64 v)) D g N (rot N f (N - 1)) (v :: L) := by
  obtain ⟨s1, s2, s3⟩ := hs
  have e1 := rot_or N f (N - 1)
  refine ⟨hd_put (h.drewN k) hne _, rg_put (hx.drewN k) _ ?_ v ?_, ⟨by omega, by simp; omega, s3⟩, hne⟩
  · have e2 := rot_or N (rot N f (N - 1)) 0
    omega
  · intro j _ hj
    have e2 := rot_or N (rot N f (N - 1)) 0
    have e3 := rot_or N (rot N f (N - 1)) j
    rw [List.length_cons] at hj
    rcases Nat.eq_zero_or_pos j with rfl | hp
    · exact Or.inl ⟨rfl, rfl⟩
    · have e4 := rot_or N f (j - 1)
      refine Or.inr ⟨by omega, j - 1, by omega, by omega, by omega, ?_⟩
      obtain ⟨i, rfl⟩ : ∃ i, j = i + 1 := ⟨j - 1, by omega⟩
      exact nth_cons v L i
theorem push_back_dq {w : World} {D g N f : Nat} {L : List Int} (h : Hd w D (some ⟨g, 0, none⟩) N f (L.length + 1)) (hx : Rg w g N f 0 L.length (nth L)) (hs : Sh N f L.length) (hlt : L.length < N) (hne : D ≠ g) (v : Int) (k : Nat) :
    DQ ((w.drewN k).setCell ⟨g, rot N f L.length, none⟩ (.int .i64 v)) D g N f (L ++ [v]) := by
  obtain ⟨s1, s2, s3⟩ := hs
  have e1 := rot_or N f L.length
  refine ⟨by simpa using hd_put (h.drewN k) hne _, rg_put (hx.drewN k) _ ?_ v ?_, ⟨s1, by simp; omega, s3⟩, hne⟩
  · omega
  · intro j _ hj
    have e3 := rot_or N f j
    rw [List.length_append, List.length_singleton] at hj
    by_cases hp : j = L.length
    · subst hp
      exact Or.inl ⟨rfl, by rw [nth_app, if_neg (by omega), if_pos rfl]⟩
    · exact Or.inr ⟨by omega, j, by omega, by omega, rfl, by rw [nth_app, if_pos (by omega)]⟩

def pushF (front : Bool) (v : Int) (L : List Int) : List Int := if front then v :: L else L ++ [v]
theorem pushF_len (front : Bool) (v : Int) (L : List Int) : (pushF front v L).length = L.length + 1 := by
  unfold pushF; split <;> simp

/-- There is room: what is known behind the test. -/
def Room (w : World) (D g : Nat) (L : List Int) (g1 N1 f1 : Nat) (w1 : World) : Prop := DQ w1 D g1 N1 f1 L ∧ L.length < N1 ∧ Only [D, g] w w1 ∧ (g1 = g ∨ w.heap.size ≤ g1)
theorem room_moved {w : World} {D g N f k : Nat} {L : List Int} (hd : DQ w D g N f L) (hlt : L.length < 1048576) {w5 : World} (h : Moved (w.drewN k) D L.length (nth L) w5) : ∃ g1 N1 f1, Room w D g L g1 N1 f1 w5 := by
  obtain ⟨N', k1, k2, k3, k4, k5, _⟩ := h
  obtain ⟨h1, h2⟩ := hd.lt
  have hz : (w.drewN k).heap.size = w.heap.size := rfl
  rw [hz] at k1 k2
  exact ⟨w.heap.size, N', 0, ⟨k1, k2, k3, by omega⟩, k4 hlt, Only.mono (O := [D]) (((Only.refl [D] _).drewN k).trans k5 (fun x hx => Or.inl hx)) (by simp), Or.inr (Nat.le_refl _)⟩
theorem left_front {w w1 w4 : World} {D g g1 N1 f1 : Nat} {L L' : List Int} (hr : Room w D g L g1 N1 f1 w1) {f' : Nat} (hd : DQ w4 D g1 N1 f' L') (ho : Only [D, g1] w1 w4) : Left w D g L' w4 := by
  obtain ⟨_, _, hO, hg⟩ := hr
  refine ⟨g1, N1, f', hd, hO.trans ho (fun x hx => ?_), hg⟩
  rcases List.mem_cons.1 hx with rfl | hx
  · exact Or.inl (by simp)
  · obtain rfl := List.mem_singleton.1 hx
    rcases hg with rfl | hg
    · exact Or.inl (by simp)
    · exact Or.inr hg

/-- What serves behind the head's stores. -/
structure Tail (w : World) (D g : Nat) (front : Bool) (e0 s0 : Int) (q g1 : Nat) (L' : Int → List Int) (W : World) : Prop where
  ends : Calls Try.prog 29 #[.pointer (some ⟨D, 0, none⟩), .bool front] W fun e w' => e = .returned (.int .i64 e0) ∧ W = w'
  slot : Calls Try.prog 28 #[.pointer (some ⟨D, 0, none⟩), .int .i64 s0] W fun e w' => e = .returned (.pointer (some ⟨g1, q, none⟩)) ∧ ∃ k, w' = W.drewN k
  cell : (∃ u, W.cell? ⟨g1, q, none⟩ = some u) ∧ W.frozen? ⟨g1, q, none⟩ = false
  left : ∀ k v, Left w D g (L' v) ((W.drewN k).setCell ⟨g1, q, none⟩ (.int .i64 v))
theorem tail_front {w w1 : World} {D g g1 N1 f1 n : Nat} {L : List Int} (hr : Room w D g L g1 N1 f1 w1) (hn : n = L.length) (x : Int) (hx : x = ((n + 1 : Nat) : Int)) :
    Tail w D g true 0 0 (rot N1 (rot N1 f1 (N1 - 1)) 0) g1 (fun v => v :: L) ((w1.setCell ⟨D, 1, none⟩ (.int .i64 (rot N1 f1 (N1 - 1) : Nat))).setCell ⟨D, 2, none⟩ (.int .i64 x)) := by
  have hr' := hr
  obtain ⟨hd, hl, _, _⟩ := hr
  subst hn
  have hd3 := (hd.head.setF (rot N1 f1 (N1 - 1))).setN' x (L.length + 1) hx
  have ho : Only [D] w1 ((w1.setCell ⟨D, 1, none⟩ (.int .i64 (rot N1 f1 (N1 - 1) : Nat))).setCell ⟨D, 2, none⟩ (.int .i64 x)) := ((Only.refl _ _).set (Or.inl (by simp)) _).set (Or.inl (by simp)) _
  have hx3 := hd.row.keep ho (by simpa using fun e : g1 = D => hd.ne e.symm)
  generalize (w1.setCell ⟨D, 1, none⟩ (.int .i64 (rot N1 f1 (N1 - 1) : Nat))).setCell ⟨D, 2, none⟩ (.int .i64 x) = W at *
  obtain ⟨s1, s2, s3⟩ := hd.sh
  have e1 := rot_or N1 f1 (N1 - 1)
  have hs0 : Sh N1 (rot N1 f1 (N1 - 1)) 0 := ⟨by omega, by omega, s3⟩
  have e2 := rot_or N1 (rot N1 f1 (N1 - 1)) 0
  refine ⟨end_any hd3 (by omega) true, slot_any hd3 hs0 0 (by omega), ?_, fun k v => ?_⟩
  · obtain ⟨C, c1, c2, _⟩ := hx3
    have hlt : rot N1 (rot N1 f1 (N1 - 1)) 0 < C.size := by omega
    exact ⟨⟨C[rot N1 (rot N1 f1 (N1 - 1)) 0], by simp [World.cell?, c1, hlt]⟩, by simp [World.frozen?, c1]⟩
  · exact left_front hr' (push_front_dq hd3 hx3 ⟨s1, s2, s3⟩ hl hd.ne v k) (((ho.mono (by simp)).drewN k).set (Or.inl (by simp)) _)
theorem tail_back {w w1 : World} {D g g1 N1 f1 n : Nat} {L : List Int} (hr : Room w D g L g1 N1 f1 w1) (hn : n = L.length) (x : Int) (hx : x = ((n + 1 : Nat) : Int)) :
    Tail w D g false (n : Int) (n : Int) (rot N1 f1 n) g1 (fun v => L ++ [v]) (w1.setCell ⟨D, 2, none⟩ (.int .i64 x)) := by
  have hr' := hr
  obtain ⟨hd, hl, _, _⟩ := hr
  subst hn
  have hd3 := hd.head.setN' x (L.length + 1) hx
  have ho : Only [D] w1 (w1.setCell ⟨D, 2, none⟩ (.int .i64 x)) := (Only.refl _ _).set (Or.inl (by simp)) _
  have hx3 := hd.row.keep ho (by simpa using fun e : g1 = D => hd.ne e.symm)
  generalize w1.setCell ⟨D, 2, none⟩ (.int .i64 x) = W at *
  obtain ⟨s1, s2, s3⟩ := hd.sh
  have e1 := rot_or N1 f1 L.length
  have hE := end_any hd3 (by omega) false
  rw [show (if false = true then (0 : Int) else ((L.length + 1 : Nat) : Int) - 1) = (L.length : Int) by simp] at hE
  refine ⟨hE, slot_any hd3 ⟨s1, by omega, s3⟩ L.length (by omega), ?_, fun k v => ?_⟩
  · obtain ⟨C, c1, c2, _⟩ := hx3
    have hlt : rot N1 f1 L.length < C.size := by omega
    exact ⟨⟨C[rot N1 f1 L.length], by simp [World.cell?, c1, hlt]⟩, by simp [World.frozen?, c1]⟩
  · exact left_front hr' (push_back_dq hd3 hx3 ⟨s1, s2, s3⟩ hl hd.ne v k) (((ho.mono (by simp)).drewN k).set (Or.inl (by simp)) _)
theorem room_head {w w1 : World} {D g g1 N1 f1 n : Nat} {L : List Int} (hr : Room w D g L g1 N1 f1 w1) (hn : n = L.length) : Hd w1 D (some ⟨g1, 0, none⟩) N1 f1 n := hn ▸ hr.1.head
theorem room_small {w w1 : World} {D g g1 N1 f1 : Nat} {L : List Int} (hr : Room w D g L g1 N1 f1 w1) : -9223372036854775808 ≤ (N1 : Int) - 1 ∧ (N1 : Int) - 1 ≤ 9223372036854775807 := by
  have := hr.1.sh.2.2
  omega
theorem room_round {w w1 : World} {D g g1 N1 f1 : Nat} {L : List Int} (hr : Room w D g L g1 N1 f1 w1) :
    Calls Try.prog 27 #[.pointer (some ⟨D, 0, none⟩), .int .i64 ((N1 : Int) - 1)] w1 fun e w' => e = .returned (.int .i64 (rot N1 f1 (N1 - 1) : Nat)) ∧ w1 = w' := by
  obtain ⟨hd, hl, _, _⟩ := hr
  have := round_any hd.head hd.sh.zero (N1 - 1) (by omega)
  rw [show ((N1 - 1 : Nat) : Int) = (N1 : Int) - 1 by omega] at this
  exact this

set_option maxHeartbeats 4000000 in
theorem push_any {w : World} {D g N f : Nat} {L : List Int} (h : DQ w D g N f L) (hlt : L.length < 1048576) (front : Bool) (v : Int) :
    Calls Try.prog 8 #[.pointer (some ⟨D, 0, none⟩), .bool front, .int .i64 v] w fun e w' => e = .returned (.bool true) ∧ Left w D g (pushF front v L) w' := by
  obtain ⟨n, hn⟩ : ∃ n, n = L.length := ⟨_, rfl⟩
  obtain ⟨hD, hg⟩ := h.lt
  have hM := Lib.hid (fun k => (move_any (h.head.drewN k) h.sh (h.row.drewN k)))
  have hRM := Lib.hid (fun (k : Nat) (w5 : World) (hm : Moved (w.drewN k) D L.length (nth L) w5) => room_moved h hlt hm)
  have hR0 : Hid (L.length ≠ N → ∀ k, Room w D g L g N f (w.drewN k)) := Lib.hid (fun hne k => ⟨h.drewN k, by have := h.sh.2.1; omega, (Only.refl _ _).drewN k, Or.inl rfl⟩)
  obtain ⟨c0, c1, c2, f0, f1, f2⟩ := h.head.facts
  have hmx : ((n : Int) == 1048576) = false := beq_false_of_ne (by omega)
  have hltH := Lib.hid hlt
  have hnH := Lib.hid hn
  rw [← hn] at c2 hM hR0 hRM
  clear h hlt hn
  have hw1 := wrap_small (x := (n : Int) + 1) (by have := hltH.out; have := hnH.out; omega)
  by_cases hfull : n = N
  · have hd : ((n : Int) == (N : Int)) = true := by rw [hfull]; exact beq_self_eq_true _
    have hfH := Lib.hid hfull
    clear hR0 hfull
    cases front
    · go_enter Try.func8, Try.ntmps8
      go_wp2_with fail
      go_quiet (fail)
      go_wp2_with (first
        | (go_at_call 26; ((with_reducible refine (hM.out _).mono ?_); rintro e w1 ⟨rfl, hM1⟩; obtain ⟨g1, N1, f1, hr⟩ := hRM.out _ _ hM1; have hrH := Lib.hid hr; obtain ⟨b0, b1, b2, e0, e1, e2⟩ := (room_head hr hnH.out).facts; clear hM1 hr))
        | (go_at_call 29; have hT := tail_back hrH.out hnH.out ((n : Int) + 1) (by omega); generalize w1.setCell ⟨D, 2, none⟩ (.int .i64 ((n : Int) + 1)) = W at *; have hTH := Lib.hid hT; obtain ⟨⟨u, hu⟩, hv⟩ := hT.cell; clear hT; ((with_reducible refine (hTH.out.ends).mono ?_); rintro e w' ⟨rfl, rfl⟩))
        | (go_at_call 28; ((with_reducible refine (hTH.out.slot).mono ?_); rintro e w' ⟨rfl, kk, rfl⟩)))
      all_goals go_ret
      exact ⟨rfl, hTH.out.left kk v⟩
    · go_enter Try.func8, Try.ntmps8
      go_wp2_with fail
      go_quiet (fail)
      go_wp2_with (first
        | (go_at_call 26; ((with_reducible refine (hM.out _).mono ?_); rintro e w1 ⟨rfl, hM1⟩; obtain ⟨g1, N1, f1, hr⟩ := hRM.out _ _ hM1; have hrH := Lib.hid hr; have hN1 := wrap_small (x := (N1 : Int) - 1) (room_small hr); have hR := Lib.hid (room_round hr); obtain ⟨b0, b1, b2, e0, e1, e2⟩ := (room_head hr hnH.out).facts; clear hM1 hr))
        | (go_at_call 27; ((with_reducible refine (hR.out).mono ?_); rintro e w' ⟨rfl, rfl⟩))
        | (go_at_call 29; have hT := tail_front hrH.out hnH.out ((n : Int) + 1) (by omega); generalize (w1.setCell ⟨D, 1, none⟩ (.int .i64 (rot N1 f1 (N1 - 1) : Nat))).setCell ⟨D, 2, none⟩ (.int .i64 ((n : Int) + 1)) = W at *; have hTH := Lib.hid hT; obtain ⟨⟨u, hu⟩, hv⟩ := hT.cell; clear hT; ((with_reducible refine (hTH.out.ends).mono ?_); rintro e w' ⟨rfl, rfl⟩))
        | (go_at_call 28; ((with_reducible refine (hTH.out.slot).mono ?_); rintro e w' ⟨rfl, kk, rfl⟩)))
      all_goals go_ret
      exact ⟨rfl, hTH.out.left kk v⟩
  · have hd : ((n : Int) == (N : Int)) = false := beq_false_of_ne (by omega)
    have hR1 := Lib.hid (hR0.out hfull)
    clear hR0 hfull hM hRM
    cases front
    · go_enter Try.func8, Try.ntmps8
      go_wp2_with fail
      go_quiet (fail)
      have hrH := Lib.hid (hR1.out nq)
      generalize w.drewN nq = w1 at *
      obtain ⟨b0, b1, b2, e0, e1, e2⟩ := (room_head hrH.out hnH.out).facts
      go_wp2_with (first
        | (go_at_call 29; have hT := tail_back hrH.out hnH.out ((n : Int) + 1) (by omega); generalize w1.setCell ⟨D, 2, none⟩ (.int .i64 ((n : Int) + 1)) = W at *; have hTH := Lib.hid hT; obtain ⟨⟨u, hu⟩, hv⟩ := hT.cell; clear hT; ((with_reducible refine (hTH.out.ends).mono ?_); rintro e w' ⟨rfl, rfl⟩))
        | (go_at_call 28; ((with_reducible refine (hTH.out.slot).mono ?_); rintro e w' ⟨rfl, kk, rfl⟩)))
      all_goals go_ret
      exact ⟨rfl, hTH.out.left kk v⟩
    · go_enter Try.func8, Try.ntmps8
      go_wp2_with fail
      go_quiet (fail)
      have hrH := Lib.hid (hR1.out nq)
      have hN1 := wrap_small (x := (N : Int) - 1) (room_small hrH.out)
      have hR := Lib.hid (room_round hrH.out)
      generalize w.drewN nq = w1 at *
      obtain ⟨b0, b1, b2, e0, e1, e2⟩ := (room_head hrH.out hnH.out).facts
      go_wp2_with (first
        | (go_at_call 27; ((with_reducible refine (hR.out).mono ?_); rintro e w' ⟨rfl, rfl⟩))
        | (go_at_call 29; have hT := tail_front hrH.out hnH.out ((n : Int) + 1) (by omega); generalize (w1.setCell ⟨D, 1, none⟩ (.int .i64 (rot N f (N - 1) : Nat))).setCell ⟨D, 2, none⟩ (.int .i64 ((n : Int) + 1)) = W at *; have hTH := Lib.hid hT; obtain ⟨⟨u, hu⟩, hv⟩ := hT.cell; clear hT; ((with_reducible refine (hTH.out.ends).mono ?_); rintro e w' ⟨rfl, rfl⟩))
        | (go_at_call 28; ((with_reducible refine (hTH.out.slot).mono ?_); rintro e w' ⟨rfl, kk, rfl⟩)))
      all_goals go_ret
      exact ⟨rfl, hTH.out.left kk v⟩

end Go.Proofs.Ytnmcedkinacbpaa
