/-
  The walks of slot and pieces: where a place lies. No condition but the sizes that a list's room has.
-/
import Derived.Test.YtnmcedkinacbpaaA
namespace Go.Proofs.Ytnmcedkinacbpaa
open Go.RowKit

theorem swap {P : Program} {f : FuncId} {args : Array Value} {w : World} {v : Value} (h : Calls P f args w fun e w' => e = .returned v ∧ w = w') : Calls P f args w fun e w' => e = .returned v ∧ w' = w := h.mono fun _ _ ⟨h1, h2⟩ => ⟨h1, h2.symm⟩
theorem rot_lt {N f p : Nat} (hs : Sh N f 0) (hp : p < N) : rot N f p < N := by
  obtain ⟨s1, _, _⟩ := hs
  unfold rot; split <;> omega
theorem rot_le {N f p : Nat} (hs : Sh N f 0) (hp : p ≤ N) : rot N f p ≤ N ∧ (0 < N → rot N f p < N) := by
  obtain ⟨s1, _, _⟩ := hs
  unfold rot; split <;> omega
theorem Sh.zero {N f n : Nat} (h : Sh N f n) : Sh N f 0 := ⟨h.1, Nat.zero_le _, h.2.2⟩
/-- A place's address, as an operation tells it. -/
theorem run_ix (g q n cap : Nat) (hq : q < n) (w : World) : Sem.run Try.prog (Instr.indexAt 22 (.slice (some ⟨g, 0, none⟩) n cap) (.int .i64 (q : Int))) w = .ok (.pointer (some ⟨g, q, none⟩)) w := by
  go_simp

theorem slot_any {w : World} {D g N f n : Nat} (h : Hd w D (some ⟨g, 0, none⟩) N f n) (hs : Sh N f 0) (p : Nat) (hp : p < N) :
    Calls Try.prog 28 #[.pointer (some ⟨D, 0, none⟩), .int .i64 (p : Int)] w fun e w' => e = .returned (.pointer (some ⟨g, rot N f p, none⟩)) ∧ ∃ k, w' = w.drewN k := by
  obtain ⟨c0, c1, c2, _⟩ := h.facts
  have hC := Lib.hid (fun k => swap (round_any (h.drewN k) hs p (by omega)))
  have hix := run_ix g (rot N f p) N N (rot_lt hs hp)
  clear h hs hp
  generalize rot N f p = q at *
  go_enter Try.func28, Try.ntmps28
  go_wp2_with fail
  go_quiet ((go_at_call 27; exact Calls.quiet_of_same (hC.out _)))
  go_wp2
  go_ret
  exact ⟨rfl, _, rfl⟩

/-- How much of n things from a place on stands in the first piece. -/
def pc (N f p n : Nat) : Nat := min n (N - rot N f p)
theorem sliced_at (g q h N : Nat) (hq : q ≤ N) (hN : 0 < N → q < N) : sliced (some ⟨g, 0, none⟩) q h N 1 = .slice (some ⟨g, q, none⟩) (h - q) (N - q) := by
  unfold sliced
  by_cases hm : N = q
  · have : q = 0 := by omega
    subst this
    rw [if_pos hm]
  · rw [if_neg hm]
    rcases Nat.eq_zero_or_pos q with rfl | hp
    · rfl
    · simp [Addr.add, Nat.ne_of_gt hp]

theorem ret_sl2 {g q q' n n' c c' m m' d d' : Nat} (h1 : q = q') (h2 : n = n') (h3 : c = c') (h4 : m = m') (h5 : d = d') :
    Ending.returned (.tuple #[.slice (some ⟨g, q, none⟩) n c, .slice (some ⟨g, 0, none⟩) m d]) = .returned (.tuple #[.slice (some ⟨g, q', none⟩) n' c', .slice (some ⟨g, 0, none⟩) m' d']) := by rw [h1, h2, h3, h4, h5]
set_option maxHeartbeats 1000000 in
theorem pieces_any {w : World} {D g N f m : Nat} (h : Hd w D (some ⟨g, 0, none⟩) N f m) (hs : Sh N f 0) (p n : Nat) (hp : p ≤ N) (hn : n ≤ N) :
    Calls Try.prog 38 #[.pointer (some ⟨D, 0, none⟩), .int .i64 (p : Int), .int .i64 (n : Int)] w fun e w' =>
      e = .returned (.tuple #[.slice (some ⟨g, rot N f p, none⟩) (pc N f p n) (N - rot N f p), .slice (some ⟨g, 0, none⟩) (n - pc N f p n) N]) ∧ ∃ k, w' = w.drewN k := by
  obtain ⟨c0, c1, c2, _⟩ := h.facts
  have hC := Lib.hid (round_any h hs p hp)
  obtain ⟨hq1, hq2⟩ := rot_le hs hp
  obtain ⟨_, _, hN⟩ := hs
  clear h
  unfold pc
  generalize rot N f p = q at *
  have hw1 := wrap_small (x := (q : Int) + n) (by omega)
  obtain ⟨z, hz⟩ : ∃ z, z = min n (N - q) := ⟨_, rfl⟩
  have hmin : min ((q : Int) + n) (N : Int) = ((q + z : Nat) : Int) := by omega
  go_enter Try.func38, Try.ntmps38
  go_wp2_with (go_at_call 27; ((with_reducible refine (hC.out).mono ?_); rintro e w' ⟨rfl, rfl⟩))
  go_quiet (fail)
  go_wp2_with fail
  all_goals go_quiet (fail)
  all_goals go_wp2
  all_goals go_ret2
  all_goals exact ⟨ret_sl2 (by omega) (by omega) (by omega) (by omega) (by omega), _, World.drewN_drewN ..⟩

end Go.Proofs.Ytnmcedkinacbpaa
