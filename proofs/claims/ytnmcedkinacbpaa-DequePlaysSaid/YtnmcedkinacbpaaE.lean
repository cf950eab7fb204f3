/-
  The walks of empty and shorten. No condition but the sizes that a list's room has.
-/
import Derived.Test.YtnmcedkinacbpaaD
import Derived.Lib.SliceRun
namespace Go.Proofs.Ytnmcedkinacbpaa
open Go.RowKit

theorem zero_int (w : World) : (zeroValue 3).run Try.prog w = .ok (.int .i64 0) w := by kernel_rfl
/-- 'clear' of a part of a row that is known whole. -/
theorem run_clear_row (w : World) (ty : TypeId) (g off n c : Nat) (cur : List Value) (hg : w.heap[g]? = some (.cells cur.toArray 3 (0, 0))) (hfit : off + n ≤ cur.length) :
    (Builtin.clear_ #[22] ty #[.slice (some ⟨g, off, none⟩) n c]).run Try.prog w = .ok (.tuple #[]) (w.setRow g (splice cur off (List.replicate n (.int .i64 0))).toArray) := by
  rcases Nat.eq_zero_or_pos n with rfl | hn
  · have : (splice cur off (List.replicate 0 (Value.int .i64 0))) = cur := by unfold splice; simp
    rw [this, setRow_self w g _ _ _ hg]
    simp [Builtin.clear_, run_underlying Try.underlying22]
  · have hz : (Builtin.zeroCells (Value.int .i64 0).cells n).toList = List.replicate n (.int .i64 0) := by
      show (Builtin.zeroCells #[Value.int .i64 0] n).toList = _
      simp [Builtin.zeroCells]
      apply List.ext_getElem
      · simp
      · intro i h1 h2
        simp [Nat.mod_one]
    have hst := run_storeCells_at Try.prog g off 3 (List.replicate n (.int .i64 0)) 0 cur.toArray w hg (by simpa using hfit) (by intro v hv; rw [List.eq_of_mem_replicate hv]; rfl)
    obtain ⟨m, rfl⟩ : ∃ m, n = m + 1 := ⟨n - 1, by omega⟩
    simp only [Nat.add_zero] at hst
    simp [Builtin.clear_, run_underlying Try.underlying22, hz, hst, splice]
theorem wpList_clear_row {w : World} {ops : Array Oper} {rest : List Oper} {o : Oper} {a : Act} {Q : Exit → Act → World → Prop} (hgd : o.guard = none) (x : Operand)
    (ho : o.op = .call { callee := .builtin .clear, args := #[x], argTypes := #[22] }) (g off n c : Nat) (hx : a.eval x = .slice (some ⟨g, off, none⟩) n c)
    (cur : List Value) (hg : w.heap[g]? = some (.cells cur.toArray 3 (0, 0))) (hfit : off + n ≤ cur.length)
    (h : ∀ w', Hid (w'.heap[g]? = some (.cells (splice cur off (List.replicate n (.int .i64 0))).toArray 3 (0, 0))) → Only [g] w w' → wpList Try.prog ops Q rest (a.put o.dst (.tuple #[])) w') : wpList Try.prog ops Q (o :: rest) a w := by
  refine wpList_plain hgd fun K hK => ?_
  have hrun := run_clear_row w o.type g off n c cur hg hfit
  unfold Oper.wp execOp
  simp only [ho, resolve, invoke, builtin, Sem.run_bind, Sem.run_pure, Result.andThen_ok, List.map_toArray, List.map_cons, List.map_nil, hx, hrun]
  exact hK _ _ (h _ (setRow_heap w g _ _ _ _ hg) ((Only.refl _ _).row (Or.inl (by simp)) _))

theorem rot_or (N f p : Nat) : (N ≤ f + p ∧ rot N f p = f + p - N) ∨ (f + p < N ∧ rot N f p = f + p) := by
  unfold rot
  by_cases h : N ≤ f + p
  · exact Or.inl ⟨h, if_pos h⟩
  · exact Or.inr ⟨by omega, if_neg h⟩
set_option maxHeartbeats 2000000 in
theorem empty_any {w : World} {D g N f m : Nat} (h : Hd w D (some ⟨g, 0, none⟩) N f m) (hs : Sh N f 0) {lo hi : Nat} {x : Nat → Int} (hx : Rg w g N f lo hi x) (p n : Nat) (hpn : p + n ≤ N) (hhi : hi ≤ N) (hd : hi ≤ p ∨ p + n ≤ lo) :
    Calls Try.prog 37 #[.pointer (some ⟨D, 0, none⟩), .int .i64 (p : Int), .int .i64 (n : Int)] w fun e w' => e = .returned (.tuple #[]) ∧ Only [g] w w' ∧ Rg w' g N f lo hi x := by
  have hP := Lib.hid (pieces_any h hs p n (by omega) (by omega))
  obtain ⟨hq1, hq2⟩ := rot_le (p := p) hs (by omega)
  obtain ⟨k, hk⟩ : ∃ k, k = pc N f p n := ⟨_, rfl⟩
  have hk1 : k ≤ n := by unfold pc at hk; omega
  have hk2 : rot N f p + k ≤ N := by unfold pc at hk; omega
  have hk3 : k < n → rot N f p + k = N := by unfold pc at hk; omega
  obtain ⟨q, hq⟩ : ∃ q, q = rot N f p := ⟨_, rfl⟩
  have hfar : Hid (∀ j, lo ≤ j → j < hi → ¬ (q ≤ rot N f j ∧ rot N f j < q + k) ∧ ¬ rot N f j < n - k) := by
    intro j h1 h2
    obtain ⟨s1, _, _⟩ := hs
    have e1 := rot_or N f p
    have e2 := rot_or N f j
    rw [← hq] at hk2 hk3 e1
    generalize rot N f j = r at *
    omega
  obtain ⟨C, hC, hCs, hCx⟩ := hx
  obtain ⟨cur, rfl⟩ : ∃ cur : List Value, C = cur.toArray := ⟨C.toList, by simp⟩
  have hCs2 : cur.length = N := by simpa using hCs
  have hCH := Lib.hid hC
  have hCxH := Lib.hid hCx
  obtain ⟨Y1, hY1⟩ : ∃ Y1, Y1 = splice cur q (List.replicate k (Value.int .i64 0)) := ⟨_, rfl⟩
  have hl1 : Y1.length = N := by rw [hY1, length_splice _ _ _ (by rw [List.length_replicate, hq]; omega), hCs2]
  have hY1H := Lib.hid hY1
  clear hY1
  rw [← hk, ← hq] at hP
  rw [← hq] at hk2 hk3 hq1 hq2
  have hnN : n ≤ N := by omega
  clear h hs hC hCx hCs hk hq hpn hhi hd
  go_enter Try.func37, Try.ntmps37
  go_wp2_with (first
    | (go_at_call 38; ((with_reducible refine (hP.out).mono ?_); rintro e w' ⟨rfl, kd, rfl⟩))
    | (refine wpList_clear_row (w := w.drewN kd) (o := ⟨none, .call ⟨_, #[.tmp 15], _⟩, _, _, _, _⟩) (by rfl) (.tmp 15) (by rfl) g q k (N - q) (by rfl) cur hCH.out (by omega) ?_; intro w2 hX2 hB2; have hB2H := Lib.hid hB2; rw [← hY1H.out] at hX2; clear hB2)
    | (refine wpList_clear_row (w := w2) (o := ⟨none, .call ⟨_, #[.tmp 16], _⟩, _, _, _, _⟩) (by rfl) (.tmp 16) (by rfl) g 0 (n - k) N (by rfl) Y1 hX2.out (by omega) ?_; intro w3 hX3 hB3; have hB3H := Lib.hid hB3; clear hB3))
  all_goals go_end0
  refine ⟨rfl, (((Only.refl _ _).drewN kd).trans hB2H.out (by simp)).trans hB3H.out (by simp), _, hX3.out, ?_, fun j h1 h2 => ?_⟩
  · simp only [List.size_toArray]
    rw [length_splice _ _ _ (by rw [List.length_replicate]; omega), hl1]
  · obtain ⟨n1, n2⟩ := hfar.out j h1 h2
    have := hCxH.out j h1 h2
    rw [List.getElem?_toArray] at this ⊢
    rw [splice_at _ _ _ (by rw [List.length_replicate]; omega), if_neg (by omega), if_neg (by rw [List.length_replicate]; omega), hY1H.out, splice_at _ _ _ (by rw [List.length_replicate]; omega)]
    by_cases hlt : rot N f j < q
    · rw [if_pos hlt, this]
    · rw [if_neg hlt, if_neg (by rw [List.length_replicate]; omega), this]

end Go.Proofs.Ytnmcedkinacbpaa
