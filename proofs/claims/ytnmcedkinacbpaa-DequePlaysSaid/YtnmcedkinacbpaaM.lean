/-
  The document's answers, plain rows of numbers: an append of a row, or a part of one, to a row of one's own; Same, place, At, Push. Rows of at most a million numbers.
-/
import Derived.Test.YtnmcedkinacbpaaL
import Derived.Deep.LoopGhost
namespace Go.Proofs.Ytnmcedkinacbpaa
open Go.RowKit

theorem grown_only {w w' : World} {row : Option Nat} (hg : w.grownBy w' row) : Only row.toList w w' :=
  ⟨⟨hg.os, hg.tape, hg.output, hg.size, fun k hk => absurd hk (Nat.not_lt_zero k)⟩, fun k hk hn => hg.block k hk (fun e => hn (by rw [← e]; simp))⟩
theorem run_append_int {w : World} {ty : TypeId} (B : Nat) {v x : Value} {L M : List Int} (hv : RowI w B v L) (hx : SrcI w x M) (hlen : L.length + M.length ≤ 8000000) (hB : B ≤ w.heap.size) :
    ∃ v' w', (Builtin.append_ #[22, 22] ty #[v, x]).run Try.prog w = .ok v' w' ∧ RowI w' B v' (L ++ M) ∧ Only v.ownBlock.toList w w' ∧ (v'.ownBlock = v.ownBlock ∨ v'.ownBlock = some w.heap.size) := by
  obtain ⟨i0, hi, hz0, hz1, hz2⟩ := info_parts info_int
  rcases hx with ⟨rfl, rfl⟩ | ⟨ad, c, rfl, hc⟩
  · have hrun := run_append_owned_none (P := Try.prog) (w := w) B 22 ty 3 i0 1 Try.underlying22 hi v L.length (vals L) hv
    exact ⟨v, w, hrun, by rw [List.append_nil]; exact hv, Only.refl _ _, Or.inl rfl⟩
  · obtain ⟨v', w', hr, e2, e3, _, e5⟩ := run_append_own_at (P := Try.prog) w B 22 ty 3 i0 (.int .i64 0) 1 8 Try.underlying22 hi hz0 hz1 hz2 rfl (by omega) v L.length (vals L) hv ad M.length c (vals M) (by rw [vals_len, Nat.mul_one]) (by
      intro j u hj
      obtain ⟨y, hy, rfl⟩ := vals_inv hj
      exact (hc j y hy).2) (vals_one M) (by unfold maxLen; omega) (by omega) hB
    refine ⟨v', w', hr, ?_, grown_only e3, e5⟩
    unfold RowI
    rw [List.length_append, vals_app]
    exact e2
theorem wpList_append_int {w : World} {ops : Array Oper} {rest : List Oper} {o : Oper} {a : Act} {Q : Exit → Act → World → Prop} (hgd : o.guard = none) (s x : Operand)
    (ho : o.op = .call { callee := .builtin .append, args := #[s, x], argTypes := #[22, 22] })
    (B : Nat) (v xv : Value) (L M : List Int) (hs : a.eval s = v) (hx : a.eval x = xv) (hv : RowI w B v L) (hxv : SrcI w xv M) (hlen : L.length + M.length ≤ 8000000) (hB : B ≤ w.heap.size)
    (h : ∀ v' w', RowI w' B v' (L ++ M) → Only v.ownBlock.toList w w' → (v'.ownBlock = v.ownBlock ∨ v'.ownBlock = some w.heap.size) → wpList Try.prog ops Q rest (a.put o.dst v') w') : wpList Try.prog ops Q (o :: rest) a w := by
  refine wpList_plain hgd fun K hK => ?_
  obtain ⟨v', w', hr, h2, h3, h5⟩ := run_append_int (ty := o.type) B hv hxv hlen hB
  unfold Oper.wp execOp
  simp only [ho, resolve, invoke, builtin, Sem.run_bind, Sem.run_pure, Result.andThen_ok, List.map_toArray, List.map_cons, List.map_nil, hs, hx, hr]
  exact hK _ _ (h v' w' h2 h3 h5)
/-- At a step of a region that draws its order. -/
theorem step_append_int {w : World} {ops : Array Oper} {o : Oper} {a : Act} {K : Act → World → Prop} {Q : Exit → Act → World → Prop} {E : Prop} (hgd : o.guard = none) (s x : Operand)
    (ho : o.op = .call { callee := .builtin .append, args := #[s, x], argTypes := #[22, 22] })
    (B : Nat) (v xv : Value) (L M : List Int) (hs : a.eval s = v) (hx : a.eval x = xv) (hv : RowI w B v L) (hxv : SrcI w xv M) (hlen : L.length + M.length ≤ 8000000) (hB : B ≤ w.heap.size)
    (h : ∀ v' w', RowI w' B v' (L ++ M) → Only v.ownBlock.toList w w' → (v'.ownBlock = v.ownBlock ∨ v'.ownBlock = some w.heap.size) → K (a.put o.dst v') w') :
    if Region.wanted o (yielded ops a.tmps) = true then Oper.wp Try.prog o a w K Q else E := by
  have hw : Region.wanted o (yielded ops a.tmps) = true := by simp [Region.wanted, hgd]
  rw [if_pos hw]
  obtain ⟨v', w', hr, h2, h3, h5⟩ := run_append_int (ty := o.type) B hv hxv hlen hB
  unfold Oper.wp execOp
  simp only [ho, resolve, invoke, builtin, Sem.run_bind, Sem.run_pure, Result.andThen_ok, List.map_toArray, List.map_cons, List.map_nil, hs, hx, hr]
  exact h v' w' h2 h3 h5
theorem rowI_one {w : World} (v : Int) {B : Nat} (hB : B ≤ w.heap.size) : RowI (w.alloc (.cells #[.int .i64 v] 3)) B (.slice (some ⟨w.heap.size, 0, none⟩) 1 1) [v] :=
  rowI_mk (L := [v]) (Y := [.int .i64 v]) (heap_alloc_new w _) rfl (by simp) (fun j hj => by have : j = 0 := by simpa using hj
                                                                                             subst this; rfl) hB

set_option maxHeartbeats 2000000 in
theorem same_any {w : World} {v v' : Value} {L L' : List Int} (h : SrcI w v L) (h' : SrcI w v' L') (hl : L.length ≤ 1000000) :
    Calls Try.prog 22 #[v, v'] w fun r w' => r = .returned (.bool (decide (L = L'))) ∧ Only [] w w' := by
  obtain ⟨A, c, rfl⟩ := h.len
  obtain ⟨A', c', rfl⟩ := h'.len
  by_cases hn : L.length = L'.length
  · have hcel : Hid (∀ i, i < L.length → ∃ x y, L[i]? = some x ∧ L'[i]? = some y ∧ (∃ g1, A = some g1 ∧ g1.block < w.heap.size ∧ w.cell? (g1.add i) = some (.int .i64 x)) ∧ (∃ g2, A' = some g2 ∧ g2.block < w.heap.size ∧ w.cell? (g2.add i) = some (.int .i64 y))) := by
      refine Lib.hid (fun i hi => ⟨nth L i, nth L' i, nth_at hi, nth_at (by omega), ?_, ?_⟩)
      · rcases h with ⟨_, rfl⟩ | ⟨ad, c, he, h⟩
        · simp at hi
        · cases he; exact ⟨ad, rfl, h i _ (nth_at hi)⟩
      · rcases h' with ⟨_, rfl⟩ | ⟨ad, c, he, h⟩
        · simp at hn; simp [hn] at hi
        · cases he; exact ⟨ad, rfl, h i _ (nth_at (by omega))⟩
    have hext : Hid ((∀ i, i < L.length → L[i]? = L'[i]?) → L = L') := Lib.hid (fun hq => by
      apply List.ext_getElem? 
      intro i
      by_cases hi : i < L.length
      · exact hq i hi
      · rw [List.getElem?_eq_none (by omega), List.getElem?_eq_none (by omega)])
    have hnH := Lib.hid hn
    clear h h'
    rw [← hn]
    clear hn
    generalize L.length = n at *
    go_enter Try.func22, Try.ntmps22
    go_wp2_with fail
    go_loopw [5] (fun s5 wr => ∃ i : Nat, i ≤ n ∧ s5 = .int .i64 i ∧ Hid (∀ j, j < i → L[j]? = L'[j]?) ∧ Hid (Only [] w wr)) (fun s5 _ => n - (intOf s5).toNat)
    case atStart => exact ⟨0, by omega, rfl, Lib.hid (fun j hj => absurd hj (by omega)), Lib.hid (Only.refl _ _)⟩
    case round =>
      obtain ⟨i, hi, rfl, hpre, hon⟩ := hrel
      by_cases hil : i < n
      · obtain ⟨x, y, hx, hy, ⟨g1, rfl, hg1, d1⟩, ⟨g2, rfl, hg2, d2⟩⟩ := hcel.out i hil
        have e1 : wr.cell? (g1.add i) = some (.int .i64 x) := (World.cell?_of_block (w := w) (a := g1.add i) (hon.out.2 _ (by rw [add_block]; exact hg1) (by simp))).trans d1
        have e2 : wr.cell? (g2.add i) = some (.int .i64 y) := (World.cell?_of_block (w := w) (a := g2.add i) (hon.out.2 _ (by rw [add_block]; exact hg2) (by simp))).trans d2
        have hxH := Lib.hid hx
        have hyH := Lib.hid hy
        clear hx hy d1 d2
        by_cases hxy : x = y
        · have hb : (x == y) = true := by simp [hxy]
          have hxyH := Lib.hid hxy
          clear hxy
          go_wp2_with fail
          go_quiet (fail)
          go_wp2_with fail
          go_roundw
          case rel => exact ⟨i + 1, by omega, by go_num, Lib.hid (fun j hj => by
            by_cases hji : j = i
            · subst hji; rw [hxH.out, hyH.out, hxyH.out]
            · exact hpre.out j (by omega)), Lib.hid (hon.out.drewN _)⟩
          case measure => simp [intOf]; omega
        · have hb : (x == y) = false := by simp [hxy]
          have hno : Hid (decide (L = L') = false) := Lib.hid (decide_eq_false (fun e => hxy (by have h1 := hxH.out; have h2 := hyH.out; rw [e, h2] at h1; exact (Option.some.inj h1).symm)))
          clear hxy
          go_wp2_with fail
          go_quiet (fail)
          go_wp2_with fail
          go_ret
          exact ⟨by rw [hno.out]; rfl, hon.out.drewN _⟩
      · have : i = n := by omega
        subst this
        have hyes : Hid (decide (L = L') = true) := Lib.hid (decide_eq_true (hext.out hpre.out))
        go_wp2_with fail
        go_ret
        exact ⟨by rw [hyes.out]; rfl, hon.out⟩
  · have hno : Hid (decide (L = L') = false) := Lib.hid (decide_eq_false (fun e => hn (by rw [e])))
    have hb : ((L.length : Int) == (L'.length : Int)) = false := beq_false_of_ne (by omega)
    have hb2 : (L.length == L'.length) = false := beq_false_of_ne hn
    clear h h' hn
    generalize L.length = n at *
    generalize L'.length = n' at *
    go_enter Try.func22, Try.ntmps22
    go_wp2_with fail
    go_ret
    exact ⟨by rw [hno.out]; rfl, Only.refl _ _⟩

end Go.Proofs.Ytnmcedkinacbpaa
