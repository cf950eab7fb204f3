/-
  A row of texts that is appended to a row of one's own. No condition but the bound that a row's room has.
-/
import Derived.Test.YtdldgiicblmknaaDoorIC
import Derived.Laws.AppendOwnNone
import Derived.Maps.AppendAt
namespace Go.Proofs.YtdldgiicblmknaaDoor
open Go.RowKit

theorem RowT.len {w : World} {base : Nat} {v : Value} {L : List ByteArray} (h : RowT w base v L) : ∃ (A : Option Addr) (c : Nat), v = .slice A L.length c := by
  obtain ⟨_, ⟨rfl, h2⟩ | ⟨g, cap, cur, rfl, _⟩⟩ := h
  · exact ⟨none, 0, by rw [h2]⟩
  · exact ⟨_, _, rfl⟩
theorem RowT.lt {w : World} {base : Nat} {v : Value} {L : List ByteArray} (h : RowT w base v L) : ∀ k, v.ownBlock = some k → base ≤ k ∧ k < w.heap.size := fun k hk => by
  have := World.ownsRow.lt h k hk
  exact ⟨this.1, this.2⟩
/-- What a row's cells are. -/
theorem RowT.cell {w : World} {base : Nat} {v : Value} {L : List ByteArray} (h : RowT w base v L) {j : Nat} {x : ByteArray} (hj : L[j]? = some x) : ∃ (g c : Nat), v = .slice (some ⟨g, 0, none⟩) L.length c ∧ base ≤ g ∧ g < w.heap.size ∧ w.cell? ⟨g, j, none⟩ = some (.string x) := by
  have hlt : j < L.length := (List.getElem?_eq_some_iff.1 hj).1
  have h' := h
  obtain ⟨h1, ⟨rfl, h2⟩ | ⟨g, cap, cur, rfl, h3, h4, h5, h6, h7, h8⟩⟩ := h
  · omega
  · refine ⟨g, cap, rfl, h3, some_lt h4, ?_⟩
    rw [World.ownsRow.cellAt h' j (by simpa using hlt)]
    simp [hj]
theorem RowT.on {w w' : World} {base s : Nat} {v : Value} {L : List ByteArray} (h : RowT w base v L) (hb : Below s w w') (hs : ∀ k, v.ownBlock = some k → k < s) : RowT w' base v L := by
  obtain ⟨h1, ⟨rfl, h2⟩ | ⟨g, cap, cur, rfl, h3, h4, h5, h6, h7, h8⟩⟩ := h
  · exact ⟨h1, Or.inl ⟨rfl, h2⟩⟩
  · exact ⟨h1, Or.inr ⟨g, cap, cur, rfl, h3, (hb.block g (hs g rfl)).trans h4, h5, h6, h7, h8⟩⟩
theorem RowT.stay {w w' : World} {base : Nat} {v : Value} {L : List ByteArray} (h : RowT w base v L) (hb : Below w.heap.size w w') : RowT w' base v L := h.on hb fun k hk => (h.lt k hk).2
theorem RowT.only {w w' : World} {base : Nat} {v : Value} {L : List ByteArray} {O : List Nat} (h : RowT w base v L) (ho : Only O w w') (hO : ∀ k, v.ownBlock = some k → k ∉ O) : RowT w' base v L := by
  obtain ⟨h1, ⟨rfl, h2⟩ | ⟨g, cap, cur, rfl, h3, h4, h5, h6, h7, h8⟩⟩ := h
  · exact ⟨h1, Or.inl ⟨rfl, h2⟩⟩
  · exact ⟨h1, Or.inr ⟨g, cap, cur, rfl, h3, ho.keep h4 (hO g rfl), h5, h6, h7, h8⟩⟩
theorem RowT.base {w : World} {base base' : Nat} {v : Value} {L : List ByteArray} (h : RowT w base v L) (hb : base' ≤ base) : RowT w base' v L := by
  obtain ⟨h1, ⟨rfl, h2⟩ | ⟨g, cap, cur, rfl, h3, h4⟩⟩ := h
  · exact ⟨h1, Or.inl ⟨rfl, h2⟩⟩
  · exact ⟨h1, Or.inr ⟨g, cap, cur, rfl, by omega, h4⟩⟩

theorem grown_only {w w' : World} {row : Option Nat} (hg : w.grownBy w' row) : Only row.toList w w' :=
  ⟨⟨hg.os, hg.tape, hg.output, hg.size, fun k hk => absurd hk (Nat.not_lt_zero k)⟩, fun k hk hn => hg.block k hk (fun e => hn (by rw [← e]; simp))⟩
theorem wpList_append_rowT {w : World} {ops : Array Oper} {rest : List Oper} {o : Oper} {a : Act} {Q : Exit → Act → World → Prop} (hgd : o.guard = none) (s x : Operand)
    (ho : o.op = .call { callee := .builtin .append, args := #[s, x], argTypes := #[38, 38] })
    (base base' : Nat) (v xv : Value) (L M : List ByteArray) (hs : a.eval s = v) (hx : a.eval x = xv) (hv : RowT w base v L) (hxv : RowT w base' xv M) (hlen : L.length + M.length ≤ 8000000000000) (hbase : base ≤ w.heap.size)
    (h : ∀ v' w', RowT w' base v' (L ++ M) → Only v.ownBlock.toList w w' → (v'.ownBlock = v.ownBlock ∨ v'.ownBlock = some w.heap.size) → wpList Tryd.prog ops Q rest (a.put o.dst v') w') : wpList Tryd.prog ops Q (o :: rest) a w := by
  obtain ⟨i0, hi, hz0, hz1, hz2⟩ := info_parts info_str
  have hxv' := hxv
  obtain ⟨h1, ⟨rfl, h2⟩ | ⟨g, cap, cur, rfl, h3, h4, h5, h6, h7, h8⟩⟩ := hxv'
  · have hM : M = [] := List.length_eq_zero_iff.1 h2
    subst hM
    refine wpList_append_own_none hgd s x 38 ho base 9 i0 1 Tryd.underlying38 hi v L.length _ hs hv hx ?_
    exact h v w (by rw [List.append_nil]; exact hv) (Only.refl _ _) (Or.inl rfl)
  · refine wpList_plain hgd fun K hK => ?_
    obtain ⟨v', w', hr, k2, k3, _, k5⟩ := run_append_own_at (P := Tryd.prog) w base 38 o.type 9 i0 (.string ⟨#[]⟩) 1 16 Tryd.underlying38 hi hz0 hz1 hz2 rfl (by omega) v L.length _ hv ⟨g, 0, none⟩ M.length cap (M.map Value.string) (by simp) (by
      intro j u hj
      obtain ⟨y, hy, rfl⟩ : ∃ y, M[j]? = some y ∧ u = .string y := by
        rw [List.getElem?_map] at hj
        cases hm : M[j]? with
        | none => rw [hm] at hj; cases hj
        | some y => rw [hm] at hj; exact ⟨y, rfl, (Option.some.inj hj).symm⟩
      obtain ⟨g', c', he, _, _, hc⟩ := hxv.cell hy
      cases he
      rcases j with _ | j <;> simpa [Addr.add] using hc) (by intro u hu; obtain ⟨y, _, rfl⟩ := List.mem_map.1 hu; rfl) (by unfold maxLen; omega) (by omega) hbase
    unfold Oper.wp execOp
    simp only [ho, resolve, invoke, builtin, Sem.run_bind, Sem.run_pure, Result.andThen_ok, List.map_toArray, List.map_cons, List.map_nil, hs, hx, hr]
    refine hK _ _ (h v' w' ?_ (grown_only k3) k5)
    unfold RowT
    rw [List.length_append, List.map_append]
    exact k2

end Go.Proofs.YtdldgiicblmknaaDoor
