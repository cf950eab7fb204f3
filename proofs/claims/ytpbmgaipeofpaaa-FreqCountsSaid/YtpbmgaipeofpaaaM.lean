/-
  Rows of pairs: what a row of one's own is, how it is read, cut and appended to. Rows of at most a million pairs.
-/
import Derived.Test.YtpbmgaipeofpaaaO
import Derived.Laws.AppendOwnNone
import Derived.Maps.AppendAt
import Derived.Deep.RegionLaw
import Derived.Deep.LoopGhost
import Derived.Deep.RegionHeld3
namespace Go.Proofs.Ytpbmgaipeofpaaa
open Go.RowKit

/-- The cells of a row of pairs. -/
def pcs : List Sc → List Value
  | [] => []
  | x :: l => .string x.1 :: .int .i64 x.2 :: pcs l
theorem pcs_len : ∀ l : List Sc, (pcs l).length = l.length * 2
  | [] => rfl
  | x :: l => by simp only [pcs, List.length_cons, pcs_len l]; omega
theorem pcs_app : ∀ l m : List Sc, pcs (l ++ m) = pcs l ++ pcs m
  | [], m => rfl
  | x :: l, m => by simp only [List.cons_append, pcs, pcs_app l m]
theorem pcs_at : ∀ {l : List Sc} {j : Nat} {x : Sc}, l[j]? = some x → (pcs l)[j * 2]? = some (.string x.1) ∧ (pcs l)[j * 2 + 1]? = some (.int .i64 x.2)
  | [], j, x, h => by simp at h
  | y :: l, 0, x, h => by
    simp at h
    subst h
    exact ⟨rfl, rfl⟩
  | y :: l, j + 1, x, h => by
    rw [List.getElem?_cons_succ] at h
    obtain ⟨h1, h2⟩ := pcs_at h
    rw [show (j + 1) * 2 = j * 2 + 1 + 1 by omega]
    exact ⟨h1, h2⟩
theorem pcs_ext : ∀ {l : List Sc} {Y : List Value}, Y.length = l.length * 2 → (∀ j x, l[j]? = some x → Y[j * 2]? = some (.string x.1) ∧ Y[j * 2 + 1]? = some (.int .i64 x.2)) → Y = pcs l
  | [], Y, hl, _ => by
    have : Y.length = 0 := by simpa using hl
    exact List.length_eq_zero_iff.1 this
  | x :: l, Y, hl, h => by
    obtain ⟨h1, h2⟩ := h 0 x rfl
    match Y, hl, h1, h2 with
    | a :: b :: Z, hl, h1, h2 =>
      simp at h1 h2
      subst h1 h2
      rw [pcs, pcs_ext (l := l) (Y := Z) (by simp at hl; omega) (fun j y hj => by
        have := h (j + 1) y (by simpa using hj)
        rw [show (j + 1) * 2 = j * 2 + 1 + 1 by omega] at this
        simpa using this)]
    | [a], hl, _, _ => simp at hl; omega
    | [], hl, _, _ => simp at hl
theorem pcs_one : ∀ l : List Sc, ∀ u ∈ pcs l, u.oneCell' = true
  | [], u, h => by simp [pcs] at h
  | x :: l, u, h => by
    rw [pcs, List.mem_cons, List.mem_cons] at h
    rcases h with rfl | rfl | h
    · rfl
    · rfl
    · exact pcs_one l u h
theorem pcs_inv : ∀ {l : List Sc} {i : Nat} {u : Value}, (pcs l)[i]? = some u → ∃ j x, l[j]? = some x ∧ ((i = j * 2 ∧ u = .string x.1) ∨ (i = j * 2 + 1 ∧ u = .int .i64 x.2))
  | [], i, u, h => by simp [pcs] at h
  | x :: l, 0, u, h => ⟨0, x, rfl, Or.inl ⟨rfl, by simp [pcs] at h; exact h.symm⟩⟩
  | x :: l, 1, u, h => ⟨0, x, rfl, Or.inr ⟨rfl, by simp [pcs] at h; exact h.symm⟩⟩
  | x :: l, i + 2, u, h => by
    obtain ⟨j, y, h1, h2⟩ := pcs_inv (l := l) (i := i) (u := u) (by simpa [pcs] using h)
    refine ⟨j + 1, y, by simpa using h1, ?_⟩
    rcases h2 with ⟨h2, h3⟩ | ⟨h2, h3⟩
    · exact Or.inl ⟨by omega, h3⟩
    · exact Or.inr ⟨by omega, h3⟩

/-- A row of pairs of one's own, from a block on. -/
def RowS (w : World) (base : Nat) (v : Value) (L : List Sc) : Prop := w.ownsRow base 64 2 v L.length (pcs L)
theorem rowS_nil (w : World) (base : Nat) : RowS w base (.slice none 0 0) [] := World.ownsRow_nil w base 64 2
theorem RowS.form {w : World} {base : Nat} {v : Value} {L : List Sc} (h : RowS w base v L) : (v = .slice none 0 0 ∧ L = []) ∨ ∃ g cap, v = .slice (some ⟨g, 0, none⟩) L.length cap ∧ base ≤ g ∧ g < w.heap.size ∧ L.length ≤ cap ∧ ∀ j x, L[j]? = some x → w.cell? ⟨g, j * 2, none⟩ = some (.string x.1) ∧ w.cell? ⟨g, j * 2 + 1, none⟩ = some (.int .i64 x.2) := by
  have h' := h
  obtain ⟨h1, ⟨rfl, h2⟩ | ⟨g, cap, cur, rfl, h3, h4, h5, h6, h7, h8⟩⟩ := h
  · exact Or.inl ⟨rfl, List.length_eq_zero_iff.1 h2⟩
  · refine Or.inr ⟨g, cap, rfl, h3, some_lt h4, h5, fun j x hj => ?_⟩
    have hlt : j < L.length := (List.getElem?_eq_some_iff.1 hj).1
    obtain ⟨a1, a2⟩ := pcs_at hj
    rw [World.ownsRow.cellAt h' (j * 2) (by omega), World.ownsRow.cellAt h' (j * 2 + 1) (by omega)]
    exact ⟨a1, a2⟩
theorem RowS.len {w : World} {base : Nat} {v : Value} {L : List Sc} (h : RowS w base v L) : ∃ (A : Option Addr) (c : Nat), v = .slice A L.length c := by
  rcases h.form with ⟨rfl, rfl⟩ | ⟨g, cap, rfl, _⟩
  · exact ⟨none, 0, rfl⟩
  · exact ⟨_, _, rfl⟩
theorem RowS.lt {w : World} {base : Nat} {v : Value} {L : List Sc} (h : RowS w base v L) : ∀ k, v.ownBlock = some k → base ≤ k ∧ k < w.heap.size := fun k hk => by
  have := World.ownsRow.lt h k hk
  exact ⟨this.1, this.2⟩
theorem RowS.only {w w' : World} {base : Nat} {v : Value} {L : List Sc} {O : List Nat} (h : RowS w base v L) (ho : Only O w w') (hO : ∀ k, v.ownBlock = some k → k ∉ O) : RowS w' base v L := by
  obtain ⟨h1, ⟨rfl, h2⟩ | ⟨g, cap, cur, rfl, h3, h4, h5, h6, h7, h8⟩⟩ := h
  · exact ⟨h1, Or.inl ⟨rfl, h2⟩⟩
  · exact ⟨h1, Or.inr ⟨g, cap, cur, rfl, h3, ho.keep h4 (hO g rfl), h5, h6, h7, h8⟩⟩
theorem RowS.none {w w' : World} {base : Nat} {v : Value} {L : List Sc} (h : RowS w base v L) (ho : Only [] w w') : RowS w' base v L := h.only ho (fun _ _ => by simp)
theorem RowS.base {w : World} {base base' : Nat} {v : Value} {L : List Sc} (h : RowS w base v L) (hb : base' ≤ base) : RowS w base' v L := by
  obtain ⟨h1, ⟨rfl, h2⟩ | ⟨g, cap, cur, rfl, h3, h4⟩⟩ := h
  · exact ⟨h1, Or.inl ⟨rfl, h2⟩⟩
  · exact ⟨h1, Or.inr ⟨g, cap, cur, rfl, by omega, h4⟩⟩
theorem rowS_mk {w : World} {b : Nat} {C : Array Value} {L : List Sc} (hY : w.heap[b]? = some (.cells C 64 (0, 0))) (hl : C.size = L.length * 2) (hm : L.length ≤ 1048576) (h : ∀ j x, L[j]? = some x → C[j * 2]? = some (.string x.1) ∧ C[j * 2 + 1]? = some (.int .i64 x.2)) {base : Nat} (hb : base ≤ b) : RowS w base (.slice (some ⟨b, 0, none⟩) L.length L.length) L := by
  have hYL : C.toList = pcs L := pcs_ext (by simpa using hl) (fun j x hj => by simpa using h j x hj)
  refine ⟨pcs_len L, Or.inr ⟨b, L.length, C, rfl, hb, hY, Nat.le_refl _, by unfold maxLen; omega, hl, ?_⟩⟩
  rw [← hYL]
  exact List.take_of_length_le (by simp; omega)
theorem rowS_one {w : World} (x : Sc) {B : Nat} (hB : B ≤ w.heap.size) : RowS (w.alloc (.cells #[.string x.1, .int .i64 x.2] 64)) B (.slice (some ⟨w.heap.size, 0, none⟩) 1 1) [x] :=
  rowS_mk (L := [x]) (C := #[.string x.1, .int .i64 x.2]) (heap_alloc_new w _) rfl (by simp) (fun j y hj => by
    rcases j with _ | j
    · simp at hj; subst hj; exact ⟨rfl, rfl⟩
    · simp at hj) hB
/-- Pairs that are read from wherever they lie. -/
def SrcS (w : World) (v : Value) (L : List Sc) : Prop := (v = .slice none 0 0 ∧ L = []) ∨ ∃ ad c, v = .slice (some ad) L.length c ∧ ∀ j x, L[j]? = some x → ad.block < w.heap.size ∧ w.cell? (ad.add (j * 2)) = some (.string x.1) ∧ w.cell? (ad.add (j * 2 + 1)) = some (.int .i64 x.2)
theorem SrcS.none {w w' : World} {v : Value} {L : List Sc} (h : SrcS w v L) (ho : Only [] w w') : SrcS w' v L := by
  rcases h with h | ⟨ad, c, rfl, h⟩
  · exact Or.inl h
  · refine Or.inr ⟨ad, c, rfl, fun j x hj => ?_⟩
    obtain ⟨h1, h2, h3⟩ := h j x hj
    have hb : ∀ i, w'.heap[(ad.add i).block]? = w.heap[(ad.add i).block]? := fun i => ho.2 _ (by rw [add_block]; exact h1) (by simp)
    exact ⟨by have := ho.size; omega, (World.cell?_of_block (w := w) (hb _)).trans h2, (World.cell?_of_block (w := w) (hb _)).trans h3⟩
theorem RowS.src {w : World} {base : Nat} {v : Value} {L : List Sc} (h : RowS w base v L) : SrcS w v L := by
  rcases h.form with h | ⟨g, cap, rfl, h1, h2, h3, h4⟩
  · exact Or.inl h
  · refine Or.inr ⟨_, _, rfl, fun j x hj => ⟨h2, ?_, ?_⟩⟩
    · rw [add_zero]; exact (h4 j x hj).1
    · rw [add_zero]; exact (h4 j x hj).2
theorem SrcS.len {w : World} {v : Value} {L : List Sc} (h : SrcS w v L) : ∃ (A : Option Addr) (c : Nat), v = .slice A L.length c := by
  rcases h with ⟨rfl, rfl⟩ | ⟨ad, c, rfl, _⟩
  · exact ⟨_, _, rfl⟩
  · exact ⟨_, _, rfl⟩

theorem info_scz : (Try.prog.info? 64).map (fun i => (i.zero, i.size, i.bytes)) = some (some (.agg #[.string ⟨#[]⟩, .int .i64 0]), 2, 24) := by kernel_rfl
theorem run_append_s {w : World} {ty : TypeId} (B : Nat) {v x : Value} {L M : List Sc} (hv : RowS w B v L) (hx : SrcS w x M) (hlen : L.length + M.length ≤ 4000000) (hB : B ≤ w.heap.size) :
    ∃ v' w', (Builtin.append_ #[27, 27] ty #[v, x]).run Try.prog w = .ok v' w' ∧ RowS w' B v' (L ++ M) ∧ Only v.ownBlock.toList w w' ∧ (v'.ownBlock = v.ownBlock ∨ v'.ownBlock = some w.heap.size) := by
  obtain ⟨i0, hi, hz0, hz1, hz2⟩ := info_partsS info_scz
  rcases hx with ⟨rfl, rfl⟩ | ⟨ad, c, rfl, hc⟩
  · have hrun := run_append_owned_none (P := Try.prog) (w := w) B 27 ty 64 i0 2 Try.underlying27 hi v L.length (pcs L) hv
    exact ⟨v, w, hrun, by rw [List.append_nil]; exact hv, Only.refl _ _, Or.inl rfl⟩
  · obtain ⟨v', w', hr, e2, e3, _, e5⟩ := run_append_own_at (P := Try.prog) w B 27 ty 64 i0 (.agg #[.string ⟨#[]⟩, .int .i64 0]) 2 24 Try.underlying27 hi hz0 hz1 hz2 rfl (by omega) v L.length (pcs L) hv ad M.length c (pcs M) (pcs_len M) (by
      intro i u hi
      obtain ⟨j, y, hy, ⟨rfl, rfl⟩ | ⟨rfl, rfl⟩⟩ := pcs_inv hi
      · exact (hc j y hy).2.1
      · exact (hc j y hy).2.2) (pcs_one M) (by unfold maxLen; omega) (by omega) hB
    refine ⟨v', w', hr, ?_, grown_only e3, e5⟩
    unfold RowS
    rw [List.length_append, pcs_app]
    exact e2
theorem wpList_append_s {w : World} {ops : Array Oper} {rest : List Oper} {o : Oper} {a : Act} {Q : Exit → Act → World → Prop} (hgd : o.guard = none) (s x : Operand)
    (ho : o.op = .call { callee := .builtin .append, args := #[s, x], argTypes := #[27, 27] })
    (B : Nat) (v xv : Value) (L M : List Sc) (hs : a.eval s = v) (hx : a.eval x = xv) (hv : RowS w B v L) (hxv : SrcS w xv M) (hlen : L.length + M.length ≤ 4000000) (hB : B ≤ w.heap.size)
    (h : ∀ v' w', RowS w' B v' (L ++ M) → Only v.ownBlock.toList w w' → (v'.ownBlock = v.ownBlock ∨ v'.ownBlock = some w.heap.size) → wpList Try.prog ops Q rest (a.put o.dst v') w') : wpList Try.prog ops Q (o :: rest) a w := by
  refine wpList_plain hgd fun K hK => ?_
  obtain ⟨v', w', hr, h2, h3, h5⟩ := run_append_s (ty := o.type) B hv hxv hlen hB
  unfold Oper.wp execOp
  simp only [ho, resolve, invoke, builtin, Sem.run_bind, Sem.run_pure, Result.andThen_ok, List.map_toArray, List.map_cons, List.map_nil, hs, hx, hr]
  exact hK _ _ (h v' w' h2 h3 h5)
/-- At a step of a region that draws its order. -/
theorem step_append_s {w : World} {ops : Array Oper} {o : Oper} {a : Act} {K : Act → World → Prop} {Q : Exit → Act → World → Prop} {E : Prop} (hgd : o.guard = none) (s x : Operand)
    (ho : o.op = .call { callee := .builtin .append, args := #[s, x], argTypes := #[27, 27] })
    (B : Nat) (v xv : Value) (L M : List Sc) (hs : a.eval s = v) (hx : a.eval x = xv) (hv : RowS w B v L) (hxv : SrcS w xv M) (hlen : L.length + M.length ≤ 4000000) (hB : B ≤ w.heap.size)
    (h : ∀ v' w', RowS w' B v' (L ++ M) → Only v.ownBlock.toList w w' → (v'.ownBlock = v.ownBlock ∨ v'.ownBlock = some w.heap.size) → K (a.put o.dst v') w') :
    if Region.wanted o (yielded ops a.tmps) = true then Oper.wp Try.prog o a w K Q else E := by
  have hw : Region.wanted o (yielded ops a.tmps) = true := by simp [Region.wanted, hgd]
  rw [if_pos hw]
  obtain ⟨v', w', hr, h2, h3, h5⟩ := run_append_s (ty := o.type) B hv hxv hlen hB
  unfold Oper.wp execOp
  simp only [ho, resolve, invoke, builtin, Sem.run_bind, Sem.run_pure, Result.andThen_ok, List.map_toArray, List.map_cons, List.map_nil, hs, hx, hr]
  exact h v' w' h2 h3 h5
/-- A part of a row from a place on, or up to one, as an operation tells it. -/
theorem cut_fromS {w : World} {B : Nat} {v : Value} {L : List Sc} (h : RowS w B v L) (k : Nat) (hk : k ≤ L.length) (x : Int) (hx : x = (k : Int)) : ∃ S, (∀ w, (Instr.slice 27 v (some (.int .i64 x)) none none).run Try.prog w = .ok S w) ∧ SrcS w S (L.drop k) := by
  subst hx
  rcases h.form with ⟨rfl, rfl⟩ | ⟨g, cap, rfl, h1, h2, h3, hc⟩
  · have : k = 0 := by simpa using hk
    subst this
    refine ⟨.slice none 0 0, fun w => by go_simp, Or.inl ⟨rfl, rfl⟩⟩
  · refine ⟨sliced (some ⟨g, 0, none⟩) k L.length cap 2, fun w => ?_, ?_⟩
    · rw [run_slice_l (P := Try.prog) w 27 (some ⟨g, 0, none⟩) L.length cap (by kernel_rfl) .i64 (k : Int) (by omega) (by omega)]
      simp only [Int.toNat_natCast]
      obtain ⟨i, hi, _, hz, _⟩ := info_partsS info_scz
      have hel : Try.prog.elem 27 = 64 := by kernel_rfl
      rw [hel]
      simp [sizeOf, typeInfo, hi, hz, Result.andThen]
    · unfold sliced
      by_cases hm : cap = k
      · rw [if_pos hm]
        have : L.drop k = [] := by rw [List.drop_eq_nil_iff]; omega
        rw [this]
        refine Or.inr ⟨⟨g, 0, none⟩, _, by rw [show L.length - k = 0 by omega]; rfl, fun j x hj => by simp at hj⟩
      · rw [if_neg hm]
        have ha : ∀ i, ((⟨g, 0, none⟩ : Addr).add (k * 2)).add i = ⟨g, k * 2 + i, none⟩ := fun i => by
          rw [add_zero]
          unfold Addr.add
          split
          · next hi => rw [hi]; rfl
          · rfl
        refine Or.inr ⟨(⟨g, 0, none⟩ : Addr).add (k * 2), cap - k, by rw [List.length_drop]; rfl, fun j x hj => ⟨by rw [add_block]; exact h2, ?_, ?_⟩⟩
        · rw [List.getElem?_drop] at hj
          rw [ha, ← (hc _ _ hj).1]
          congr 2; omega
        · rw [List.getElem?_drop] at hj
          rw [ha, ← (hc _ _ hj).2]
          congr 2; omega
theorem cut_toS {w : World} {B : Nat} {v : Value} {L : List Sc} (h : RowS w B v L) (k : Nat) (hk : k ≤ L.length) (x : Int) (hx : x = (k : Int)) : ∃ S, (∀ w, (Instr.slice 27 v none (some (.int .i64 x)) none).run Try.prog w = .ok S w) ∧ SrcS w S (L.take k) := by
  subst hx
  rcases h.form with ⟨rfl, rfl⟩ | ⟨g, cap, rfl, h1, h2, h3, hc⟩
  · have : k = 0 := by simpa using hk
    subst this
    refine ⟨.slice none 0 0, fun w => by go_simp, Or.inl ⟨rfl, rfl⟩⟩
  · refine ⟨sliced (some ⟨g, 0, none⟩) 0 k cap 2, fun w => ?_, ?_⟩
    · rw [run_slice_h (P := Try.prog) w 27 (some ⟨g, 0, none⟩) L.length cap (by kernel_rfl) .i64 (k : Int) (by omega) (by omega)]
      simp only [Int.toNat_natCast]
      obtain ⟨i, hi, _, hz, _⟩ := info_partsS info_scz
      have hel : Try.prog.elem 27 = 64 := by kernel_rfl
      rw [hel]
      simp [sizeOf, typeInfo, hi, hz, Result.andThen]
    · have hs : sliced (some ⟨g, 0, none⟩) 0 k cap 2 = .slice (some ⟨g, 0, none⟩) k cap := by
        unfold sliced; split <;> simp [Addr.add]
      rw [hs]
      refine Or.inr ⟨⟨g, 0, none⟩, _, by rw [List.length_take, Nat.min_eq_left hk], fun j x hj => ⟨h2, ?_, ?_⟩⟩
      · rw [List.getElem?_take] at hj
        split at hj
        · rw [add_zero]; exact (hc _ _ hj).1
        · cases hj
      · rw [List.getElem?_take] at hj
        split at hj
        · rw [add_zero]; exact (hc _ _ hj).2
        · cases hj
/-- A place's address, as an operation tells it. -/
theorem run_ixS (g k n cap : Nat) (hk : k < n) (w : World) : Sem.run Try.prog (Instr.indexAt 27 (.slice (some ⟨g, 0, none⟩) n cap) (.int .i64 (k : Int))) w = .ok (.pointer (some ⟨g, k * 2, none⟩)) w := by
  go_simp
/-- What a call answers that makes a new row. -/
def FreshS (w : World) (v : Value) (L : List Sc) (w' : World) : Prop := RowS w' w.heap.size v L ∧ Only [] w w'
end Go.Proofs.Ytpbmgaipeofpaaa
