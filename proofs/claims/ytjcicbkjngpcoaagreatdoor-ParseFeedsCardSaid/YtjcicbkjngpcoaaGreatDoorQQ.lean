/-
  Rows of requests one behind the other, and how they are held. Premises: lengths are small.
-/
import Derived.Test.YtjcicbkjngpcoaaGreatDoorQP
import Derived.Laws.AppendOwnNone
namespace Go.Proofs.YtjcicbkjngpcoaaGreatDoor
open Go.RowKit Dec Pq S4

/-- Requests' cells, as they are appended. -/
def Cells (W : World) (ok : Nat → Prop) (q : List MR) (css : List (List Value)) : Prop := css.length = q.length ∧ (∀ c ∈ css, c.length = 2) ∧ ∀ (i : Nat) p, q[i]? = some p → ∃ cs, css[i]? = some cs ∧ RqAt W ok p cs
theorem flat_len (css : List (List Value)) (h : ∀ c ∈ css, c.length = 2) : css.flatten.length = css.length * 2 := by
  induction css with
  | nil => rfl
  | cons c l ih =>
    rw [List.flatten_cons, List.length_append, ih (fun c hc => h c (by simp [hc])), h c (by simp), List.length_cons]
    omega
theorem run_rqs {W : World} {B : Nat} {v : Value} {n : Nat} {xs : List Value} {A : Option Addr} {c : Nat} {q : List MR} {ok : Nat → Prop} (ty : TypeId) (hown : W.ownsRow B 43 2 v n xs) (hr : Rqs W ok A q) (hc : q = [] → A = none → c = 0) (hlen : n + q.length ≤ 1000000) (hB : B ≤ W.heap.size) :
    ∃ v' w' css, (Builtin.append_ #[30, 30] ty #[v, .slice A q.length c]).run Tryz.prog W = .ok v' w' ∧ w'.ownsRow B 43 2 v' (n + q.length) (xs ++ css.flatten) ∧ W.grownBy w' v.ownBlock ∧ (v'.ownBlock = v.ownBlock ∨ v'.ownBlock = some W.heap.size) ∧ Cells W ok q css := by
  obtain ⟨i0, hi, hz0, hz1, hz2⟩ := info_parts req_info
  cases A with
  | some ad =>
    obtain ⟨css, h1, h2, h3, h4, h5⟩ := rqs_cells hr
    obtain ⟨v', w', k1, k2, k3, _, k5⟩ := run_append_own_at (P := Tryz.prog) W B 30 ty 43 i0 _ 2 32 Tryz.underlying30 hi hz0 hz1 hz2 rfl (by decide) v n xs hown ad q.length c css.flatten (by rw [flat_len css h2, h1]) h4 h3 (by unfold maxLen; omega) (by omega) hB
    exact ⟨v', w', css, k1, k2, k3, k5, h1, h2, h5⟩
  | none =>
    have hs : q = [] := by
      cases q with
      | nil => rfl
      | cons p q =>
        obtain ⟨a, _, _, ha, _⟩ := hr 0 p rfl
        cases ha
    subst hs
    obtain rfl := hc rfl rfl
    exact ⟨v, W, [], run_append_owned_none (P := Tryz.prog) (w := W) B 30 ty 43 i0 2 Tryz.underlying30 hi v n xs hown, by simpa using hown, World.grownBy.refl _ _, Or.inl rfl, rfl, by simp, fun i p h => by simp at h⟩
theorem wp_rqs {W : World} {o : Oper} {a : Act} {K : Act → World → Prop} {Q : Exit → Act → World → Prop} (s x : Operand) (ho : o.op = .call { callee := .builtin .append, args := #[s, x], argTypes := #[30, 30] })
    {B : Nat} {v : Value} {n : Nat} {xs : List Value} {A : Option Addr} {c : Nat} {q : List MR} {ok : Nat → Prop} (hs : a.eval s = v) (hx : a.eval x = .slice A q.length c) (hown : W.ownsRow B 43 2 v n xs) (hr : Rqs W ok A q) (hc : q = [] → A = none → c = 0) (hlen : n + q.length ≤ 1000000) (hB : B ≤ W.heap.size)
    (h : ∀ v' w' css, w'.ownsRow B 43 2 v' (n + q.length) (xs ++ css.flatten) → W.grownBy w' v.ownBlock → (v'.ownBlock = v.ownBlock ∨ v'.ownBlock = some W.heap.size) → Cells W ok q css → K (a.put o.dst v') w') : o.wp Tryz.prog a W K Q := by
  obtain ⟨v', w', css, hrun, h2, h3, h4, h5⟩ := run_rqs o.type hown hr hc hlen hB
  unfold Oper.wp execOp
  simp only [ho, resolve, invoke, builtin, Sem.run_bind, Sem.run_pure, Result.andThen_ok, List.map_toArray, List.map_cons, List.map_nil, hs, hx, hrun]
  exact h v' w' css h2 h3 h4 h5
theorem wpList_rqs {W : World} {ops : Array Oper} {rest : List Oper} {o : Oper} {a : Act} {Q : Exit → Act → World → Prop} (hw : Region.wanted o (yielded ops a.tmps) = true) (s x : Operand) (ho : o.op = .call { callee := .builtin .append, args := #[s, x], argTypes := #[30, 30] })
    {B : Nat} {v : Value} {n : Nat} {xs : List Value} {A : Option Addr} {c : Nat} {q : List MR} {ok : Nat → Prop} (hs : a.eval s = v) (hx : a.eval x = .slice A q.length c) (hown : W.ownsRow B 43 2 v n xs) (hr : Rqs W ok A q) (hc : q = [] → A = none → c = 0) (hlen : n + q.length ≤ 1000000) (hB : B ≤ W.heap.size)
    (h : ∀ v' w' css, w'.ownsRow B 43 2 v' (n + q.length) (xs ++ css.flatten) → W.grownBy w' v.ownBlock → (v'.ownBlock = v.ownBlock ∨ v'.ownBlock = some W.heap.size) → Cells W ok q css → wpList Tryz.prog ops Q rest (a.put o.dst v') w') : wpList Tryz.prog ops Q (o :: rest) a W :=
  wpList_step fun K hK => by
    rw [if_pos hw]
    exact wp_rqs s x ho hs hx hown hr hc hlen hB fun v' w' css h1 h2 h3 h4 => hK _ _ (h v' w' css h1 h2 h3 h4)
/-- More whole requests. -/
theorem Held.more {w0 W W' : World} {g : Nat} {v v' : Value} {q q2 : List MR} {ok : Nat → Prop} {css css2 : List (List Value)} (h : Held w0 g (.slice none 0 0) v [] q W)
    (hcl : css.length = q.length) (hc2 : ∀ c ∈ css, c.length = 2) (hcs : ∀ (i : Nat) p, q[i]? = some p → ∃ cs, css[i]? = some cs ∧ RqAt W (Free w0.heap.size g (.slice none 0 0) v) p cs) (hv : ∀ b, v.ownBlock = some b → w0.heap.size ≤ b ∧ b < W.heap.size)
    (hok : ∀ b, ok b → b < W.heap.size → w0.heap.size ≤ b ∧ b ≠ g ∧ v.ownBlock ≠ some b) (hown : W'.ownsRow w0.heap.size 43 2 v' (q.length + q2.length) (css.flatten ++ css2.flatten)) (hg : W.grownBy W' v.ownBlock)
    (hat : v'.ownBlock = v.ownBlock ∨ v'.ownBlock = some W.heap.size) (hC : Cells W ok q2 css2) : Held w0 g (.slice none 0 0) v' [] (q ++ q2) W' := by
  obtain ⟨e1, e2, e3⟩ := hC
  have hfr : ∀ b, b < W.heap.size → w0.heap.size ≤ b ∧ b ≠ g ∧ v.ownBlock ≠ some b → Free w0.heap.size g (.slice none 0 0) v' b := fun b hl ⟨h1, h2, h3⟩ => ⟨h1, h2, by simp [Value.ownBlock], fun e => by
    rcases hat with h | h
    · exact h3 (by rw [← h]; exact e)
    · rw [h] at e; have := Option.some.inj e; omega⟩
  refine ⟨World.ownsRow_nil _ _ _ _, ⟨css ++ css2, by simpa using hown, by simp [hcl, e1], ?_, fun i p hp => ?_⟩, by simp [Value.ownBlock], ?_, by simp [Value.ownBlock], h.bel.grown hg h.bel.size (fun k hk => (hv k hk).1), Nat.lt_of_lt_of_le h.lt hg.size, h.ge⟩
  · intro c hc
    rcases List.mem_append.1 hc with hc | hc
    · exact hc2 c hc
    · exact e2 c hc
  · by_cases hi : i < q.length
    · rw [List.getElem?_append_left hi] at hp
      obtain ⟨cs, hc, hr⟩ := hcs i p hp
      exact ⟨cs, by rw [List.getElem?_append_left (by omega)]; exact hc, hr.keep (fun b hf hl => hg.block b hl (fun e => hf.2.2.2 e.symm)) hg.size (fun b hf hl => hfr b hl ⟨hf.1, hf.2.1, hf.2.2.2⟩)⟩
    · rw [List.getElem?_append_right (by omega)] at hp
      obtain ⟨cs, hc, hr⟩ := e3 _ p hp
      refine ⟨cs, by rw [List.getElem?_append_right (by omega), hcl]; exact hc, hr.keep (fun b hf hl => hg.block b hl (fun e => (hok b hf hl).2.2 e.symm)) hg.size (fun b hf hl => hfr b hl (hok b hf hl))⟩
  · intro e
    rcases hat with h1 | h1
    · exact h.gv (by rw [← h1]; exact e)
    · rw [h1] at e; have := Option.some.inj e; have := h.lt; omega
end Go.Proofs.YtjcicbkjngpcoaaGreatDoor
