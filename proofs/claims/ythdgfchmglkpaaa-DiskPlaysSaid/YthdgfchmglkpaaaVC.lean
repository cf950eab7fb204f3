/-
  Appends to a row of files of one's own; slices.Clone of files, of faults; the program's copied. Premises: rows lie in memory, of lengths that Go's own rows have.
-/
import Derived.Test.YthdgfchmglkpaaaChecked
import Derived.Test.YthdgfchmglkpaaaMath
import Derived.Test.YthdgfchmglkpaaaA
import Derived.Test.YthdgfchmglkpaaaB
import Derived.Test.YthdgfchmglkpaaaC
import Derived.Test.YthdgfchmglkpaaaD
import Derived.Test.YthdgfchmglkpaaaE
import Derived.Test.YthdgfchmglkpaaaF
import Derived.Test.YthdgfchmglkpaaaJ
import Derived.Test.YthdgfchmglkpaaaK
import Derived.Test.YthdgfchmglkpaaaL
import Derived.Test.YthdgfchmglkpaaaM
import Derived.Test.YthdgfchmglkpaaaN
import Derived.Test.YthdgfchmglkpaaaU
import Derived.WalkKit
import Derived.WalkSpells
import Derived.WalkLawsBesides
import Derived.Deep.QuietTactic
import Derived.BigQuiet
import Derived.Lib.Hide
import Derived.Lib.SmallJoins
import Derived.Outline
import Derived.OwnWalk
import Derived.Deep.CutBlock
import Derived.BigRegion
import Derived.StillTailTactics
import Derived.Laws.AppendOwnNone
import Derived.Maps.AppendAt
import Derived.Deep.RegionLaw
import Derived.Deep.RegionHeld3
import Derived.Lib.BufferRead
import Derived.Deep.AppendLies
namespace Go.Proofs.Ythdgfchmglkpaaa
open Go.RowKit
theorem fcs_len (M : List Fl) : (M.flatMap fcs).length = M.length * 3 := by
  refine list_ind (p := fun M => (M.flatMap fcs).length = M.length * 3) rfl (fun l o ih => ?_) M
  rw [List.flatMap_append, List.length_append, ih, List.length_append]
  simp [fcs]
  omega
theorem fcs_one (M : List Fl) : ∀ u ∈ M.flatMap fcs, u.oneCell' = true := by
  intro u hu
  obtain ⟨f, _, hf⟩ := List.mem_flatMap.1 hu
  exact file_cells _ _ _ u hf
theorem files_cells {w : World} {a : Addr} {M : List Fl} (h : FilesAt w (some a) M) : ∀ j u, (M.flatMap fcs)[j]? = some u → w.cell? (a.add j) = some u := by
  intro j u hu
  have hj : j < M.length * 3 := by rw [← fcs_len]; exact (List.getElem?_eq_some_iff.1 hu).1
  obtain ⟨f, hf⟩ : ∃ f, M[j / 3]? = some f := ⟨_, List.getElem?_eq_getElem (by omega)⟩
  obtain ⟨a', ha, _, h0, h1, h2⟩ := h (j / 3) f hf
  cases ha
  have hq := flat3 (g := fcs) (fun _ => rfl) M (j / 3) f hf (j % 3) (by omega)
  rw [show j / 3 * 3 + j % 3 = j by omega, hu] at hq
  have hc : j % 3 = 0 ∨ j % 3 = 1 ∨ j % 3 = 2 := by omega
  rcases hc with e | e | e
  · rw [e] at hq
    rw [show a.add j = a.add (j / 3 * 3) by congr 1; omega, h0]
    exact hq.symm
  · rw [e] at hq
    rw [add_near a (j / 3 * 3) 1 j (by omega) (by omega), h1]
    exact hq.symm
  · rw [e] at hq
    rw [add_near a (j / 3 * 3) 2 j (by omega) (by omega), h2]
    exact hq.symm
theorem run_append_fl {w : World} {ty : TypeId} (B : Nat) {v : Value} {L M : List Fl} {A : Option Addr} {c : Nat} (hv : RowF w B v L) (hx : FilesAt w A M) (hlen : L.length + M.length ≤ 2000000) (hB : B ≤ w.heap.size) :
    ∃ v' w', (Builtin.append_ #[22, 22] ty #[v, .slice A M.length c]).run Try.prog w = .ok v' w' ∧ RowF w' B v' (L ++ M) ∧ Only v.ownBlock.toList w w' := by
  obtain ⟨i0, hi, hz0, hz1, hz2⟩ := info_partsS info_file
  cases A with
  | none =>
    have h0 : M = [] := by
      cases M with
      | nil => rfl
      | cons f M => obtain ⟨a, ha, _⟩ := hx 0 f rfl; cases ha
    subst h0
    exact ⟨v, w, run_append_none_cap (P := Try.prog) (w := w) B 22 ty 39 i0 3 c Try.underlying22 hi v L.length (L.flatMap fcs) hv, by rw [List.append_nil]; exact hv, Only.refl _ _⟩
  | some ad =>
    obtain ⟨v', w', hr, e2, e3, _, e5⟩ := run_append_own_at (P := Try.prog) w B 22 ty 39 i0 _ 3 40 Try.underlying22 hi hz0 hz1 hz2 rfl (by omega) v L.length (L.flatMap fcs) hv ad M.length c (M.flatMap fcs) (fcs_len M) (files_cells hx) (fcs_one M) (by unfold maxLen; omega) (by omega) hB
    refine ⟨v', w', hr, ?_, grown_only e3⟩
    unfold RowF
    rw [List.length_append, List.flatMap_append]
    exact e2
theorem wpList_append_fl {w : World} {ops : Array Oper} {rest : List Oper} {o : Oper} {a : Act} {Q : Exit → Act → World → Prop} (hgd : o.guard = none) (s x : Operand)
    (ho : o.op = .call { callee := .builtin .append, args := #[s, x], argTypes := #[22, 22] })
    (B : Nat) (v : Value) (A : Option Addr) (c : Nat) (L M : List Fl) (hs : a.eval s = v) (hx : a.eval x = .slice A M.length c) (hv : RowF w B v L) (hxv : FilesAt w A M) (hlen : L.length + M.length ≤ 2000000) (hB : B ≤ w.heap.size)
    (h : ∀ v' w', RowF w' B v' (L ++ M) → Only v.ownBlock.toList w w' → wpList Try.prog ops Q rest (a.put o.dst v') w') : wpList Try.prog ops Q (o :: rest) a w := by
  refine wpList_plain hgd fun K hK => ?_
  obtain ⟨v', w', hr, h2, h3⟩ := run_append_fl (ty := o.type) B hv hxv hlen hB (c := c)
  unfold Oper.wp execOp
  simp only [ho, resolve, invoke, builtin, Sem.run_bind, Sem.run_pure, Result.andThen_ok, List.map_toArray, List.map_cons, List.map_nil, hs, hx, hr]
  exact hK _ _ (h v' w' h2 h3)
/-- At a step of a region that draws its order. -/
theorem step_append_fl {w : World} {ops : Array Oper} {o : Oper} {a : Act} {K : Act → World → Prop} {Q : Exit → Act → World → Prop} {E : Prop} (hgd : o.guard = none) (s x : Operand)
    (ho : o.op = .call { callee := .builtin .append, args := #[s, x], argTypes := #[22, 22] })
    (B : Nat) (v : Value) (A : Option Addr) (c : Nat) (L M : List Fl) (hs : a.eval s = v) (hx : a.eval x = .slice A M.length c) (hv : RowF w B v L) (hxv : FilesAt w A M) (hlen : L.length + M.length ≤ 2000000) (hB : B ≤ w.heap.size)
    (h : ∀ v' w', RowF w' B v' (L ++ M) → Only v.ownBlock.toList w w' → K (a.put o.dst v') w') :
    if Region.wanted o (yielded ops a.tmps) = true then Oper.wp Try.prog o a w K Q else E := by
  have hw : Region.wanted o (yielded ops a.tmps) = true := by simp [Region.wanted, hgd]
  rw [if_pos hw]
  obtain ⟨v', w', hr, h2, h3⟩ := run_append_fl (ty := o.type) B hv hxv hlen hB (c := c)
  unfold Oper.wp execOp
  simp only [ho, resolve, invoke, builtin, Sem.run_bind, Sem.run_pure, Result.andThen_ok, List.map_toArray, List.map_cons, List.map_nil, hs, hx, hr]
  exact h v' w' h2 h3
set_option maxHeartbeats 2000000 in
theorem clone_fl {w : World} {A : Option Addr} {c : Nat} {L : List Fl} (h : FilesAt w A L) (hl : L.length ≤ 1000000) :
    Calls Try.prog 49 #[.slice A L.length c] w fun e w' => (∃ v, e = .returned v ∧ RowF w' w.heap.size v L) ∧ Below w.heap.size w w' := by
  have qE : ∀ (w : World) (a : Option Addr) (n c n' c' : Nat), (binOp .eql 22 (.slice a n c) (.slice none n' c')).run Try.prog w = .ok (.bool a.isNone) w := fun w a n c n' c' => Lib.run_eql_slice_nil w _ _ a n c n' c' Try.underlying22
  cases A with
  | none =>
    have h0 : L = [] := by
      cases L with
      | nil => rfl
      | cons f M => obtain ⟨a, ha, _⟩ := h 0 f rfl; cases ha
    subst h0
    clear h hl
    go_enter Try.func49, Try.ntmps49
    go_wp2
    go_ret
    exact ⟨⟨_, rfl, rowF_nil _ _⟩, Below.refl _ _⟩
  | some a =>
    have hAH := Lib.hid (h.on (W' := w.alloc (.cells #[] 39)) box_below)
    have hlH := Lib.hid hl
    obtain ⟨n, hnn⟩ : ∃ n, n = L.length := ⟨_, rfl⟩
    rw [← hnn]
    have hnH := Lib.hid hnn
    clear h hl hnn
    go_enter Try.func49, Try.ntmps49
    go_wp2_with (at_builtin; refine wpList_append_fl rfl (.tmp 5) (.tmp 6) rfl w.heap.size (.slice (some ⟨w.heap.size, 0, none⟩) 0 0) (some a) c [] L rfl (by rw [← hnH.out]; rfl) (World.ownsRow_made w #[] 0 (Nat.le_refl _) (by unfold maxLen; omega) rfl) hAH.out (by have := hlH.out; simp; omega) (by simp) ?_; intro v3 w3 hR3 hO3; have hR4 := Lib.hid (show RowF w3 w.heap.size v3 L from hR3); have hO4 := Lib.hid (hO3.below (B := w.heap.size) (by simp) (by simp [Value.ownBlock])); clear hR3 hO3)
    all_goals go_ret
    exact ⟨⟨_, rfl, hR4.out⟩, box_below.trans hO4.out⟩
set_option maxHeartbeats 2000000 in
theorem clone_ft {w : World} {A : Option Addr} {c : Nat} {L : List Ft} (h : FaultsAt w A L) (hl : L.length ≤ 1000000) :
    Calls Try.prog 44 #[.slice A L.length c] w fun e w' => (∃ v, e = .returned v ∧ RowT w' w.heap.size v L) ∧ Below w.heap.size w w' := by
  have qE : ∀ (w : World) (a : Option Addr) (n c n' c' : Nat), (binOp .eql 23 (.slice a n c) (.slice none n' c')).run Try.prog w = .ok (.bool a.isNone) w := fun w a n c n' c' => Lib.run_eql_slice_nil w _ _ a n c n' c' Try.underlying23
  cases A with
  | none =>
    have h0 : L = [] := by
      cases L with
      | nil => rfl
      | cons f M => obtain ⟨a, ha, _⟩ := h 0 f rfl; cases ha
    subst h0
    clear h hl
    go_enter Try.func44, Try.ntmps44
    go_wp2
    go_ret
    exact ⟨⟨_, rfl, rowT_nil _ _⟩, Below.refl _ _⟩
  | some a =>
    have hAH := Lib.hid (h.on (W' := w.alloc (.cells #[] 70)) box_below)
    have hlH := Lib.hid hl
    obtain ⟨n, hnn⟩ : ∃ n, n = L.length := ⟨_, rfl⟩
    rw [← hnn]
    have hnH := Lib.hid hnn
    clear h hl hnn
    go_enter Try.func44, Try.ntmps44
    go_wp2_with (at_builtin; refine wpList_append_ft rfl (.tmp 5) (.tmp 6) rfl w.heap.size (.slice (some ⟨w.heap.size, 0, none⟩) 0 0) (some a) c [] L rfl (by rw [← hnH.out]; rfl) (World.ownsRow_made w #[] 0 (Nat.le_refl _) (by unfold maxLen; omega) rfl) hAH.out (by have := hlH.out; simp; omega) (by simp) ?_; intro v3 w3 hR3 hO3; have hR4 := Lib.hid (show RowT w3 w.heap.size v3 L from hR3); have hO4 := Lib.hid (hO3.below (B := w.heap.size) (by simp) (by simp [Value.ownBlock])); clear hR3 hO3)
    all_goals go_ret
    exact ⟨⟨_, rfl, hR4.out⟩, box_below.trans hO4.out⟩
end Go.Proofs.Ythdgfchmglkpaaa
