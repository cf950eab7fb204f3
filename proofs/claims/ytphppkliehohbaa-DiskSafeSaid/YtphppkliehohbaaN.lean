/-
  The law's own faulty: a disk with a fault more. An append of a row of faults, read from wherever, to a row of one's own.
-/
import Derived.Test.YtphppkliehohbaaChecked
import Derived.Test.YtphppkliehohbaaMath
import Derived.Test.YtphppkliehohbaaA
import Derived.Test.YtphppkliehohbaaB
import Derived.Test.YtphppkliehohbaaC
import Derived.Test.YtphppkliehohbaaE
import Derived.Test.YtphppkliehohbaaF
import Derived.Test.YtphppkliehohbaaL
import Derived.Test.YtphppkliehohbaaM
import Derived.WalkKit
import Derived.WalkSpells
import Derived.WalkLawsBesides
import Derived.Deep.QuietTactic
import Derived.BigQuiet
import Derived.Lib.Hide
import Derived.Lib.SmallJoins
import Derived.Outline
import Derived.OwnWalk
import Derived.Deep.CutBlock
import Derived.BigRegion
import Derived.StillTailTactics
import Derived.Laws.AppendOwnNone
import Derived.Maps.AppendAt
import Derived.Deep.RegionLaw
import Derived.Deep.RegionHeld3
import Derived.Lib.BufferRead
import Derived.Deep.AppendLies
namespace Go.Proofs.Ytphppkliehohbaa
open Go.RowKit
theorem run_append_none_cap {P : Program} {w : World} (base : Nat) (t ty e : TypeId) (i : TypeInfo) (size c : Nat) (ht : P.underlying t = some (.slice e)) (hi : P.info? e = some i)
    (v : Value) (n : Nat) (xs : List Value) (hown : w.ownsRow base e size v n xs) :
    (Builtin.append_ #[t, t] ty #[v, .slice none 0 c]).run P w = .ok v w := by
  rcases hown.2 with ⟨rfl, rfl⟩ | ⟨g, cap, cur, rfl, _, _, hnc, _⟩
  · simp [Builtin.append_, run_underlying ht, sizeOf, typeInfo, hi, Builtin.lenOf, Builtin.firstCells]
  · simp [Builtin.append_, run_underlying ht, sizeOf, typeInfo, hi, Builtin.lenOf, Builtin.firstCells, hnc, storeCells]
theorem tcs_len (M : List Ft) : (M.flatMap tcs).length = M.length * 3 := by
  refine list_ind (p := fun M => (M.flatMap tcs).length = M.length * 3) rfl (fun l o ih => ?_) M
  rw [List.flatMap_append, List.length_append, ih, List.length_append]
  simp [tcs]
  omega
theorem tcs_one (M : List Ft) : ∀ u ∈ M.flatMap tcs, u.oneCell' = true := by
  intro u hu
  obtain ⟨f, _, hf⟩ := List.mem_flatMap.1 hu
  exact fault_cells _ _ _ u hf
theorem add_near (a : Addr) (m k j : Nat) (hk : 0 < k) (hj : j = m + k) : a.add j = ⟨(a.add m).block, (a.add m).off + k, none⟩ := by
  subst hj
  unfold Addr.add
  rw [if_neg (by omega)]
  split
  · rename_i h
    rw [h, Nat.zero_add]
  · rw [Nat.add_assoc]
theorem faults_cells {w : World} {a : Addr} {M : List Ft} (h : FaultsAt w (some a) M) : ∀ j u, (M.flatMap tcs)[j]? = some u → w.cell? (a.add j) = some u := by
  intro j u hu
  have hj : j < M.length * 3 := by rw [← tcs_len]; exact (List.getElem?_eq_some_iff.1 hu).1
  obtain ⟨f, hf⟩ : ∃ f, M[j / 3]? = some f := ⟨_, List.getElem?_eq_getElem (by omega)⟩
  obtain ⟨a', ha, _, h0, h1, h2⟩ := h (j / 3) f hf
  cases ha
  have hq := flat3 (g := tcs) (fun _ => rfl) M (j / 3) f hf (j % 3) (by omega)
  rw [show j / 3 * 3 + j % 3 = j by omega, hu] at hq
  have hc : j % 3 = 0 ∨ j % 3 = 1 ∨ j % 3 = 2 := by omega
  rcases hc with e | e | e
  · rw [e] at hq
    rw [show a.add j = a.add (j / 3 * 3) by congr 1; omega, h0]
    exact hq.symm
  · rw [e] at hq
    rw [add_near a (j / 3 * 3) 1 j (by omega) (by omega), h1]
    exact hq.symm
  · rw [e] at hq
    rw [add_near a (j / 3 * 3) 2 j (by omega) (by omega), h2]
    exact hq.symm
theorem run_append_ft {w : World} {ty : TypeId} (B : Nat) {v : Value} {L M : List Ft} {A : Option Addr} {c : Nat} (hv : RowT w B v L) (hx : FaultsAt w A M) (hlen : L.length + M.length ≤ 2000000) (hB : B ≤ w.heap.size) :
    ∃ v' w', (Builtin.append_ #[23, 23] ty #[v, .slice A M.length c]).run Try.prog w = .ok v' w' ∧ RowT w' B v' (L ++ M) ∧ Only v.ownBlock.toList w w' := by
  obtain ⟨i0, hi, hz0, hz1, hz2⟩ := info_partsS info_fault
  cases A with
  | none =>
    have h0 : M = [] := by
      cases M with
      | nil => rfl
      | cons f M => obtain ⟨a, ha, _⟩ := hx 0 f rfl; cases ha
    subst h0
    exact ⟨v, w, run_append_none_cap (P := Try.prog) (w := w) B 23 ty 60 i0 3 c Try.underlying23 hi v L.length (L.flatMap tcs) hv, by rw [List.append_nil]; exact hv, Only.refl _ _⟩
  | some ad =>
    obtain ⟨v', w', hr, e2, e3, _, e5⟩ := run_append_own_at (P := Try.prog) w B 23 ty 60 i0 _ 3 32 Try.underlying23 hi hz0 hz1 hz2 rfl (by omega) v L.length (L.flatMap tcs) hv ad M.length c (M.flatMap tcs) (tcs_len M) (faults_cells hx) (tcs_one M) (by unfold maxLen; omega) (by omega) hB
    refine ⟨v', w', hr, ?_, grown_only e3⟩
    unfold RowT
    rw [List.length_append, List.flatMap_append]
    exact e2
theorem wpList_append_ft {w : World} {ops : Array Oper} {rest : List Oper} {o : Oper} {a : Act} {Q : Exit → Act → World → Prop} (hgd : o.guard = none) (s x : Operand)
    (ho : o.op = .call { callee := .builtin .append, args := #[s, x], argTypes := #[23, 23] })
    (B : Nat) (v : Value) (A : Option Addr) (c : Nat) (L M : List Ft) (hs : a.eval s = v) (hx : a.eval x = .slice A M.length c) (hv : RowT w B v L) (hxv : FaultsAt w A M) (hlen : L.length + M.length ≤ 2000000) (hB : B ≤ w.heap.size)
    (h : ∀ v' w', RowT w' B v' (L ++ M) → Only v.ownBlock.toList w w' → wpList Try.prog ops Q rest (a.put o.dst v') w') : wpList Try.prog ops Q (o :: rest) a w := by
  refine wpList_plain hgd fun K hK => ?_
  obtain ⟨v', w', hr, h2, h3⟩ := run_append_ft (ty := o.type) B hv hxv hlen hB (c := c)
  unfold Oper.wp execOp
  simp only [ho, resolve, invoke, builtin, Sem.run_bind, Sem.run_pure, Result.andThen_ok, List.map_toArray, List.map_cons, List.map_nil, hs, hx, hr]
  exact hK _ _ (h v' w' h2 h3)
def faultyF (D : Dk) (o : Od) : Dk := (D.1, D.2 ++ [(o.2.1, IntKind.i64.wrap (o.1 - 5), o.2.2.2)])
end Go.Proofs.Ytphppkliehohbaa
