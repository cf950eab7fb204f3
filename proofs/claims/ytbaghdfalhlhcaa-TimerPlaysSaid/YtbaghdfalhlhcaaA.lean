/-
  What is written and what stays. No condition.
-/
import Derived.Test.YtbaghdfalhlhcaaMathE
import Derived.WalkKit
import Derived.WalkSpells
import Derived.WalkLawsBesides
import Derived.Deep.QuietTactic
import Derived.BigQuiet
import Derived.Lib.Hide
import Derived.Lib.SmallJoins
import Derived.Outline
import Derived.OwnWalk
namespace Go.Proofs.Ytbaghdfalhlhcaa
open Go.RowKit

/-- Nothing is written but the blocks of a list, and new ones. -/
def Only (O : List Nat) (w w' : World) : Prop := Below 0 w w' ∧ ∀ k, k < w.heap.size → k ∉ O → w'.heap[k]? = w.heap[k]?
theorem Only.refl (O : List Nat) (w : World) : Only O w w := ⟨Below.refl _ _, fun _ _ _ => rfl⟩
theorem Only.size {O : List Nat} {w w' : World} (h : Only O w w') : w.heap.size ≤ w'.heap.size := h.1.size
theorem Only.trans {O O' : List Nat} {a b c : World} (h : Only O a b) (k : Only O' b c) (hO : ∀ x ∈ O', x ∈ O ∨ a.heap.size ≤ x) : Only O a c := by
  refine ⟨h.1.trans k.1, fun x hx hn => ?_⟩
  have := h.size
  rw [k.2 x (by omega) (fun hm => (hO x hm).elim hn (fun h1 => by omega)), h.2 x hx hn]
theorem Only.set {O : List Nat} {a w : World} (h : Only O a w) {p : Addr} (hp : p.block ∈ O ∨ a.heap.size ≤ p.block) (v : Value) : Only O a (w.setCell p v) := by
  refine ⟨h.1.setCell (Nat.zero_le _) v, fun x hx hn => ?_⟩
  rw [Below.heap_setCell _ _ _ _ (fun e => by subst e; exact hp.elim hn (fun h1 => by omega)), h.2 x hx hn]
theorem Only.row {O : List Nat} {a w : World} (h : Only O a w) {g : Nat} (hp : g ∈ O ∨ a.heap.size ≤ g) (cs : Array Value) : Only O a (w.setRow g cs) := by
  refine ⟨h.1.trans ⟨rfl, rfl, rfl, by simp, fun k hk => absurd hk (Nat.not_lt_zero k)⟩, fun x hx hn => ?_⟩
  rw [setRow_other w g x cs (fun e => by subst e; exact hp.elim hn (fun h1 => by omega)), h.2 x hx hn]
theorem Only.alloc {O : List Nat} {a w : World} (h : Only O a w) (o : Obj) : Only O a (w.alloc o) := by
  have := h.size
  exact ⟨h.1.alloc (Nat.zero_le _) o, fun x hx hn => by rw [Below.heap_alloc _ _ _ (by omega), h.2 x hx hn]⟩
theorem below_drewN {B : Nat} {a w : World} (h : Below B a w) (n : Nat) : Below B a (w.drewN n) := ⟨h.os, h.tape, h.output, h.size, h.block⟩
theorem Only.drewN {O : List Nat} {a w : World} (h : Only O a w) (n : Nat) : Only O a (w.drewN n) := ⟨below_drewN h.1 n, fun x hx hn => h.2 x hx hn⟩
theorem Only.drew {O : List Nat} {a w : World} (h : Only O a w) : Only O a w.drew := ⟨h.1.drew, fun x hx hn => h.2 x hx hn⟩
theorem Only.below {O : List Nat} {w w' : World} {B : Nat} (h : Only O w w') (hB : B ≤ w.heap.size) (hO : ∀ k ∈ O, B ≤ k) : Below B w w' :=
  ⟨h.1.os, h.1.tape, h.1.output, h.1.size, fun k hk => h.2 k (by omega) (fun hm => by have := hO k hm; omega)⟩
theorem some_lt {w : World} {k : Nat} {o : Obj} (hk : w.heap[k]? = some o) : k < w.heap.size := by
  rcases Nat.lt_or_ge k w.heap.size with h1 | h1
  · exact h1
  · rw [Array.getElem?_eq_none h1] at hk; cases hk
theorem Only.keep {O : List Nat} {w w' : World} (h : Only O w w') {k : Nat} {o : Obj} (hk : w.heap[k]? = some o) (hn : k ∉ O) : w'.heap[k]? = some o := by
  rw [h.2 k (some_lt hk) hn, hk]
theorem Only.mono {O O' : List Nat} {w w' : World} (h : Only O w w') (hO : ∀ x ∈ O, x ∈ O') : Only O' w w' := ⟨h.1, fun k hk hn => h.2 k hk (fun hm => hn (hO k hm))⟩

theorem wrap_small {x : Int} (h : -9223372036854775808 ≤ x ∧ x ≤ 9223372036854775807) : IntKind.i64.wrap x = x := IntWalk.i64_in _ h
theorem ret_int {x y : Int} (h : x = y) : Ending.returned (.int .i64 x) = .returned (.int .i64 y) := by rw [h]
theorem ret_bool {x y : Bool} (h : x = y) : Ending.returned (.bool x) = .returned (.bool y) := by rw [h]

theorem cell_lt {w : World} {p : Addr} {v : Value} (h : w.cell? p = some v) : p.block < w.heap.size := by
  rcases Nat.lt_or_ge p.block w.heap.size with h1 | h1
  · exact h1
  · simp [World.cell?, Array.getElem?_eq_none h1] at h
theorem cell_past {w : World} {p : Addr} {v : Value} (h : w.cell? p = some v) (o : Obj) : (w.alloc o).cell? p = some v := by
  rw [World.cell?_of_block (w := w) (Below.heap_alloc w o p.block (cell_lt h))]
  exact h
/-- A pair as a value. -/
def scV (x : Sc) : Value := .agg #[.string x.1, .int .i64 x.2]

theorem ret_u {k : IntKind} {a b : Int} (h : a = b) : Ending.returned (.int k a) = .returned (.int k b) := by rw [h]
theorem set_other {w : World} {b i b' i' : Nat} (v : Value) (h : b' ≠ b ∨ i' ≠ i) : (w.setCell ⟨b, i, none⟩ v).cell? ⟨b', i', none⟩ = w.cell? ⟨b', i', none⟩ := by
  refine World.cell?_setCell_other _ _ _ _ (fun e => ?_)
  cases e
  omega
theorem set_frozen {w : World} {b i b' i' : Nat} {C : Array Value} {t : TypeId} (v : Value) (h : w.heap[b']? = some (.cells C t (0, 0))) : (w.setCell ⟨b, i, none⟩ v).frozen? ⟨b', i', none⟩ = false := by
  by_cases e : b' = b
  · subst e
    simp [World.frozen?, Joins.block_setCell h v]
  · simp [World.frozen?, Below.heap_setCell w ⟨b, i, none⟩ v b' e, h]
theorem cell_keep {a b : World} (h : Only [] a b) {p : Addr} {v : Value} (hc : a.cell? p = some v) : b.cell? p = some v := by
  rw [World.cell?_of_block (w := a) (h.2 _ (cell_lt hc) List.not_mem_nil)]
  exact hc
/-- What is written in a new block alone. -/
theorem Only.none_of_new {g : Nat} {w w1 w2 : World} (h1 : Only [] w w1) (h2 : Only [g] w1 w2) (hg : w.heap.size ≤ g) : Only [] w w2 :=
  h1.trans h2 (fun x hx => by obtain rfl := List.mem_singleton.1 hx; exact Or.inr hg)
/-- Behind a pair's copy. -/
theorem boxed1 (w : World) (a : ByteArray) (t : Int) : Only [] w (w.alloc (.cells #[.string a, .int .i64 t] 44)) ∧ (w.alloc (.cells #[.string a, .int .i64 t] 44)).cell? ⟨w.heap.size, 0, none⟩ = some (.string a) ∧ (w.alloc (.cells #[.string a, .int .i64 t] 44)).cell? ⟨w.heap.size, 1, none⟩ = some (.int .i64 t) := by
  have h0 := heap_alloc_new w (.cells #[.string a, .int .i64 t] 44)
  exact ⟨(Only.refl [] w).alloc _, Lib.cell_of_heap h0 0, Lib.cell_of_heap h0 1⟩
theorem sc_ne {a b : Sc} (h : a ≠ b) : (a.1 = b.1 ∧ (a.2 == b.2) = false) ∨ (a.1.toList == b.1.toList) = false := by
  by_cases h1 : a.1 = b.1
  · exact Or.inl ⟨h1, beq_false_of_ne (fun e => h (Prod.ext h1 e))⟩
  · refine Or.inr ?_
    cases hq : (a.1.toList == b.1.toList) with
    | false => rfl
    | true => exact absurd (ba_eq (by simpa using hq)) h1
end Go.Proofs.Ytbaghdfalhlhcaa
