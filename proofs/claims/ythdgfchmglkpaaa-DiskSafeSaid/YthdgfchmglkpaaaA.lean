/-
  What is written and what stays. No condition.
-/
import Derived.Test.YthdgfchmglkpaaaChecked
import Derived.WalkKit
import Derived.WalkSpells
import Derived.WalkLawsBesides
import Derived.Deep.QuietTactic
import Derived.BigQuiet
import Derived.Lib.Hide
import Derived.Lib.SmallJoins
import Derived.Outline
import Derived.OwnWalk
namespace Go.Proofs.Ythdgfchmglkpaaa
open Go.RowKit
/-- Nothing is written but the blocks of a list, and new ones. -/
def Only (O : List Nat) (w w' : World) : Prop := Below 0 w w' ∧ ∀ k, k < w.heap.size → k ∉ O → w'.heap[k]? = w.heap[k]?
theorem Only.refl (O : List Nat) (w : World) : Only O w w := ⟨Below.refl _ _, fun _ _ _ => rfl⟩
theorem Only.size {O : List Nat} {w w' : World} (h : Only O w w') : w.heap.size ≤ w'.heap.size := h.1.size
theorem Only.trans {O O' : List Nat} {a b c : World} (h : Only O a b) (k : Only O' b c) (hO : ∀ x ∈ O', x ∈ O ∨ a.heap.size ≤ x) : Only O a c := by
  refine ⟨h.1.trans k.1, fun x hx hn => ?_⟩
  have := h.size
  rw [k.2 x (by omega) (fun hm => (hO x hm).elim hn (fun h1 => by omega)), h.2 x hx hn]
theorem Only.set {O : List Nat} {a w : World} (h : Only O a w) {p : Addr} (hp : p.block ∈ O ∨ a.heap.size ≤ p.block) (v : Value) : Only O a (w.setCell p v) := by
  refine ⟨h.1.setCell (Nat.zero_le _) v, fun x hx hn => ?_⟩
  rw [Below.heap_setCell _ _ _ _ (fun e => by subst e; exact hp.elim hn (fun h1 => by omega)), h.2 x hx hn]
theorem Only.row {O : List Nat} {a w : World} (h : Only O a w) {g : Nat} (hp : g ∈ O ∨ a.heap.size ≤ g) (cs : Array Value) : Only O a (w.setRow g cs) := by
  refine ⟨h.1.trans ⟨rfl, rfl, rfl, by simp, fun k hk => absurd hk (Nat.not_lt_zero k)⟩, fun x hx hn => ?_⟩
  rw [setRow_other w g x cs (fun e => by subst e; exact hp.elim hn (fun h1 => by omega)), h.2 x hx hn]
theorem Only.alloc {O : List Nat} {a w : World} (h : Only O a w) (o : Obj) : Only O a (w.alloc o) := by
  have := h.size
  exact ⟨h.1.alloc (Nat.zero_le _) o, fun x hx hn => by rw [Below.heap_alloc _ _ _ (by omega), h.2 x hx hn]⟩
theorem below_drewN {B : Nat} {a w : World} (h : Below B a w) (n : Nat) : Below B a (w.drewN n) := ⟨h.os, h.tape, h.output, h.size, h.block⟩
theorem Only.drewN {O : List Nat} {a w : World} (h : Only O a w) (n : Nat) : Only O a (w.drewN n) := ⟨below_drewN h.1 n, fun x hx hn => h.2 x hx hn⟩
theorem Only.drew {O : List Nat} {a w : World} (h : Only O a w) : Only O a w.drew := ⟨h.1.drew, fun x hx hn => h.2 x hx hn⟩
theorem Only.below {O : List Nat} {w w' : World} {B : Nat} (h : Only O w w') (hB : B ≤ w.heap.size) (hO : ∀ k ∈ O, B ≤ k) : Below B w w' :=
  ⟨h.1.os, h.1.tape, h.1.output, h.1.size, fun k hk => h.2 k (by omega) (fun hm => by have := hO k hm; omega)⟩
theorem some_lt {w : World} {k : Nat} {o : Obj} (hk : w.heap[k]? = some o) : k < w.heap.size := by
  rcases Nat.lt_or_ge k w.heap.size with h1 | h1
  · exact h1
  · rw [Array.getElem?_eq_none h1] at hk; cases hk
theorem Only.keep {O : List Nat} {w w' : World} (h : Only O w w') {k : Nat} {o : Obj} (hk : w.heap[k]? = some o) (hn : k ∉ O) : w'.heap[k]? = some o := by
  rw [h.2 k (some_lt hk) hn, hk]
theorem Only.mono {O O' : List Nat} {w w' : World} (h : Only O w w') (hO : ∀ x ∈ O, x ∈ O') : Only O' w w' := ⟨h.1, fun k hk hn => h.2 k hk (fun hm => hn (hO k hm))⟩
theorem wrap_small {x : Int} (h : -9223372036854775808 ≤ x ∧ x ≤ 9223372036854775807) : IntKind.i64.wrap x = x := IntWalk.i64_in _ h
theorem ret_int {x y : Int} (h : x = y) : Ending.returned (.int .i64 x) = .returned (.int .i64 y) := by rw [h]
theorem ret_bool {x y : Bool} (h : x = y) : Ending.returned (.bool x) = .returned (.bool y) := by rw [h]
theorem cell_lt {w : World} {p : Addr} {v : Value} (h : w.cell? p = some v) : p.block < w.heap.size := by
  rcases Nat.lt_or_ge p.block w.heap.size with h1 | h1
  · exact h1
  · simp [World.cell?, Array.getElem?_eq_none h1] at h
theorem cell_past {w : World} {p : Addr} {v : Value} (h : w.cell? p = some v) (o : Obj) : (w.alloc o).cell? p = some v := by
  rw [World.cell?_of_block (w := w) (Below.heap_alloc w o p.block (cell_lt h))]
  exact h
theorem set_other {w : World} {b i b' i' : Nat} (v : Value) (h : b' ≠ b ∨ i' ≠ i) : (w.setCell ⟨b, i, none⟩ v).cell? ⟨b', i', none⟩ = w.cell? ⟨b', i', none⟩ := by
  refine World.cell?_setCell_other _ _ _ _ (fun e => ?_)
  cases e
  omega
theorem ba_eq {a b : ByteArray} (h : a.toList = b.toList) : a = b := by
  rw [Lib.toList_data, Lib.toList_data] at h
  cases a; cases b
  simp only at h
  congr 1
  exact Array.toList_inj.1 h
theorem key_ne {a b : ByteArray} (h : a ≠ b) : (a.toList == b.toList) = false := by
  cases hq : (a.toList == b.toList) with
  | false => rfl
  | true => exact absurd (ba_eq (by simpa using hq)) h
theorem add_block {p : Addr} {j : Nat} : (p.add j).block = p.block := by unfold Addr.add; split <;> rfl
theorem add_zero (g j : Nat) : (⟨g, 0, none⟩ : Addr).add j = ⟨g, j, none⟩ := by unfold Addr.add; split <;> simp_all
theorem info_partsS {P : Program} {t : TypeId} {z : Value} {s b : Nat} (h : (P.info? t).map (fun i => (i.zero, i.size, i.bytes)) = some (some z, s, b)) : ∃ i, P.info? t = some i ∧ i.zero = some z ∧ i.size = s ∧ i.bytes = b := by
  cases hq : P.info? t with
  | none => rw [hq] at h; cases h
  | some i =>
    rw [hq] at h
    simp at h
    exact ⟨i, rfl, h.1, h.2.1, h.2.2⟩
theorem grown_only {w w' : World} {row : Option Nat} (hg : w.grownBy w' row) : Only row.toList w w' :=
  ⟨⟨hg.os, hg.tape, hg.output, hg.size, fun k hk => absurd hk (Nat.not_lt_zero k)⟩, fun k hk hn => hg.block k hk (fun e => hn (by rw [← e]; simp))⟩
end Go.Proofs.Ythdgfchmglkpaaa
