/-
  A ring of nodes in memory; what reads it: Len, Has, Oldest, sparse; a node leaves, a node enters. Premises: a ring as it lies.
-/
import Derived.Test.YtpbmgaipeofpaaaB
import Derived.Deep.CutBlock
import Derived.BigRegion
import Derived.BigQuiet
namespace Go.Proofs.Ytpbmgaipeofpaaa
open Go.RowKit

abbrev Nds := List (Nat × ByteArray)
abbrev blk (bs : Nds) : List Nat := bs.map Prod.fst
abbrev keysN (bs : Nds) : List ByteArray := bs.map Prod.snd
def nodeO (k : ByteArray) (p n : Nat) : Obj := .cells #[.string k, ptr p, ptr n] 73 (0, 0)
def ringO (p n m room : Nat) (wk : Int) : Obj := .cells #[.string ⟨#[]⟩, ptr p, ptr n, .map (some m), .int .i64 (room : Int), .int .i64 wk] 76 (0, 0)
/-- The blocks of a ring: its head g, its nodes; nx tells the one behind, pv the one ahead. -/
structure Raw (w : World) (g m room : Nat) (wk : Int) (bs : Nds) (nx pv : Nat → Nat) : Prop where
  head : w.heap[g]? = some (ringO (pv g) (nx g) m room wk)
  node : ∀ q ∈ bs, w.heap[q.1]? = some (nodeO q.2 (pv q.1) (nx q.1))
variable {w w' : World} {g m room : Nat} {wk : Int} {bs : Nds} {nx pv : Nat → Nat}
theorem blk_cases {bs : Nds} {g p : Nat} (hp : p ∈ g :: blk bs) : p = g ∨ ∃ q ∈ bs, q.1 = p := by
  rcases List.mem_cons.1 hp with h | h
  · exact Or.inl h
  · obtain ⟨q, hq, e⟩ := List.mem_map.1 h
    exact Or.inr ⟨q, hq, e⟩
theorem mem_blk {bs : Nds} {q : Nat × ByteArray} (h : q ∈ bs) : q.1 ∈ blk bs := List.mem_map.2 ⟨q, h, rfl⟩
theorem Raw.lt (h : Raw w g m room wk bs nx pv) {p : Nat} (hp : p ∈ g :: blk bs) : p < w.heap.size := by
  rcases blk_cases hp with rfl | ⟨q, hq, rfl⟩
  · exact some_lt h.head
  · exact some_lt (h.node q hq)
theorem Raw.keep {O : List Nat} (h : Raw w g m room wk bs nx pv) (ho : Only O w w') (hd : ∀ b ∈ g :: blk bs, b ∉ O) : Raw w' g m room wk bs nx pv :=
  ⟨ho.keep h.head (hd g (by simp)), fun q hq => ho.keep (h.node q hq) (hd _ (List.mem_cons_of_mem _ (mem_blk hq)))⟩
theorem Raw.less {bs' : Nds} (h : Raw w g m room wk bs nx pv) (hs : ∀ q ∈ bs', q ∈ bs) : Raw w g m room wk bs' nx pv := ⟨h.head, fun q hq => h.node q (hs q hq)⟩
/-- What can be said of the two cells of links at any place of the ring. -/
theorem Raw.cells (h : Raw w g m room wk bs nx pv) {p : Nat} (hp : p ∈ g :: blk bs) :
    w.cell? ⟨p, 1, none⟩ = some (ptr (pv p)) ∧ w.cell? ⟨p, 2, none⟩ = some (ptr (nx p)) ∧ ∃ C t, w.heap[p]? = some (.cells C t (0, 0)) := by
  rcases blk_cases hp with rfl | ⟨q, hq, rfl⟩
  · exact ⟨Lib.cell_of_heap h.head 1, Lib.cell_of_heap h.head 2, _, _, h.head⟩
  · exact ⟨Lib.cell_of_heap (h.node q hq) 1, Lib.cell_of_heap (h.node q hq) 2, _, _, h.node q hq⟩
theorem set_heap (w : World) (p i : Nat) (v : Value) {k : Nat} (hk : k ≠ p) : (w.setCell ⟨p, i, none⟩ v).heap[k]? = w.heap[k]? := Below.heap_setCell _ ⟨p, i, none⟩ _ _ hk
theorem Raw.setnx (h : Raw w g m room wk bs nx pv) {p : Nat} (n : Nat) : Raw (w.setCell ⟨p, 2, none⟩ (ptr n)) g m room wk bs (upd nx p n) pv := by
  constructor
  · by_cases e : g = p
    · subst e
      rw [upd_at, Joins.block_setCell h.head]
      rfl
    · rw [upd_other _ _ e, set_heap _ _ _ _ e]
      exact h.head
  · intro q hq
    by_cases e : q.1 = p
    · subst e
      rw [upd_at, Joins.block_setCell (h.node q hq)]
      rfl
    · rw [upd_other _ _ e, set_heap _ _ _ _ e]
      exact h.node q hq
theorem Raw.setpv (h : Raw w g m room wk bs nx pv) {p : Nat} (n : Nat) : Raw (w.setCell ⟨p, 1, none⟩ (ptr n)) g m room wk bs nx (upd pv p n) := by
  constructor
  · by_cases e : g = p
    · subst e
      rw [upd_at, Joins.block_setCell h.head]
      rfl
    · rw [upd_other _ _ e, set_heap _ _ _ _ e]
      exact h.head
  · intro q hq
    by_cases e : q.1 = p
    · subst e
      rw [upd_at, Joins.block_setCell (h.node q hq)]
      rfl
    · rw [upd_other _ _ e, set_heap _ _ _ _ e]
      exact h.node q hq
/-- A node's neighbours become neighbours. -/
def leaveW (w : World) (p n : Nat) : World := (w.setCell ⟨p, 2, none⟩ (ptr n)).setCell ⟨n, 1, none⟩ (ptr p)
/-- A node between two neighbours. -/
def enterW (w : World) (b o n : Nat) : World := (((w.setCell ⟨b, 1, none⟩ (ptr o)).setCell ⟨b, 2, none⟩ (ptr n)).setCell ⟨o, 2, none⟩ (ptr b)).setCell ⟨n, 1, none⟩ (ptr b)
theorem leave_run {w : World} {b p n : Nat} {v1 v2 : Value} (c1 : w.cell? ⟨b, 1, none⟩ = some (ptr p)) (c2 : w.cell? ⟨b, 2, none⟩ = some (ptr n)) (d1 : w.cell? ⟨p, 2, none⟩ = some v1) (z1 : w.frozen? ⟨p, 2, none⟩ = false)
    (d2 : ∀ v, (w.setCell ⟨p, 2, none⟩ v).cell? ⟨n, 1, none⟩ = some v2) (z2 : ∀ v, (w.setCell ⟨p, 2, none⟩ v).frozen? ⟨n, 1, none⟩ = false) :
    Calls Try.prog 42 #[ptr b] w fun e w' => e = .returned (.tuple #[]) ∧ ∃ k, w' = (leaveW w p n).drewN k := by
  go_enter Try.func42, Try.ntmps42
  go_region
  all_goals go_wp2
  all_goals go_end0
  all_goals exact ⟨rfl, 1, rfl⟩
theorem enter_run {w : World} {b o n : Nat} {v1 v2 v3 v4 : Value} (c1 : w.cell? ⟨b, 1, none⟩ = some v1) (z1 : w.frozen? ⟨b, 1, none⟩ = false) (z2 : ∀ v, (w.setCell ⟨b, 1, none⟩ v).frozen? ⟨b, 2, none⟩ = false)
    (c2' : ∀ v, (w.setCell ⟨b, 1, none⟩ v).cell? ⟨b, 2, none⟩ = some v2)
    (d1 : ∀ u v, ((w.setCell ⟨b, 1, none⟩ u).setCell ⟨b, 2, none⟩ v).cell? ⟨o, 2, none⟩ = some v3) (y1 : ∀ u v, ((w.setCell ⟨b, 1, none⟩ u).setCell ⟨b, 2, none⟩ v).frozen? ⟨o, 2, none⟩ = false)
    (d2 : ∀ u v x, (((w.setCell ⟨b, 1, none⟩ u).setCell ⟨b, 2, none⟩ v).setCell ⟨o, 2, none⟩ x).cell? ⟨n, 1, none⟩ = some v4) (y2 : ∀ u v x, (((w.setCell ⟨b, 1, none⟩ u).setCell ⟨b, 2, none⟩ v).setCell ⟨o, 2, none⟩ x).frozen? ⟨n, 1, none⟩ = false) :
    Calls Try.prog 43 #[ptr b, ptr o, ptr n] w fun e w' => e = .returned (.tuple #[]) ∧ w' = enterW w b o n := by
  go_enter Try.func43, Try.ntmps43
  go_wp2
  all_goals go_end0
  all_goals exact ⟨rfl, rfl⟩
end Go.Proofs.Ytpbmgaipeofpaaa
