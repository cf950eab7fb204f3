/-
  The walk of Feed. Premises: the Input is such as Feed tells; numbers are small; the library's variable ErrSyntax holds an error, or none.
-/
import Derived.Test.YtjidopgohdlfdaaGreatDoorQL
namespace Go.Proofs.YtjidopgohdlfdaaGreatDoor
open Go.RowKit Dec Pq S4

def bool01 (v : Value) : Nat := match v with
  | .bool true => 1
  | _ => 0
def restAt (w : World) (g : Nat) : Nat := match w.cell? ⟨g, 0, none⟩ with
  | some (.string s) => s.size
  | _ => 0
theorem z_facts {W : World} {b : Nat} (h : W.heap[b]? = some (.cells #[.string ⟨#[]⟩, .slice none 0 0, .int .i64 0, .int .i64 0, .bool false, .int .i64 0, .int .i64 0, .slice none 0 0, .int .i64 0, .int .i64 0, .int .i64 0] 103 (0, 0))) : W.heap[b]? = some (.cells #[.string ⟨#[]⟩, .slice none 0 0, .int .i64 0, .int .i64 0, .bool false, .int .i64 0, .int .i64 0, .slice none 0 0, .int .i64 0, .int .i64 0, .int .i64 0] 103 (0, 0)) ∧ W.cell? ⟨b, 0, none⟩ = some (.string ⟨#[]⟩) ∧ W.cell? ⟨b, 1, none⟩ = some (.slice none 0 0) ∧ W.cell? ⟨b, 2, none⟩ = some (.int .i64 0) ∧ W.cell? ⟨b, 3, none⟩ = some (.int .i64 0) ∧ W.cell? ⟨b, 4, none⟩ = some (.bool false) ∧ W.cell? ⟨b, 5, none⟩ = some (.int .i64 0) ∧ W.cell? ⟨b, 6, none⟩ = some (.int .i64 0) ∧ W.cell? ⟨b, 7, none⟩ = some (.slice none 0 0) ∧ W.cell? ⟨b, 8, none⟩ = some (.int .i64 0) ∧ W.cell? ⟨b, 9, none⟩ = some (.int .i64 0) ∧ W.cell? ⟨b, 10, none⟩ = some (.int .i64 0) ∧ W.frozen? ⟨b, 0, none⟩ = false ∧ W.frozen? ⟨b, 1, none⟩ = false ∧ W.frozen? ⟨b, 2, none⟩ = false ∧ W.frozen? ⟨b, 3, none⟩ = false ∧ W.frozen? ⟨b, 4, none⟩ = false ∧ W.frozen? ⟨b, 5, none⟩ = false ∧ W.frozen? ⟨b, 6, none⟩ = false ∧ W.frozen? ⟨b, 7, none⟩ = false ∧ W.frozen? ⟨b, 8, none⟩ = false ∧ W.frozen? ⟨b, 9, none⟩ = false ∧ W.frozen? ⟨b, 10, none⟩ = false :=
  ⟨h, Lib.cell_of_heap h 0, Lib.cell_of_heap h 1, Lib.cell_of_heap h 2, Lib.cell_of_heap h 3, Lib.cell_of_heap h 4, Lib.cell_of_heap h 5, Lib.cell_of_heap h 6, Lib.cell_of_heap h 7, Lib.cell_of_heap h 8, Lib.cell_of_heap h 9, Lib.cell_of_heap h 10, Lib.frozen_of_heap h 0, Lib.frozen_of_heap h 1, Lib.frozen_of_heap h 2, Lib.frozen_of_heap h 3, Lib.frozen_of_heap h 4, Lib.frozen_of_heap h 5, Lib.frozen_of_heap h 6, Lib.frozen_of_heap h 7, Lib.frozen_of_heap h 8, Lib.frozen_of_heap h 9, Lib.frozen_of_heap h 10⟩
theorem z_alloc {wp W : World} (h : Below (wp.alloc (.cells #[.string ⟨#[]⟩, .slice none 0 0, .int .i64 0, .int .i64 0, .bool false, .int .i64 0, .int .i64 0, .slice none 0 0, .int .i64 0, .int .i64 0, .int .i64 0] 103)).heap.size (wp.alloc (.cells #[.string ⟨#[]⟩, .slice none 0 0, .int .i64 0, .int .i64 0, .bool false, .int .i64 0, .int .i64 0, .slice none 0 0, .int .i64 0, .int .i64 0, .int .i64 0] 103)) W) : W.heap[wp.heap.size]? = some (.cells #[.string ⟨#[]⟩, .slice none 0 0, .int .i64 0, .int .i64 0, .bool false, .int .i64 0, .int .i64 0, .slice none 0 0, .int .i64 0, .int .i64 0, .int .i64 0] 103 (0, 0)) ∧ W.cell? ⟨wp.heap.size, 0, none⟩ = some (.string ⟨#[]⟩) ∧ W.cell? ⟨wp.heap.size, 1, none⟩ = some (.slice none 0 0) ∧ W.cell? ⟨wp.heap.size, 2, none⟩ = some (.int .i64 0) ∧ W.cell? ⟨wp.heap.size, 3, none⟩ = some (.int .i64 0) ∧ W.cell? ⟨wp.heap.size, 4, none⟩ = some (.bool false) ∧ W.cell? ⟨wp.heap.size, 5, none⟩ = some (.int .i64 0) ∧ W.cell? ⟨wp.heap.size, 6, none⟩ = some (.int .i64 0) ∧ W.cell? ⟨wp.heap.size, 7, none⟩ = some (.slice none 0 0) ∧ W.cell? ⟨wp.heap.size, 8, none⟩ = some (.int .i64 0) ∧ W.cell? ⟨wp.heap.size, 9, none⟩ = some (.int .i64 0) ∧ W.cell? ⟨wp.heap.size, 10, none⟩ = some (.int .i64 0) ∧ W.frozen? ⟨wp.heap.size, 0, none⟩ = false ∧ W.frozen? ⟨wp.heap.size, 1, none⟩ = false ∧ W.frozen? ⟨wp.heap.size, 2, none⟩ = false ∧ W.frozen? ⟨wp.heap.size, 3, none⟩ = false ∧ W.frozen? ⟨wp.heap.size, 4, none⟩ = false ∧ W.frozen? ⟨wp.heap.size, 5, none⟩ = false ∧ W.frozen? ⟨wp.heap.size, 6, none⟩ = false ∧ W.frozen? ⟨wp.heap.size, 7, none⟩ = false ∧ W.frozen? ⟨wp.heap.size, 8, none⟩ = false ∧ W.frozen? ⟨wp.heap.size, 9, none⟩ = false ∧ W.frozen? ⟨wp.heap.size, 10, none⟩ = false :=
  z_facts ((h.block _ (by simp)).trans (heap_alloc_new wp _))
theorem z_drew {wp W : World} (h : Below (wp.alloc (.cells #[.string ⟨#[]⟩, .slice none 0 0, .int .i64 0, .int .i64 0, .bool false, .int .i64 0, .int .i64 0, .slice none 0 0, .int .i64 0, .int .i64 0, .int .i64 0] 103)).drew.heap.size (wp.alloc (.cells #[.string ⟨#[]⟩, .slice none 0 0, .int .i64 0, .int .i64 0, .bool false, .int .i64 0, .int .i64 0, .slice none 0 0, .int .i64 0, .int .i64 0, .int .i64 0] 103)).drew W) : W.heap[wp.heap.size]? = some (.cells #[.string ⟨#[]⟩, .slice none 0 0, .int .i64 0, .int .i64 0, .bool false, .int .i64 0, .int .i64 0, .slice none 0 0, .int .i64 0, .int .i64 0, .int .i64 0] 103 (0, 0)) ∧ W.cell? ⟨wp.heap.size, 0, none⟩ = some (.string ⟨#[]⟩) ∧ W.cell? ⟨wp.heap.size, 1, none⟩ = some (.slice none 0 0) ∧ W.cell? ⟨wp.heap.size, 2, none⟩ = some (.int .i64 0) ∧ W.cell? ⟨wp.heap.size, 3, none⟩ = some (.int .i64 0) ∧ W.cell? ⟨wp.heap.size, 4, none⟩ = some (.bool false) ∧ W.cell? ⟨wp.heap.size, 5, none⟩ = some (.int .i64 0) ∧ W.cell? ⟨wp.heap.size, 6, none⟩ = some (.int .i64 0) ∧ W.cell? ⟨wp.heap.size, 7, none⟩ = some (.slice none 0 0) ∧ W.cell? ⟨wp.heap.size, 8, none⟩ = some (.int .i64 0) ∧ W.cell? ⟨wp.heap.size, 9, none⟩ = some (.int .i64 0) ∧ W.cell? ⟨wp.heap.size, 10, none⟩ = some (.int .i64 0) ∧ W.frozen? ⟨wp.heap.size, 0, none⟩ = false ∧ W.frozen? ⟨wp.heap.size, 1, none⟩ = false ∧ W.frozen? ⟨wp.heap.size, 2, none⟩ = false ∧ W.frozen? ⟨wp.heap.size, 3, none⟩ = false ∧ W.frozen? ⟨wp.heap.size, 4, none⟩ = false ∧ W.frozen? ⟨wp.heap.size, 5, none⟩ = false ∧ W.frozen? ⟨wp.heap.size, 6, none⟩ = false ∧ W.frozen? ⟨wp.heap.size, 7, none⟩ = false ∧ W.frozen? ⟨wp.heap.size, 8, none⟩ = false ∧ W.frozen? ⟨wp.heap.size, 9, none⟩ = false ∧ W.frozen? ⟨wp.heap.size, 10, none⟩ = false :=
  z_facts ((h.block wp.heap.size (by show _ < (wp.alloc _).heap.size; simp)).trans (heap_alloc_new wp _))
theorem z_move {wp W : World} {b : Nat} (h : Below wp.heap.size wp W) (hz : wp.heap[b]? = some (.cells #[.string ⟨#[]⟩, .slice none 0 0, .int .i64 0, .int .i64 0, .bool false, .int .i64 0, .int .i64 0, .slice none 0 0, .int .i64 0, .int .i64 0, .int .i64 0] 103 (0, 0))) : W.heap[b]? = some (.cells #[.string ⟨#[]⟩, .slice none 0 0, .int .i64 0, .int .i64 0, .bool false, .int .i64 0, .int .i64 0, .slice none 0 0, .int .i64 0, .int .i64 0, .int .i64 0] 103 (0, 0)) ∧ W.cell? ⟨b, 0, none⟩ = some (.string ⟨#[]⟩) ∧ W.cell? ⟨b, 1, none⟩ = some (.slice none 0 0) ∧ W.cell? ⟨b, 2, none⟩ = some (.int .i64 0) ∧ W.cell? ⟨b, 3, none⟩ = some (.int .i64 0) ∧ W.cell? ⟨b, 4, none⟩ = some (.bool false) ∧ W.cell? ⟨b, 5, none⟩ = some (.int .i64 0) ∧ W.cell? ⟨b, 6, none⟩ = some (.int .i64 0) ∧ W.cell? ⟨b, 7, none⟩ = some (.slice none 0 0) ∧ W.cell? ⟨b, 8, none⟩ = some (.int .i64 0) ∧ W.cell? ⟨b, 9, none⟩ = some (.int .i64 0) ∧ W.cell? ⟨b, 10, none⟩ = some (.int .i64 0) ∧ W.frozen? ⟨b, 0, none⟩ = false ∧ W.frozen? ⟨b, 1, none⟩ = false ∧ W.frozen? ⟨b, 2, none⟩ = false ∧ W.frozen? ⟨b, 3, none⟩ = false ∧ W.frozen? ⟨b, 4, none⟩ = false ∧ W.frozen? ⟨b, 5, none⟩ = false ∧ W.frozen? ⟨b, 6, none⟩ = false ∧ W.frozen? ⟨b, 7, none⟩ = false ∧ W.frozen? ⟨b, 8, none⟩ = false ∧ W.frozen? ⟨b, 9, none⟩ = false ∧ W.frozen? ⟨b, 10, none⟩ = false :=
  z_facts ((h.block _ (heap_lt hz)).trans hz)
theorem hold_new {w0 W2 wm : World} {rest : ByteArray} {a2 : Option Addr} {n c2 left size need A B L : Nat} {body : Bool} {ss : List ByteArray} (ho : W2.ownsRow w0.heap.size 9 1 (.slice a2 n c2) ss.length (strV ss)) (hB : Below w0.heap.size w0 W2) (hb : Below W2.heap.size W2 wm) :
    ∃ g : Nat, Value.pointer (some ⟨wm.heap.size, 0, none⟩) = .pointer (some ⟨g, 0, none⟩) ∧ (wm.alloc (.cells #[.string rest, .slice a2 n c2, .int .i64 left, .int .i64 size, .bool body, .int .i64 need, .int .i64 0, .slice none 0 0, .int .i64 A, .int .i64 B, .int .i64 L] 103)).heap[g]? = some (.cells (hold rest (.slice a2 n c2) left size body need (.slice none 0 0) A B L) 103 (0, 0)) ∧
      Held w0 g (.slice a2 n c2) (.slice none 0 0) ss [] (wm.alloc (.cells #[.string rest, .slice a2 n c2, .int .i64 left, .int .i64 size, .bool body, .int .i64 need, .int .i64 0, .slice none 0 0, .int .i64 A, .int .i64 B, .int .i64 L] 103)) :=
  ⟨_, rfl, heap_alloc_new _ _, Held.first ho hB (hb.alloc hb.size _) hb.size (by simp)⟩
theorem hold_old {w0 W2 wm : World} {g : Nat} {rest : ByteArray} {a2 : Option Addr} {n c2 left size need A B L : Nat} {body : Bool} {ss : List ByteArray} (ho : W2.ownsRow w0.heap.size 9 1 (.slice a2 n c2) ss.length (strV ss)) (hB : Below w0.heap.size w0 W2) (hb : Below W2.heap.size W2 wm)
    (hz : wm.heap[g]? = some (.cells #[.string ⟨#[]⟩, .slice none 0 0, .int .i64 0, .int .i64 0, .bool false, .int .i64 0, .int .i64 0, .slice none 0 0, .int .i64 0, .int .i64 0, .int .i64 0] 103 (0, 0))) (hg : W2.heap.size ≤ g) :
    ∃ g' : Nat, Value.pointer (some ⟨g, 0, none⟩) = .pointer (some ⟨g', 0, none⟩) ∧ ((((((((((((wm.setCell ⟨g, 0, none⟩ (.string rest)).setCell ⟨g, 1, none⟩ (.slice a2 n c2)).setCell ⟨g, 2, none⟩ (.int .i64 left)).setCell ⟨g, 3, none⟩ (.int .i64 size)).setCell ⟨g, 4, none⟩ (.bool body)).setCell ⟨g, 5, none⟩ (.int .i64 need)).setCell ⟨g, 6, none⟩ (.int .i64 0)).setCell ⟨g, 7, none⟩ (.slice none 0 0)).setCell ⟨g, 8, none⟩ (.int .i64 A)).setCell ⟨g, 9, none⟩ (.int .i64 B)).setCell ⟨g, 10, none⟩ (.int .i64 L))).heap[g']? = some (.cells (hold rest (.slice a2 n c2) left size body need (.slice none 0 0) A B L) 103 (0, 0)) ∧
      Held w0 g' (.slice a2 n c2) (.slice none 0 0) ss [] ((((((((((((wm.setCell ⟨g, 0, none⟩ (.string rest)).setCell ⟨g, 1, none⟩ (.slice a2 n c2)).setCell ⟨g, 2, none⟩ (.int .i64 left)).setCell ⟨g, 3, none⟩ (.int .i64 size)).setCell ⟨g, 4, none⟩ (.bool body)).setCell ⟨g, 5, none⟩ (.int .i64 need)).setCell ⟨g, 6, none⟩ (.int .i64 0)).setCell ⟨g, 7, none⟩ (.slice none 0 0)).setCell ⟨g, 8, none⟩ (.int .i64 A)).setCell ⟨g, 9, none⟩ (.int .i64 B)).setCell ⟨g, 10, none⟩ (.int .i64 L))) :=
  ⟨_, rfl, by simp [World.setCell, Array.getElem?_modify, hz, hold], ((((((((((Held.first ho hB hb hg (heap_lt hz)).poke 0 _).poke 1 _).poke 2 _).poke 3 _).poke 4 _).poke 5 _).poke 6 _).poke 7 _).poke 8 _).poke 9 _ |>.poke 10 _⟩
theorem store7 {W : World} {b : Nat} {o0 o1 o2 o3 o4 o5 o6 : Value} (h : W.heap[b]? = some (.cells #[o0, o1, o2, o3, o4, o5, o6] 62 (0, 0))) (v0 v1 v2 v3 v4 v5 v6 : Value) :
    (((((((W.setCell ⟨b, 0, none⟩ v0).setCell ⟨b, 1, none⟩ v1).setCell ⟨b, 2, none⟩ v2).setCell ⟨b, 3, none⟩ v3).setCell ⟨b, 4, none⟩ v4).setCell ⟨b, 5, none⟩ v5).setCell ⟨b, 6, none⟩ v6).heap[b]? = some (.cells #[v0, v1, v2, v3, v4, v5, v6] 62 (0, 0)) ∧ (∀ i, i ≠ b → (((((((W.setCell ⟨b, 0, none⟩ v0).setCell ⟨b, 1, none⟩ v1).setCell ⟨b, 2, none⟩ v2).setCell ⟨b, 3, none⟩ v3).setCell ⟨b, 4, none⟩ v4).setCell ⟨b, 5, none⟩ v5).setCell ⟨b, 6, none⟩ v6).heap[i]? = W.heap[i]?) ∧ (((((((W.setCell ⟨b, 0, none⟩ v0).setCell ⟨b, 1, none⟩ v1).setCell ⟨b, 2, none⟩ v2).setCell ⟨b, 3, none⟩ v3).setCell ⟨b, 4, none⟩ v4).setCell ⟨b, 5, none⟩ v5).setCell ⟨b, 6, none⟩ v6).heap.size = W.heap.size ∧ (∀ B wz, B ≤ b → Below B wz W → Below B wz (((((((W.setCell ⟨b, 0, none⟩ v0).setCell ⟨b, 1, none⟩ v1).setCell ⟨b, 2, none⟩ v2).setCell ⟨b, 3, none⟩ v3).setCell ⟨b, 4, none⟩ v4).setCell ⟨b, 5, none⟩ v5).setCell ⟨b, 6, none⟩ v6)) := by
  refine ⟨by simp [World.setCell, Array.getElem?_modify, h], fun i hi => ?_, by simp, fun B wz hB hb => ?_⟩
  · simp [World.setCell, Array.getElem?_modify, Ne.symm hi]
  · exact ((((((hb.setCell (p := ⟨b, 0, none⟩) hB _).setCell (p := ⟨b, 1, none⟩) hB _).setCell (p := ⟨b, 2, none⟩) hB _).setCell (p := ⟨b, 3, none⟩) hB _).setCell (p := ⟨b, 4, none⟩) hB _).setCell (p := ⟨b, 5, none⟩) hB _).setCell (p := ⟨b, 6, none⟩) hB _
theorem store7d {W : World} {b : Nat} {o0 o1 o2 o3 o4 o5 o6 : Value} (h : W.heap[b]? = some (.cells #[o0, o1, o2, o3, o4, o5, o6] 62 (0, 0))) (v0 v1 v2 v3 v4 v5 v6 : Value) :
    (((((((W.setCell ⟨b, 0, none⟩ v0).setCell ⟨b, 1, none⟩ v1).setCell ⟨b, 2, none⟩ v2).setCell ⟨b, 3, none⟩ v3).setCell ⟨b, 4, none⟩ v4).setCell ⟨b, 5, none⟩ v5).setCell ⟨b, 6, none⟩ v6).drew.heap[b]? = some (.cells #[v0, v1, v2, v3, v4, v5, v6] 62 (0, 0)) ∧ (∀ i, i ≠ b → (((((((W.setCell ⟨b, 0, none⟩ v0).setCell ⟨b, 1, none⟩ v1).setCell ⟨b, 2, none⟩ v2).setCell ⟨b, 3, none⟩ v3).setCell ⟨b, 4, none⟩ v4).setCell ⟨b, 5, none⟩ v5).setCell ⟨b, 6, none⟩ v6).drew.heap[i]? = W.heap[i]?) ∧ W.heap.size ≤ (((((((W.setCell ⟨b, 0, none⟩ v0).setCell ⟨b, 1, none⟩ v1).setCell ⟨b, 2, none⟩ v2).setCell ⟨b, 3, none⟩ v3).setCell ⟨b, 4, none⟩ v4).setCell ⟨b, 5, none⟩ v5).setCell ⟨b, 6, none⟩ v6).drew.heap.size ∧ (∀ B wz, B ≤ b → Below B wz W → Below B wz (((((((W.setCell ⟨b, 0, none⟩ v0).setCell ⟨b, 1, none⟩ v1).setCell ⟨b, 2, none⟩ v2).setCell ⟨b, 3, none⟩ v3).setCell ⟨b, 4, none⟩ v4).setCell ⟨b, 5, none⟩ v5).setCell ⟨b, 6, none⟩ v6).drew) := by
  obtain ⟨k1, k2, k3, k4⟩ := store7 h v0 v1 v2 v3 v4 v5 v6
  generalize (((((((W.setCell ⟨b, 0, none⟩ v0).setCell ⟨b, 1, none⟩ v1).setCell ⟨b, 2, none⟩ v2).setCell ⟨b, 3, none⟩ v3).setCell ⟨b, 4, none⟩ v4).setCell ⟨b, 5, none⟩ v5).setCell ⟨b, 6, none⟩ v6) = W9 at k1 k2 k3 k4 ⊢
  exact ⟨k1, k2, Nat.le_of_eq k3.symm, fun B wz hB hb => Below.drew (k4 B wz hB hb)⟩
/-- How Feed ends. -/
def FeedEnd (w : World) (A n : Nat) (R : Sum Int Inp × List Rq) (e : Ending) (w' : World) : Prop := Below w.heap.size w w' ∧ ∃ (q : List MR) (Aq : Option Addr) (cq : Nat), q.map rq = R.2 ∧ (q = [] → Aq = none → cq = 0) ∧ Rqs w' (fun b => w.heap.size ≤ b) Aq q ∧ q.length ≤ n ∧ match R.1 with
  | .inl k => k ≠ 0 ∧ e = .returned (.tuple #[.agg #[.string ⟨#[]⟩, .slice none 0 0, .int .i64 0, .int .i64 0, .bool false, .int .i64 0, .int .i64 k], .slice Aq q.length cq, .int .i64 k])
  | .inr y => ∃ my a c, MI.inp my = y ∧ MI.Ok A my ∧ q.length + my.size + my.rest.size ≤ n ∧ (my.args = [] → a = none ∧ c = 0) ∧ SOk w' (fun b => w.heap.size ≤ b) a my.args ∧
      e = .returned (.tuple #[.agg #[.string my.rest, .slice a my.args.length c, .int .i64 my.left, .int .i64 my.size, .bool my.body, .int .i64 my.need, .int .i64 0], .slice Aq q.length cq, .int .i64 0])
theorem inp_add (x : MI) (b : ByteArray) : MI.inp ⟨x.rest ++ b, x.args, x.left, x.size, x.body, x.need⟩ = x.inp.add b.data.toList := by
  unfold MI.inp Inp.add
  simp
theorem rd_bel {w0 W : World} {g A B L : Nat} {x : MI} {q : List MR} (h : RD w0 g A B L x q W) : Below w0.heap.size w0 W := by
  obtain ⟨u, v, h1, h2, _⟩ := h
  exact h2.bel
theorem rd_rest {w0 W : World} {g A B L : Nat} {x : MI} {q : List MR} (h : RD w0 g A B L x q W) : restAt W g = x.rest.size := by
  obtain ⟨u, v, h1, h2, _⟩ := h
  unfold restAt
  rw [(hold_facts h1).1]
theorem lim_facts {W : World} {b : Nat} {v0 v1 v2 : Value} (h : W.heap[b]? = some (.cells #[v0, v1, v2] 67 (0, 0))) : W.cell? ⟨b, 0, none⟩ = some v0 ∧ W.cell? ⟨b, 1, none⟩ = some v1 ∧ W.cell? ⟨b, 2, none⟩ = some v2 :=
  ⟨Lib.cell_of_heap h 0, Lib.cell_of_heap h 1, Lib.cell_of_heap h 2⟩
theorem in_facts {W : World} {b : Nat} {v0 v1 v2 v3 v4 v5 v6 : Value} (h : W.heap[b]? = some (.cells #[v0, v1, v2, v3, v4, v5, v6] 62 (0, 0))) :
    W.cell? ⟨b, 0, none⟩ = some v0 ∧ W.cell? ⟨b, 1, none⟩ = some v1 ∧ W.cell? ⟨b, 2, none⟩ = some v2 ∧ W.cell? ⟨b, 3, none⟩ = some v3 ∧ W.cell? ⟨b, 4, none⟩ = some v4 ∧ W.cell? ⟨b, 5, none⟩ = some v5 ∧ W.cell? ⟨b, 6, none⟩ = some v6 ∧
    W.frozen? ⟨b, 0, none⟩ = false ∧ W.frozen? ⟨b, 1, none⟩ = false ∧ W.frozen? ⟨b, 2, none⟩ = false ∧ W.frozen? ⟨b, 3, none⟩ = false ∧ W.frozen? ⟨b, 4, none⟩ = false ∧ W.frozen? ⟨b, 5, none⟩ = false ∧ W.frozen? ⟨b, 6, none⟩ = false :=
  ⟨Lib.cell_of_heap h 0, Lib.cell_of_heap h 1, Lib.cell_of_heap h 2, Lib.cell_of_heap h 3, Lib.cell_of_heap h 4, Lib.cell_of_heap h 5, Lib.cell_of_heap h 6, Lib.frozen_of_heap h 0, Lib.frozen_of_heap h 1, Lib.frozen_of_heap h 2, Lib.frozen_of_heap h 3, Lib.frozen_of_heap h 4, Lib.frozen_of_heap h 5, Lib.frozen_of_heap h 6⟩
set_option maxRecDepth 100000 in
set_option maxHeartbeats 8000000 in
theorem feed_any (x : MI) (a : Option Addr) (c : Nat) (b : ByteArray) (la lb ll : Int) (A B L : Nat) (w : World) (hA : Hid (betw la 1 65536 = A)) (hB : Hid (betw lb 1 1048576 = B)) (hL : Hid (betw ll 1 65536 = L))
    (hA2 : A ≤ 65536) (hB2 : B ≤ 1048576) (hL2 : L ≤ 65536) (hok : x.Ok A) (hsz : x.size + x.rest.size + b.size ≤ 1000000000) (hr : RowIn w a c x.args) (hE : ErrAt w) (hEw : ErrAt w) :
    Calls Tryz.prog 44 #[.agg #[.string x.rest, .slice a x.args.length c, .int .i64 x.left, .int .i64 x.size, .bool x.body, .int .i64 x.need, .int .i64 0], .string b, .agg #[.int .i64 la, .int .i64 lb, .int .i64 ll]] w (FeedEnd w A (x.size + x.rest.size + b.size) (feedF A B L (x.inp.add b.data.toList))) := by
  have hbd : x.args.length ≤ 65536 ∧ x.left ≤ 65536 := by
    by_cases h : x.left = 0
    · rw [(hok.1 h).1]; simp; omega
    · have := hok.2 h; omega
  obtain ⟨hal, hll⟩ := hbd
  have n3 := heap_alloc_new w (.cells #[.string x.rest, .slice a x.args.length c, .int .i64 x.left, .int .i64 x.size, .bool x.body, .int .i64 x.need, .int .i64 0] 62)
  have n5 := heap_alloc_new (w.alloc (.cells #[.string x.rest, .slice a x.args.length c, .int .i64 x.left, .int .i64 x.size, .bool x.body, .int .i64 x.need, .int .i64 0] 62)) (.cells #[.int .i64 la, .int .i64 lb, .int .i64 ll] 67)
  have n6 := heap_alloc_new ((w.alloc (.cells #[.string x.rest, .slice a x.args.length c, .int .i64 x.left, .int .i64 x.size, .bool x.body, .int .i64 x.need, .int .i64 0] 62)).alloc (.cells #[.int .i64 la, .int .i64 lb, .int .i64 ll] 67)) (.cells #[.string ⟨#[]⟩, .slice none 0 0, .int .i64 0, .int .i64 0, .bool false, .int .i64 0, .int .i64 0] 62)
  have n3' := (Lib.alloc_old ((w.alloc (.cells #[.string x.rest, .slice a x.args.length c, .int .i64 x.left, .int .i64 x.size, .bool x.body, .int .i64 x.need, .int .i64 0] 62)).alloc (.cells #[.int .i64 la, .int .i64 lb, .int .i64 ll] 67)) (.cells #[.string ⟨#[]⟩, .slice none 0 0, .int .i64 0, .int .i64 0, .bool false, .int .i64 0, .int .i64 0] 62) w.heap.size (by simp; omega)).trans ((Lib.alloc_old (w.alloc (.cells #[.string x.rest, .slice a x.args.length c, .int .i64 x.left, .int .i64 x.size, .bool x.body, .int .i64 x.need, .int .i64 0] 62)) (.cells #[.int .i64 la, .int .i64 lb, .int .i64 ll] 67) w.heap.size (by simp)).trans n3)
  have n5' := (Lib.alloc_old ((w.alloc (.cells #[.string x.rest, .slice a x.args.length c, .int .i64 x.left, .int .i64 x.size, .bool x.body, .int .i64 x.need, .int .i64 0] 62)).alloc (.cells #[.int .i64 la, .int .i64 lb, .int .i64 ll] 67)) (.cells #[.string ⟨#[]⟩, .slice none 0 0, .int .i64 0, .int .i64 0, .bool false, .int .i64 0, .int .i64 0] 62) (w.heap.size + 1) (by simp)).trans (by simp only [World.size_alloc] at n5; exact n5)
  have n6' : (((w.alloc (.cells #[.string x.rest, .slice a x.args.length c, .int .i64 x.left, .int .i64 x.size, .bool x.body, .int .i64 x.need, .int .i64 0] 62)).alloc (.cells #[.int .i64 la, .int .i64 lb, .int .i64 ll] 67)).alloc (.cells #[.string ⟨#[]⟩, .slice none 0 0, .int .i64 0, .int .i64 0, .bool false, .int .i64 0, .int .i64 0] 62)).heap[w.heap.size + 2]? = some (.cells #[.string ⟨#[]⟩, .slice none 0 0, .int .i64 0, .int .i64 0, .bool false, .int .i64 0, .int .i64 0] 62) := by simp only [World.size_alloc] at n6; exact n6
  have hWs : (((w.alloc (.cells #[.string x.rest, .slice a x.args.length c, .int .i64 x.left, .int .i64 x.size, .bool x.body, .int .i64 x.need, .int .i64 0] 62)).alloc (.cells #[.int .i64 la, .int .i64 lb, .int .i64 ll] 67)).alloc (.cells #[.string ⟨#[]⟩, .slice none 0 0, .int .i64 0, .int .i64 0, .bool false, .int .i64 0, .int .i64 0] 62)).heap.size = w.heap.size + 3 := by simp
  have hWb : Below w.heap.size w (((w.alloc (.cells #[.string x.rest, .slice a x.args.length c, .int .i64 x.left, .int .i64 x.size, .bool x.body, .int .i64 x.need, .int .i64 0] 62)).alloc (.cells #[.int .i64 la, .int .i64 lb, .int .i64 ll] 67)).alloc (.cells #[.string ⟨#[]⟩, .slice none 0 0, .int .i64 0, .int .i64 0, .bool false, .int .i64 0, .int .i64 0] 62)) := (((Below.refl _ _).alloc (Nat.le_refl _) _).alloc (by simp) _).alloc (by simp; omega) _
  clear n3 n5 n6
  go_enter Tryz.func44, Tryz.ntmps44
  go_upto_region 1 with fail
  generalize (((w.alloc (.cells #[.string x.rest, .slice a x.args.length c, .int .i64 x.left, .int .i64 x.size, .bool x.body, .int .i64 x.need, .int .i64 0] 62)).alloc (.cells #[.int .i64 la, .int .i64 lb, .int .i64 ll] 67)).alloc (.cells #[.string ⟨#[]⟩, .slice none 0 0, .int .i64 0, .int .i64 0, .bool false, .int .i64 0, .int .i64 0] 62)) = Wa at n3' n5' n6' hWs hWb ⊢
  have hC := Lib.hid (clone_row a c x.args Wa hal ⟨hr.1, hr.2.on hWb⟩)
  have hEa := Lib.hid (hE.on hWb)
  have hWsH := Lib.hid hWs
  have hWbH := Lib.hid hWb
  have n3H := Lib.hid n3'
  have n5H := Lib.hid n5'
  have n6H := Lib.hid n6'
  obtain ⟨i0, i1, i2, i3, i4, i5, i6, j0, j1, j2, j3, j4, j5, j6⟩ := in_facts n3'
  have hblt : w.heap.size < Wa.heap.size := by omega
  clear n3' n5' n6' hr hE hWb
  go_upto_region 2 with (go_at_call 56; ((with_reducible refine hC.out.mono ?_); rintro e w1 ⟨a2, c2, rfl, hnil, hown1, hb1⟩; have k1 := (hb1.cell (p := ⟨w.heap.size, 1, none⟩) hblt).trans i1; have f1 := (hb1.frozen (p := ⟨w.heap.size, 1, none⟩) hblt).trans j1))
  obtain ⟨w0, hw0⟩ : ∃ w0, w0 = Wa.setCell ⟨w.heap.size, 1, none⟩ (.slice a2 x.args.length c2) := ⟨_, rfl⟩
  have m3 : Hid (w0.heap[w.heap.size]? = some (.cells #[.string x.rest, (.slice a2 x.args.length c2), .int .i64 x.left, .int .i64 x.size, .bool x.body, .int .i64 x.need, .int .i64 0] 62)) := Lib.hid (by rw [hw0]; simp [World.setCell, Array.getElem?_modify, n3H.out])
  have m5 : Hid (w0.heap[w.heap.size + 1]? = some (.cells #[.int .i64 la, .int .i64 lb, .int .i64 ll] 67)) := Lib.hid (by rw [hw0]; simp [World.setCell, Array.getElem?_modify, n5H.out])
  have m6 : Hid (w0.heap[w.heap.size + 2]? = some (.cells #[.string ⟨#[]⟩, .slice none 0 0, .int .i64 0, .int .i64 0, .bool false, .int .i64 0, .int .i64 0] 62)) := Lib.hid (by rw [hw0]; simp [World.setCell, Array.getElem?_modify, n6H.out])
  have hs0 : w0.heap.size = w.heap.size + 3 := by rw [hw0]; simp [hWsH.out]
  have hb0 : Hid (Below w.heap.size w w0) := Lib.hid (by rw [hw0]; exact hWbH.out.setCell (p := ⟨w.heap.size, 1, none⟩) (Nat.le_refl _) _)
  have hE0 : Hid (ErrAt w0) := Lib.hid (by
    obtain ⟨ev, h1, h2⟩ := hEa.out
    refine ⟨ev, ?_, h2⟩
    rw [hw0, World.cell?_setCell_other _ _ _ _ (by have := hEw.lt; simp only [ne_eq, Addr.mk.injEq]; omega)]
    exact h1)
  have hBw : Below w0.heap.size w0 (w1.setCell ⟨w.heap.size, 1, none⟩ (.slice a2 x.args.length c2)) := by
    have := below_poke hb1 ⟨w.heap.size, 1, none⟩ (.slice a2 x.args.length c2)
    rw [← hw0] at this
    rwa [hs0, ← hWsH.out]
  have hown2 : (w1.setCell ⟨w.heap.size, 1, none⟩ (.slice a2 x.args.length c2)).ownsRow w0.heap.size 9 1 (.slice a2 x.args.length c2) x.args.length (strV x.args) := by
    rw [hs0, ← hWsH.out]
    exact hown1.kept (row := some w.heap.size) (grown_poke w1 _ 1 _) (Or.inr fun e => by have := (hown1.lt _ e).1; omega)
  clear hw0 n3H n5H n6H hWsH hWbH hEa hown1 hb1 k1 f1 hC i0 i1 i2 i3 i4 i5 i6 j0 j1 j2 j3 j4 j5 j6 hblt hWs
  generalize w1.setCell ⟨w.heap.size, 1, none⟩ (.slice a2 x.args.length c2) = W2 at hBw hown2 ⊢
  have hBs := hBw.size
  obtain ⟨i0, i1, i2, i3, i4, i5, i6, j0, j1, j2, j3, j4, j5, j6⟩ := in_facts ((hBw.block w.heap.size (by omega)).trans m3.out)
  have hi2 := Lib.hid ((hBw.block w.heap.size (by omega)).trans m3.out)
  have hl2 := Lib.hid ((hBw.block (w.heap.size + 1) (by omega)).trans m5.out)
  obtain ⟨l0, l1, l2⟩ := lim_facts hl2.out
  have hb2H := Lib.hid hBw
  have ho2H := Lib.hid hown2
  have hzero : x.left = 0 → Value.slice a2 x.args.length c2 = .slice none 0 0 ∧ x.size = 0 ∧ x.body = false ∧ x.need = 0 := fun h => by
    obtain ⟨h1, h2, h3, h4⟩ := hok.1 h
    obtain ⟨rfl, rfl⟩ := hnil h1
    rw [h1]
    exact ⟨rfl, h2, h3, h4⟩
  have hnuH : Hid (x.args = [] → Value.slice a2 x.args.length c2 = .slice none 0 0) := Lib.hid fun h => by
    obtain ⟨rfl, rfl⟩ := hnil h
    rw [h]; rfl
  have hS := Lib.hid (fun w => sound_any x.rest (x.rest ++ b) a2 x.args.length c2 x.left x.size x.body x.need w hzero (by omega) (by omega) (by simp; omega))
  have hLm := Lib.hid (limits_any la lb ll)
  rw [hA.out, hB.out, hL.out] at hLm
  have hlt3 : w.heap.size < W2.heap.size := by omega
  have hlt5 : w.heap.size + 1 < W2.heap.size := by omega
  clear hzero hnil
  go_upto_region 5 with fail
  go_cut [10] from 27 to 32 (fun s10 wx => ∃ g : Nat, s10 = .pointer (some ⟨g, 0, none⟩) ∧ wx.heap[g]? = some (.cells (hold (x.rest ++ b) (.slice a2 x.args.length c2) x.left x.size x.body x.need (.slice none 0 0) A B L) 103 (0, 0)) ∧ Held w0 g (.slice a2 x.args.length c2) (.slice none 0 0) x.args [] wx)
  case first =>
    have hSS : ∀ w', Below W2.heap.size W2 w' → (w'.cell? ⟨w.heap.size, 0, none⟩ = some (.string x.rest) ∧ w'.cell? ⟨w.heap.size, 1, none⟩ = some (.slice a2 x.args.length c2) ∧ w'.cell? ⟨w.heap.size, 2, none⟩ = some (.int .i64 x.left) ∧ w'.cell? ⟨w.heap.size, 3, none⟩ = some (.int .i64 x.size) ∧ w'.cell? ⟨w.heap.size, 4, none⟩ = some (.bool x.body) ∧ w'.cell? ⟨w.heap.size, 5, none⟩ = some (.int .i64 x.need) ∧ w'.cell? ⟨w.heap.size, 6, none⟩ = some (.int .i64 0)) ∧ (w'.cell? ⟨w.heap.size + 1, 0, none⟩ = some (.int .i64 la) ∧ w'.cell? ⟨w.heap.size + 1, 1, none⟩ = some (.int .i64 lb) ∧ w'.cell? ⟨w.heap.size + 1, 2, none⟩ = some (.int .i64 ll)) ∧ Below W2.heap.size W2 w' := fun w' hb => by
      obtain ⟨i0, i1, i2, i3, i4, i5, i6, _⟩ := in_facts ((hb.block w.heap.size hlt3).trans hi2.out)
      obtain ⟨l0, l1, l2⟩ := lim_facts ((hb.block (w.heap.size + 1) hlt5).trans hl2.out)
      exact ⟨⟨i0, i1, i2, i3, i4, i5, i6⟩, ⟨l0, l1, l2⟩, hb⟩
    have hSSH := Lib.hid hSS
    have hAL : Hid (∀ (a : World) (o : Obj), Below W2.heap.size W2 a → Below W2.heap.size W2 (a.alloc o)) := Lib.hid fun a o h => h.alloc h.size o
    have hD0 := Lib.hid (Below.drew (Below.refl W2.heap.size W2))
    have hDA : Hid (∀ o, Below W2.heap.size W2 ((W2.alloc o).drew)) := Lib.hid fun o => Below.drew ((Below.refl _ _).alloc (Nat.le_refl _) o)
    clear hSS hok hsz hal hll hEw hs0 hBs
    go_region_with ((first
      | (go_at_call 57; ((with_reducible refine (hS.out _).mono ?_); rintro e wn ⟨rfl, hbn⟩; have hbX : Below W2.heap.size W2 wn := (by first | with_reducible exact onB hD0.out hbn | with_reducible exact onB (hDA.out _) hbn | with_reducible exact onB hbX hbn | with_reducible exact onB (hAL.out _ _ hbX) hbn); obtain ⟨⟨i0, i1, i2, i3, i4, i5, i6⟩, ⟨l0, l1, l2⟩, _⟩ := hSSH.out _ hbX; have hq3 := Nat.lt_of_lt_of_le hlt3 hbX.size; have hq5 := Nat.lt_of_lt_of_le hlt5 hbX.size; have hgn : W2.heap.size ≤ wn.heap.size := hbX.size; first | ((with_reducible have hq := z_alloc hbn); obtain ⟨hz, y0, y1, y2, y3, y4, y5, y6, y7, y8, y9, y10, z0, z1, z2, z3, z4, z5, z6, z7, z8, z9, z10⟩ := hq) | ((with_reducible have hq := z_drew hbn); obtain ⟨hz, y0, y1, y2, y3, y4, y5, y6, y7, y8, y9, y10, z0, z1, z2, z3, z4, z5, z6, z7, z8, z9, z10⟩ := hq) | ((with_reducible have hq := z_move hbn hz); obtain ⟨hz, y0, y1, y2, y3, y4, y5, y6, y7, y8, y9, y10, z0, z1, z2, z3, z4, z5, z6, z7, z8, z9, z10⟩ := hq) | skip))
      | (go_at_call 58; ((with_reducible refine (hLm.out _).mono ?_); rintro e wm ⟨rfl, hbm⟩; have hbX : Below W2.heap.size W2 wm := (by first | with_reducible exact onB hD0.out hbm | with_reducible exact onB (hDA.out _) hbm | with_reducible exact onB hbX hbm | with_reducible exact onB (hAL.out _ _ hbX) hbm); obtain ⟨⟨i0, i1, i2, i3, i4, i5, i6⟩, ⟨l0, l1, l2⟩, _⟩ := hSSH.out _ hbX; have hq3 := Nat.lt_of_lt_of_le hlt3 hbX.size; have hq5 := Nat.lt_of_lt_of_le hlt5 hbX.size; have hgm : W2.heap.size ≤ wm.heap.size := hbX.size; first | ((with_reducible have hq := z_alloc hbm); obtain ⟨hz, y0, y1, y2, y3, y4, y5, y6, y7, y8, y9, y10, z0, z1, z2, z3, z4, z5, z6, z7, z8, z9, z10⟩ := hq) | ((with_reducible have hq := z_drew hbm); obtain ⟨hz, y0, y1, y2, y3, y4, y5, y6, y7, y8, y9, y10, z0, z1, z2, z3, z4, z5, z6, z7, z8, z9, z10⟩ := hq) | ((with_reducible have hq := z_move hbm hz); obtain ⟨hz, y0, y1, y2, y3, y4, y5, y6, y7, y8, y9, y10, z0, z1, z2, z3, z4, z5, z6, z7, z8, z9, z10⟩ := hq) | skip))))
    all_goals go_wp2_with fail
    all_goals go_meet
    all_goals first
      | with_reducible exact hold_new ho2H.out hb2H.out hbX
      | with_reducible exact hold_old ho2H.out hb2H.out hbX hz hgn
      | with_reducible exact hold_old ho2H.out hb2H.out hbX hz hgm
      | with_reducible exact hold_old ho2H.out hb2H.out hbX hz (Nat.le_refl _)
  case rest =>
    obtain ⟨g, rfl, hh, hH⟩ := hcut
    clear hi2 hl2 hS hLm hlt3 hlt5 i0 i1 i2 i3 i4 i5 i6 j0 j1 j2 j3 j4 j5 j6 l0 l1 l2 hb2H ho2H hBs hBw hown2
    have hR : RD w0 g A B L ⟨x.rest ++ b, x.args, x.left, x.size, x.body, x.need⟩ [] wc := ⟨_, _, hh, hH, hnuH⟩
    clear hh hH
    go_wp2_with fail
    obtain ⟨F, hF⟩ : ∃ F, F = feedF A B L (MI.inp ⟨x.rest ++ b, x.args, x.left, x.size, x.body, x.need⟩) := ⟨_, rfl⟩
    have hcs : (x.rest ++ b).size = x.rest.size + b.size := by simp
    have hE3 : ∀ wr, Below w0.heap.size w0 wr → ErrAt wr := fun wr hb => by
      obtain ⟨ev, h1, h2⟩ := hE0.out
      exact ⟨ev, (hb.cell (p := ⟨7, 0, none⟩) hE0.out.lt).trans h1, h2⟩
    have hE3H := Lib.hid hE3
    have hok1 : MI.Ok A ⟨x.rest ++ b, x.args, x.left, x.size, x.body, x.need⟩ := hok
    have hFs : F = ((feedF A B L (MI.inp ⟨x.rest ++ b, x.args, x.left, x.size, x.body, x.need⟩)).1, ([] : List MR).map rq ++ (feedF A B L (MI.inp ⟨x.rest ++ b, x.args, x.left, x.size, x.body, x.need⟩)).2) := by rw [hF]; rfl
    have hFsH := Lib.hid hFs
    have hFH := Lib.hid hF
    have hRH := Lib.hid hR
    have hokH := Lib.hid hok1
    have hn0 : ([] : List MR).length + x.size + (x.rest ++ b).size ≤ x.size + x.rest.size + b.size := by simp; omega
    clear hFs hF hE3 hok1 hok hR
    go_loopw [11, 12] (fun m _ wr => ∃ (y : MI) (q : List MR) (mb : Bool), m = .bool mb ∧ Hid (RD w0 g A B L y q wr) ∧ Hid (MI.Ok A y) ∧ q.length + y.size + y.rest.size ≤ x.size + x.rest.size + b.size ∧ y.rest.size ≤ (x.rest ++ b).size ∧ Hid (F = ((feedF A B L y.inp).1, q.map rq ++ (feedF A B L y.inp).2)) ∧ Hid (mb = false → stepF A B L y.inp = .inl (-1))) (fun m _ wr => bool01 m + restAt wr g)
    case atStart => exact ⟨⟨x.rest ++ b, x.args, x.left, x.size, x.body, x.need⟩, [], true, rfl, hRH, hokH, hn0, Nat.le_refl _, hFsH, Lib.hid (fun h => by cases h)⟩
    case round =>
      clear hRH hokH hFsH hn0
      obtain ⟨y, q, mb, rfl, hR, hok, hn, hrs, hFe, hst⟩ := hrel
      have hbel := rd_bel hR.out
      have hra := rd_rest hR.out
      cases mb with
      | true =>
        have hS := Lib.hid (step_any hR.out hok.out (by unfold Small; omega) hA2 hB2 hL2 (hE3H.out _ hbel))
        cases hs : stepF A B L y.inp with
        | inl k =>
          rw [hs] at hS
          by_cases hk : k = -1
          · subst hk
            have hstH := Lib.hid hs
            clear hs hst hbel
            go_wp2_with (go_at_call 59; ((with_reducible refine hS.out.mono ?_); rintro e w' ⟨hR2, rfl⟩; have hR2H := Lib.hid hR2; clear hR2))
            go_roundw
            case rel => exact ⟨y, q, false, rfl, hR2H, hok, hn, hrs, hFe, Lib.hid fun _ => hstH.out⟩
            case measure => rw [hra, rd_rest hR2H.out]; simp [bool01]
          · have hkp : 0 < k := (step_err hs).resolve_left hk
            have hk0 : (k != 0) = true := bne_iff_ne.2 (by omega)
            have hkz : k ≠ 0 := by omega
            have hS2 := Lib.hid (show Calls Tryz.prog 59 #[.pointer (some ⟨g, 0, none⟩)] wr fun e w' => RD w0 g A B L y q w' ∧ e = .returned (.tuple #[.bool false, .int .i64 k]) from hS.out.mono fun e w' h => ⟨h.1, by rw [h.2, if_neg hk]⟩)
            have hfd := Lib.hid (feed_dead hs hk)
            clear hs hst hbel hS
            go_upto_region 11 with (go_at_call 59; ((with_reducible refine hS2.out.mono ?_); rintro e w' ⟨hR2, rfl⟩; have hR2H := Lib.hid hR2; clear hR2))
            obtain ⟨u, v, hh2, hH2, hnu2⟩ := hR2H.out
            obtain ⟨Aq, cq, rfl, hq0, hrq⟩ := hH2.rqs
            obtain ⟨c0, c1, c2', c3, c4, c5, c6, c7, c8, c9, c10, f0, f1, f2, f3, f4, f5, f6, f7⟩ := hold_facts hh2
            have hm6 := (hH2.bel.block (w.heap.size + 1 + 1) (by omega)).trans m6.out
            obtain ⟨i0, i1, i2, i3, i4, i5, i6, j0, j1, j2, j3, j4, j5, j6⟩ := in_facts hm6
            have hm6H := Lib.hid hm6
            have hbeH := Lib.hid (hb0.out.trans (hH2.bel.mono (by omega)))
            have hrqH := Lib.hid hrq
            have hq0H := Lib.hid hq0
            clear hm6 hrq hq0 hh2 hH2
            go_region
            all_goals go_wp2_with fail
            all_goals (
              have hm6 := hm6H.out
              obtain ⟨k1, k2, k3, k4⟩ := store7d hm6 (.string ⟨#[]⟩) (.slice none 0 0) (.int .i64 0) (.int .i64 0) (.bool false) (.int .i64 0) (.int .i64 k)
              have k4' := k4 w.heap.size w (by omega) hbeH.out
              have hrq9 := hrqH.out.keep (ok' := fun b => w.heap.size ≤ b) (fun i hi _ => k2 i (fun e => by have : w0.heap.size ≤ i := hi; omega)) k3 (fun i hi _ => by have : w0.heap.size ≤ i := hi; omega)
              clear k2 k3 k4 hm6
              generalize (((((((w'.setCell ⟨w.heap.size + 1 + 1, 0, none⟩ (.string ⟨#[]⟩)).setCell ⟨w.heap.size + 1 + 1, 1, none⟩ (.slice none 0 0)).setCell ⟨w.heap.size + 1 + 1, 2, none⟩ (.int .i64 0)).setCell ⟨w.heap.size + 1 + 1, 3, none⟩ (.int .i64 0)).setCell ⟨w.heap.size + 1 + 1, 4, none⟩ (.bool false)).setCell ⟨w.heap.size + 1 + 1, 5, none⟩ (.int .i64 0)).setCell ⟨w.heap.size + 1 + 1, 6, none⟩ (.int .i64 k)).drew = w9 at k1 k4' hrq9 ⊢
              obtain ⟨d0, d1, d2, d3, d4, d5, d6, _⟩ := in_facts k1
              clear c0 c1 c2' c3 c4 c5 c6 c7 c8 c9 c10 f0 f1 f2 f3 f4 f5 f6 f7 i0 i1 i2 i3 i4 i5 i6 j0 j1 j2 j3 j4 j5 j6
              refine bodyPost_ret (v := .tuple #[.agg #[.string ⟨#[]⟩, .slice none 0 0, .int .i64 0, .int .i64 0, .bool false, .int .i64 0, .int .i64 k], .slice Aq q.length cq, .int .i64 k]) (by simp [results, Tryz.results44, go_sem, d0, d1, d2, d3, d4, d5, d6]) rfl ?_
              have hFF : feedF A B L (x.inp.add b.data.toList) = (.inl k, q.map rq) := by
                have e := hFH.out
                rw [hFe.out, hfd.out, List.append_nil] at e
                rw [← inp_add, ← e]
              rw [hFF]
              exact ⟨k4', q, Aq, cq, rfl, hq0H.out, hrq9, by omega, hkz, rfl⟩)
        | inr p =>
          obtain ⟨z, r⟩ := p
          rw [hs] at hS
          have hnx := Lib.hid (feed_next hs)
          have hlt := step_lt hs
          clear hs hst hbel
          go_wp2_with (go_at_call 59; ((with_reducible refine hS.out.mono ?_); rintro e w' ⟨my, mr, hmy, hmr, hmok, hmn, hR2, rfl⟩; have hR2H := Lib.hid hR2; have hmyH := Lib.hid hmy; have hmrH := Lib.hid hmr; have hmokH := Lib.hid hmok; clear hR2 hmy hmr hmok))
          have hlt2 : my.rest.size < y.rest.size := by
            have e := hmyH.out
            rw [← e] at hlt
            have e1 : my.inp.rest.length = my.rest.size := size_len _
            have e2 : y.inp.rest.length = y.rest.size := size_len _
            omega
          go_roundw
          case rel => exact ⟨my, q ++ mr, true, rfl, hR2H, hmokH, by omega, by omega, Lib.hid (by rw [hFe.out, hnx.out, List.map_append, hmrH.out, hmyH.out, List.append_assoc]), Lib.hid fun h => by cases h⟩
          case measure => rw [hra, rd_rest hR2H.out]; simp [bool01]; omega
      | false =>
        by_cases hlen : y.rest.size < (x.rest ++ b).size
        · have hcl := Lib.hid (fun w => clone_any y.rest w (by omega))
          obtain ⟨u0, v0, hh0, hH0, hnu0⟩ := hR.out
          obtain ⟨b0, b1, b2, b3, b4, b5, b6, b7, b8, b9, b10, g0, g1, g2, g3, g4, g5, g6, g7⟩ := hold_facts hh0
          have hglt := hH0.lt
          have hhH0 := Lib.hid hh0
          have hHH0 := Lib.hid hH0
          clear hh0 hH0
          go_upto_region 14 with (go_at_call 60; ((with_reducible refine (hcl.out _).mono ?_); rintro e w5 ⟨rfl, hb5⟩; have q0 := (hb5.cell (p := ⟨g, 0, none⟩) hglt).trans b0; have p0 := (hb5.frozen (p := ⟨g, 0, none⟩) hglt).trans g0))
          have hR2 : RD w0 g A B L y q (w5.setCell ⟨g, 0, none⟩ (.string y.rest)) := by
            have h5 := (hb5.block g hglt).trans hhH0.out
            exact ⟨u0, v0, by simp [World.setCell, Array.getElem?_modify, h5, hold], (hHH0.out.on hb5).poke 0 _, hnu0⟩
          clear b0 b1 b2 b3 b4 b5 b6 b7 b8 b9 b10 g0 g1 g2 g3 g4 g5 g6 g7 q0 p0 hb5 hhH0 hHH0
          generalize w5.setCell ⟨g, 0, none⟩ (.string y.rest) = W5 at hR2 ⊢
          have hR2H := Lib.hid hR2
          clear hR2
          have hpart : True := trivial
          obtain ⟨u, v, hh2, hH2, hnu2⟩ := hR2H.out
          obtain ⟨Aq, cq, rfl, hq0, hrq⟩ := hH2.rqs
          obtain ⟨a9, c9, rfl, hc9, hs9⟩ := own_sok hH2.args
          obtain ⟨c0, c1, c2', c3, c4, c5, c6, c7, c8, c9', c10, f0, f1, f2, f3, f4, f5, f6, f7⟩ := hold_facts hh2
          have hm6 := (hH2.bel.block (w.heap.size + 1 + 1) (by omega)).trans m6.out
          obtain ⟨i0, i1, i2, i3, i4, i5, i6, j0, j1, j2, j3, j4, j5, j6⟩ := in_facts hm6
          have hm6H := Lib.hid hm6
          have hbeH := Lib.hid (hb0.out.trans (hH2.bel.mono (by omega)))
          have hrqH := Lib.hid hrq
          have hq0H := Lib.hid hq0
          have hs9H := Lib.hid (hs9.keep (W' := W5) (ok' := fun b => w0.heap.size ≤ b) (fun _ _ _ => rfl) (Nat.le_refl _) (fun i hi _ => (hH2.args.lt i hi).1))
          clear hm6 hrq hq0 hh2 hH2 hs9
          go_region
          all_goals go_wp2_with fail
          all_goals (
            have hm6 := hm6H.out
            obtain ⟨k1, k2, k3, k4⟩ := store7d hm6 (.string y.rest) (.slice a9 y.args.length c9) (.int .i64 y.left) (.int .i64 y.size) (.bool y.body) (.int .i64 y.need) (.int .i64 0)
            have k4' := k4 w.heap.size w (by omega) hbeH.out
            have hrq9 := hrqH.out.keep (ok' := fun b => w.heap.size ≤ b) (fun i hi _ => k2 i (fun e => by have : w0.heap.size ≤ i := hi; omega)) k3 (fun i hi _ => by have : w0.heap.size ≤ i := hi; omega)
            have hs99 := hs9H.out.keep (ok' := fun b => w.heap.size ≤ b) (fun i hi _ => k2 i (fun e => by have : w0.heap.size ≤ i := hi; omega)) k3 (fun i hi _ => by have : w0.heap.size ≤ i := hi; omega)
            clear k2 k3 k4 hm6
            generalize (((((((W5.setCell ⟨w.heap.size + 1 + 1, 0, none⟩ (.string y.rest)).setCell ⟨w.heap.size + 1 + 1, 1, none⟩ (.slice a9 y.args.length c9)).setCell ⟨w.heap.size + 1 + 1, 2, none⟩ (.int .i64 y.left)).setCell ⟨w.heap.size + 1 + 1, 3, none⟩ (.int .i64 y.size)).setCell ⟨w.heap.size + 1 + 1, 4, none⟩ (.bool y.body)).setCell ⟨w.heap.size + 1 + 1, 5, none⟩ (.int .i64 y.need)).setCell ⟨w.heap.size + 1 + 1, 6, none⟩ (.int .i64 0)).drew = w9 at k1 k4' hrq9 hs99 ⊢
            obtain ⟨d0, d1, d2, d3, d4, d5, d6, _⟩ := in_facts k1
            clear c0 c1 c2' c3 c4 c5 c6 c7 c8 c9' c10 f0 f1 f2 f3 f4 f5 f6 f7 i0 i1 i2 i3 i4 i5 i6 j0 j1 j2 j3 j4 j5 j6
            refine bodyPost_ret (v := .tuple #[.agg #[.string y.rest, .slice a9 y.args.length c9, .int .i64 y.left, .int .i64 y.size, .bool y.body, .int .i64 y.need, .int .i64 0], .slice Aq q.length cq, .int .i64 0]) (by simp [results, Tryz.results44, go_sem, d0, d1, d2, d3, d4, d5, d6]) rfl ?_
            have hFF : feedF A B L (x.inp.add b.data.toList) = (.inr y.inp, q.map rq) := by
              have e := hFH.out
              rw [hFe.out, feed_stop (hst.out (by first | rfl | trivial)), List.append_nil] at e
              rw [← inp_add, ← e]
            rw [hFF]
            exact ⟨k4', q, Aq, cq, rfl, hq0H.out, hrq9, by omega, y, a9, c9, rfl, hok.out, hn, fun h => by have h2 := hnu2.out h; simp only [Value.slice.injEq] at h2; exact ⟨h2.1, h2.2.2⟩, hs99, rfl⟩)
        · have hR2H := hR
          obtain ⟨W5, hW5⟩ : ∃ W5, W5 = wr := ⟨_, rfl⟩
          obtain ⟨u0, v0, hh0, hH0, hnu0⟩ := hR.out
          obtain ⟨b0, b1, b2, b3, b4, b5, b6, b7, b8, b9, b10, g0, g1, g2, g3, g4, g5, g6, g7⟩ := hold_facts hh0
          clear hh0 hH0
          go_upto_region 14 with fail
          clear b0 b1 b2 b3 b4 b5 b6 b7 b8 b9 b10 g0 g1 g2 g3 g4 g5 g6 g7
          subst hW5
          have hpart : True := trivial
          obtain ⟨u, v, hh2, hH2, hnu2⟩ := hR2H.out
          obtain ⟨Aq, cq, rfl, hq0, hrq⟩ := hH2.rqs
          obtain ⟨a9, c9, rfl, hc9, hs9⟩ := own_sok hH2.args
          obtain ⟨c0, c1, c2', c3, c4, c5, c6, c7, c8, c9', c10, f0, f1, f2, f3, f4, f5, f6, f7⟩ := hold_facts hh2
          have hm6 := (hH2.bel.block (w.heap.size + 1 + 1) (by omega)).trans m6.out
          obtain ⟨i0, i1, i2, i3, i4, i5, i6, j0, j1, j2, j3, j4, j5, j6⟩ := in_facts hm6
          have hm6H := Lib.hid hm6
          have hbeH := Lib.hid (hb0.out.trans (hH2.bel.mono (by omega)))
          have hrqH := Lib.hid hrq
          have hq0H := Lib.hid hq0
          have hs9H := Lib.hid (hs9.keep (W' := W5) (ok' := fun b => w0.heap.size ≤ b) (fun _ _ _ => rfl) (Nat.le_refl _) (fun i hi _ => (hH2.args.lt i hi).1))
          clear hm6 hrq hq0 hh2 hH2 hs9
          go_region
          all_goals go_wp2_with fail
          all_goals (
            have hm6 := hm6H.out
            obtain ⟨k1, k2, k3, k4⟩ := store7d hm6 (.string y.rest) (.slice a9 y.args.length c9) (.int .i64 y.left) (.int .i64 y.size) (.bool y.body) (.int .i64 y.need) (.int .i64 0)
            have k4' := k4 w.heap.size w (by omega) hbeH.out
            have hrq9 := hrqH.out.keep (ok' := fun b => w.heap.size ≤ b) (fun i hi _ => k2 i (fun e => by have : w0.heap.size ≤ i := hi; omega)) k3 (fun i hi _ => by have : w0.heap.size ≤ i := hi; omega)
            have hs99 := hs9H.out.keep (ok' := fun b => w.heap.size ≤ b) (fun i hi _ => k2 i (fun e => by have : w0.heap.size ≤ i := hi; omega)) k3 (fun i hi _ => by have : w0.heap.size ≤ i := hi; omega)
            clear k2 k3 k4 hm6
            generalize (((((((W5.setCell ⟨w.heap.size + 1 + 1, 0, none⟩ (.string y.rest)).setCell ⟨w.heap.size + 1 + 1, 1, none⟩ (.slice a9 y.args.length c9)).setCell ⟨w.heap.size + 1 + 1, 2, none⟩ (.int .i64 y.left)).setCell ⟨w.heap.size + 1 + 1, 3, none⟩ (.int .i64 y.size)).setCell ⟨w.heap.size + 1 + 1, 4, none⟩ (.bool y.body)).setCell ⟨w.heap.size + 1 + 1, 5, none⟩ (.int .i64 y.need)).setCell ⟨w.heap.size + 1 + 1, 6, none⟩ (.int .i64 0)).drew = w9 at k1 k4' hrq9 hs99 ⊢
            obtain ⟨d0, d1, d2, d3, d4, d5, d6, _⟩ := in_facts k1
            clear c0 c1 c2' c3 c4 c5 c6 c7 c8 c9' c10 f0 f1 f2 f3 f4 f5 f6 f7 i0 i1 i2 i3 i4 i5 i6 j0 j1 j2 j3 j4 j5 j6
            refine bodyPost_ret (v := .tuple #[.agg #[.string y.rest, .slice a9 y.args.length c9, .int .i64 y.left, .int .i64 y.size, .bool y.body, .int .i64 y.need, .int .i64 0], .slice Aq q.length cq, .int .i64 0]) (by simp [results, Tryz.results44, go_sem, d0, d1, d2, d3, d4, d5, d6]) rfl ?_
            have hFF : feedF A B L (x.inp.add b.data.toList) = (.inr y.inp, q.map rq) := by
              have e := hFH.out
              rw [hFe.out, feed_stop (hst.out (by first | rfl | trivial)), List.append_nil] at e
              rw [← inp_add, ← e]
            rw [hFF]
            exact ⟨k4', q, Aq, cq, rfl, hq0H.out, hrq9, by omega, y, a9, c9, rfl, hok.out, hn, fun h => by have h2 := hnu2.out h; simp only [Value.slice.injEq] at h2; exact ⟨h2.1, h2.2.2⟩, hs99, rfl⟩)
end Go.Proofs.YtjidopgohdlfdaaGreatDoor
