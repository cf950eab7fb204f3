/-
  The walk that puts an entry ahead of all others at its place; what the table is then. No condition but the sizes that places have.
-/
import Derived.Test.YtdldgiicblmknaaDoorHD
namespace Go.Proofs.YtdldgiicblmknaaDoor
open Go.RowKit

theorem set_cell_other (w : World) (p q : Addr) (v : Value) (h : q.block ≠ p.block) : (w.setCell p v).cell? q = w.cell? q := World.cell?_of_block (w := w) (Below.heap_setCell w p v q.block h)
theorem set_frozen_other (w : World) (p q : Addr) (v : Value) (h : q.block ≠ p.block) : (w.setCell p v).frozen? q = w.frozen? q := World.frozen?_of_block (w := w) (Below.heap_setCell w p v q.block h)

set_option maxHeartbeats 1000000 in
theorem hput_raw (b n k M : Nat) (c : List En) (e : En) (q : Option Addr) (H : Nat) (w : World) (hcl : w.cell? ⟨b, M, none⟩ = some (.pointer (hd c))) (hfz : w.frozen? ⟨b, M, none⟩ = false) (he : w.heap[e.1]? = some (entry e q)) (hne : b ≠ e.1) (hsz : SzOk n k) (hpos : 0 < n) (hH : H < 18446744073709551616) (hM : H % n = M) :
    Calls Tryd.prog 45 #[.slice (some ⟨b, 0, none⟩) n n, .pointer (some ⟨e.1, 0, none⟩), .int .u64 (H : Int)] w fun r w' => r = .returned (.tuple #[]) ∧ w' = (w.setCell ⟨e.1, 2, none⟩ (.pointer (hd c))).setCell ⟨b, M, none⟩ (.pointer (some ⟨e.1, 0, none⟩)) := by
  obtain ⟨e0, e1, e2, f0, f1, f2⟩ := entry_facts he
  have hpc := Lib.hid (fun w => hplace_any b n k hsz hpos H hH w)
  rw [hM] at hpc
  have g1 := fun v => (set_cell_other w ⟨e.1, 2, none⟩ ⟨b, M, none⟩ v hne).trans hcl
  have g2 := fun v => (set_frozen_other w ⟨e.1, 2, none⟩ ⟨b, M, none⟩ v hne).trans hfz
  clear he hsz hpos hM
  go_enter Tryd.func45, Tryd.ntmps45
  go_wp2_with (go_at_call 61; ((with_reducible refine (hpc.out _).mono ?_); rintro e w' ⟨rfl, rfl⟩))
  go_end0
  exact ⟨rfl, rfl⟩

theorem pl_set {w : World} {b : Nat} {l : List (List En)} (h : w.heap[b]? = some (plObj l)) (M : Nat) (c : List En) : (w.setCell ⟨b, M, none⟩ (.pointer (hd c))).heap[b]? = some (plObj (l.set M c)) := by
  have := Joins.block_setCell (i := M) h (.pointer (hd c))
  rw [this]
  unfold plObj
  rw [List.map_set]
  simp
theorem entry_next {w : World} {e : En} {q : Option Addr} (h : w.heap[e.1]? = some (entry e q)) (q' : Option Addr) : (w.setCell ⟨e.1, 2, none⟩ (.pointer q')).heap[e.1]? = some (entry e q') := by
  unfold entry at h
  rw [Joins.block_setCell (i := 2) h (.pointer q')]
  rfl
theorem entry_value {w : World} {e : En} {q : Option Addr} (h : w.heap[e.1]? = some (entry e q)) (v : Int) : (w.setCell ⟨e.1, 1, none⟩ (.int .i64 v)).heap[e.1]? = some (entry (e.1, e.2.1, v) q) := by
  unfold entry at h
  rw [Joins.block_setCell (i := 1) h (.int .i64 v)]
  rfl

theorem hput_any (b k : Nat) (l : List (List En)) (c : List En) (e : En) (q : Option Addr) (H : Nat) (w : World) (hpl : w.heap[b]? = some (plObj l)) (he : w.heap[e.1]? = some (entry e q)) (hne : b ≠ e.1) (hsz : SzOk l.length k) (hpos : 0 < l.length) (hH : H < 18446744073709551616) (hc : l[H % l.length]? = some c) :
    Calls Tryd.prog 45 #[.slice (some ⟨b, 0, none⟩) l.length l.length, .pointer (some ⟨e.1, 0, none⟩), .int .u64 (H : Int)] w fun r w' => r = .returned (.tuple #[]) ∧ Only [e.1, b] w w' ∧ w'.heap[e.1]? = some (entry e (hd c)) ∧ w'.heap[b]? = some (plObj (l.set (H % l.length) (e :: c))) := by
  obtain ⟨hcl, hfz⟩ := pl_cell hpl hc
  refine (hput_raw b l.length k (H % l.length) c e q H w hcl hfz he hne hsz hpos hH rfl).mono ?_
  rintro r w' ⟨rfl, rfl⟩
  refine ⟨rfl, (((Only.refl [e.1, b] w).set (p := ⟨e.1, 2, none⟩) (Or.inl (by simp)) _).set (p := ⟨b, _, none⟩) (Or.inl (by simp)) _), ?_, ?_⟩
  · rw [Below.heap_setCell _ _ _ _ (fun h => hne h.symm)]
    exact entry_next he (hd c)
  · exact pl_set (c := e :: c) ((Below.heap_setCell w ⟨e.1, 2, none⟩ _ b hne).trans hpl) (H % l.length)

end Go.Proofs.YtdldgiicblmknaaDoor
