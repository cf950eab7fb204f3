/-
  The walk of a reply's weight, as the document's answer has it. No premise but that the reply lies in memory.
-/
import Derived.Test.YtogbjhpkbdmllaaDoorMem
namespace Go.Proofs.YtogbjhpkbdmllaaDoor
open Go.RowKit Rp Dec

theorem wtGo_next {α : Type} {f : α → Int} {v : Int} {l : List α} {k : Nat} {y : α} (hy : l[k]? = some y) (hv : v < 100000) : wtGo f v (l.drop k) = wtGo f (wrap64 (v + f y)) (l.drop (k + 1)) := by
  obtain ⟨hk, rfl⟩ := List.getElem?_eq_some_iff.1 hy
  rw [List.drop_eq_getElem_cons hk, wtGo, if_pos hv]
theorem wtGo_end {α : Type} {f : α → Int} {v : Int} {l : List α} {k : Nat} (h : l.length ≤ k ∨ ¬ v < 100000) : wtGo f v (l.drop k) = v := by
  rcases h with h | h
  · rw [List.drop_of_length_le h]; rfl
  · cases l.drop k with
    | nil => rfl
    | cons y l => rw [wtGo, if_neg h]
theorem box_cell {w wr : World} {cs : Array Value} {t : TypeId} (hb : Below (w.heap.size + 1) (w.alloc (.cells cs t)) wr) (j : Nat) : wr.cell? ⟨w.heap.size, j, none⟩ = cs[j]? := by
  rw [hb.cell (p := ⟨w.heap.size, j, none⟩) (Nat.lt_succ_self _)]
  have e : (w.alloc (.cells cs t)).heap[w.heap.size]? = some (.cells cs t) := heap_alloc_new w _
  exact Lib.cell_of_heap e j

set_option maxHeartbeats 1000000 in
theorem weight_any (n : Nat) : ∀ (x : Rep n) (cs : Array Value) (w : World), RAt w (fun _ => True) n x cs.toList →
    Calls Tryd.prog 8 #[.agg cs] w fun e w' => e = .returned (.int .i64 (wtF n x)) ∧ Below w.heap.size w w' := by
  induction n with
  | zero => intro x; exact x.elim
  | succ n ih =>
    intro x cs w h
    obtain ⟨b, A, cap, h1, h2, h3, h4, h5, h6, h7⟩ := h
    obtain ⟨cs⟩ := cs
    simp only at h1
    subst h1
    have hbl : (b.size : Int) = (b.data.toList.length : Int) := by simp
    rw [h2] at hbl
    have hD : Hid (wtGo (wtF n) (1 + (b.size : Int)) (x : RNode (Rep n)).sub = wtF (n + 1) x) := Lib.hid (by rw [hbl]; rfl)
    clear h2 hbl h3 h4
    generalize hs : (x : RNode (Rep n)).sub = l at *
    have hsH := Lib.hid hs
    clear hs
    go_enter Tryd.func8, Tryd.ntmps8
    go_wp2_with fail
    have hL : Below (w.heap.size + 1) (w.alloc (.cells #[.int .i64 (x : RNode (Rep n)).kind, .int .i64 (x : RNode (Rep n)).num, .string b, .slice A l.length cap] 24)) (w.alloc (.cells #[.int .i64 (x : RNode (Rep n)).kind, .int .i64 (x : RNode (Rep n)).num, .string b, .slice A l.length cap] 24)) := Below.refl _ _
    go_loopw [3, 4] (fun v i wr => ∃ (k : Nat) (u : Int), i = .int .i64 k ∧ k ≤ l.length ∧ v = .int .i64 u ∧ Hid (wtGo (wtF n) u (l.drop k) = wtF (n + 1) x) ∧ Below (w.heap.size + 1) (w.alloc (.cells #[.int .i64 (x : RNode (Rep n)).kind, .int .i64 (x : RNode (Rep n)).num, .string b, .slice A l.length cap] 24)) wr) (fun _ i _ => l.length - (intOf i).toNat)
    case atStart => exact ⟨0, 1 + (b.size : Int), rfl, by omega, rfl, by simpa using hD, hL⟩
    case round =>
      clear hL hD
      obtain ⟨k, u, rfl, hk, rfl, hD, hL⟩ := hrel
      have hW : Below w.heap.size w wr := ((Below.refl w.heap.size w).alloc (Nat.le_refl _) _).trans (hL.mono (by omega))
      have h7' := h7.on hW (fun y cs hy => RAt.on hy hW)
      have hWH := Lib.hid hW
      clear hW
      have c3 : wr.cell? ⟨w.heap.size, 3, none⟩ = some (.slice A l.length cap) := box_cell hL 3
      by_cases hlt' : k < l.length ∧ u < 100000
      · obtain ⟨hlt, hu⟩ := hlt'
        obtain ⟨ad, c0, c1, c2, c3', hA, _, hblk, e0, e1, e2, e3, hf⟩ := h7' k l[k] (List.getElem?_eq_getElem hlt)
        subst hA
        have hN := Lib.hid (wtGo_next (f := wtF n) (v := u) (List.getElem?_eq_getElem hlt) hu)
        go_wp2_with (go_at_call 8; ((with_reducible refine (ih l[k] #[c0, c1, c2, c3'] _ hf).mono ?_); rintro e w1 ⟨rfl, hb1⟩))
        go_roundw
        case rel => exact ⟨k + 1, _, by go_num, by omega, rfl, Lib.hid (hN.out.symm.trans hD.out), hL.trans (hb1.mono (by have := hL.size; simpa using this))⟩
        case measure => simp [intOf]; omega
      · have hE := Lib.hid (wtGo_end (f := wtF n) (v := u) (l := l) (k := k) (by omega))
        by_cases hlt : k < l.length
        · have hu : ¬ u < 100000 := fun h => hlt' ⟨hlt, h⟩
          go_wp2_with fail
          go_ret
          exact ⟨ret_int (by rw [← hE.out]; exact hD.out), hWH.out⟩
        · go_wp2_with fail
          go_ret
          exact ⟨ret_int (by rw [← hE.out]; exact hD.out), hWH.out⟩
end Go.Proofs.YtogbjhpkbdmllaaDoor
