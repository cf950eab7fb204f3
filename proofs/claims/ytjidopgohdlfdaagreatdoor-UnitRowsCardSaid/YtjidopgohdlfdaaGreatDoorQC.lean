/-
  The walk of a request's end: what was gone past was a request, if it has arguments. Premises: how the holder lies, and that numbers are small.
-/
import Derived.Test.YtjidopgohdlfdaaGreatDoorQB
namespace Go.Proofs.YtjidopgohdlfdaaGreatDoor
open Go.RowKit Dec Pq S4

def fins (ss : List ByteArray) (size : Nat) : List MR := if ss = [] then [] else [(ss, size)]
theorem req_info : (Tryz.prog.info? 69).map (fun i => (i.zero, i.size, i.bytes)) = some (some (.agg #[.slice none 0 0, .int .i64 0]), 2, 32) := by kernel_rfl
section
variable {w0 W : World} {g : Nat} {rest : ByteArray} {u u0 v : Value} {left size need A B L : Nat} {body : Bool} {ss : List ByteArray} {q : List MR}
theorem fin_after {W2 w1 : World} {A' : Option Addr} {cap' cap2 gb : Nat} {css : List (List Value)} (hb : Below W.heap.size W W2) (h : W.heap[g]? = some (.cells (hold rest u0 left size body need v A B L) 103 (0, 0)))
    (hH : Held w0 g (.slice A' ss.length cap') v ss q W) (h0 : ss ≠ []) (hcl : css.length = q.length) (hc2 : ∀ c ∈ css, c.length = 2)
    (hcs : ∀ (i : Nat) p, q[i]? = some p → ∃ cs, css[i]? = some cs ∧ RqAt W (Free w0.heap.size g (.slice A' ss.length cap') v) p cs) (hv : ∀ b, v.ownBlock = some b → w0.heap.size ≤ b ∧ b < W.heap.size)
    (hown : w1.ownsRow w0.heap.size 69 2 (.slice (some ⟨gb, 0, none⟩) (q.length + 1) cap2) (q.length + 1) (css.flatten ++ [.slice A' ss.length cap', .int .i64 size])) (hg : W2.grownBy w1 v.ownBlock)
    (hat : v.ownBlock = some gb ∨ gb = W2.heap.size) :
    w1.heap[g]? = some (.cells (hold rest u0 left size body need v A B L) 103 (0, 0)) ∧ Held w0 g (.slice none 0 0) (.slice (some ⟨gb, 0, none⟩) (q.length + 1) cap2) [] (q ++ fins ss size) w1 := by
  have hl := hH.lt
  refine ⟨?_, ?_⟩
  · rw [hg.block g (Nat.lt_of_lt_of_le hl hb.size) (fun e => hH.gv e.symm), hb.block g hl]; exact h
  · unfold fins
    rw [if_neg h0]
    refine (hH.on hb).fin rfl h0 hcl hc2 (fun i p hp => ?_) (fun b e => ⟨(hv b e).1, Nat.lt_of_lt_of_le (hv b e).2 hb.size⟩) hown hg hat
    obtain ⟨cs, hc, hr⟩ := hcs i p hp
    exact ⟨cs, hc, hr.keep (fun b _ hl => hb.block b hl) hb.size (fun _ h _ => h)⟩
theorem one_two (A' : Option Addr) (n c : Nat) (k : Int) : ∀ x ∈ [Value.slice A' n c, Value.int .i64 k], x.oneCell' = true := by intro x hx; simp at hx; rcases hx with rfl | rfl <;> rfl
theorem one_req (w : World) (a b : Value) {t : TypeId} : ∀ j u, [a, b][j]? = some u → (w.alloc (.cells #[a, b] t)).cell? ((⟨w.heap.size, 0, none⟩ : Addr).add j) = some u := new_cells w [a, b]
set_option maxRecDepth 100000 in
set_option maxHeartbeats 2000000 in
theorem finish_any (h : W.heap[g]? = some (.cells (hold rest u0 left size body need v A B L) 103 (0, 0))) (hH : Held w0 g u v ss q W) (hn : ss.length ≤ 65536) (hq : q.length ≤ 1000000000) :
    Calls Tryz.prog 85 #[.pointer (some ⟨g, 0, none⟩), u] W fun e w' => e = .returned (.tuple #[]) ∧ ∃ v', w'.heap[g]? = some (.cells (hold rest (.slice none 0 0) 0 0 false 0 v' A B L) 103 (0, 0)) ∧ Held w0 g (.slice none 0 0) v' [] (q ++ fins ss size) w' := by
  obtain ⟨A', cap', rfl, hcap, hsk⟩ := own_sok hH.args
  obtain ⟨c0, c1, c2, c3, c4, c5, c6, c7, c8, c9, c10, f0, f1, f2, f3, f4, f5, f6, f7⟩ := hold_facts h
  have hh := Lib.hid h
  have hHH := Lib.hid hH
  by_cases h0 : ss = []
  · subst h0
    clear h hH hsk hcap c7 c8 c9 c10
    go_enter Tryz.func85, Tryz.ntmps85
    go_wp2_with fail
    go_end0
    refine ⟨rfl, v, ?_, ?_⟩
    · simp [World.setCell, Array.getElem?_modify, hh.out, hold]
    · have := hHH.out.drop
      simp only [fins, if_true, List.append_nil]
      exact ((((((this.poke 0 _).poke 1 _).poke 2 _).poke 3 _).poke 4 _).poke 5 _).poke 6 _
  · have hpos : 0 < ss.length := List.length_pos_iff.2 h0
    have hlw := hH.lt
    have hge0 := hH.bel.size
    obtain ⟨css, k1, k2, k3, k4⟩ := hH.whole
    have k1H := Lib.hid k1
    obtain ⟨i0, hi, hz0, hz1, hz2⟩ := info_parts req_info
    clear h hH hsk k1
    go_enter Tryz.func85, Tryz.ntmps85
    go_upto_region 1 with fail
    go_region_law (refine step_append_lies _ rfl (.tmp 11) (.tmp 19) 63 rfl w0.heap.size 69 i0 _ 2 32 Tryz.underlying63 hi hz0 hz1 hz2 rfl (by decide) v q.length css.flatten (by simp [Act.eval]) (k1H.out.alloc _) ⟨W.heap.size, 0, none⟩ 1 1 [.slice A' ss.length cap', .int .i64 size] (by simp [Act.eval]) rfl (one_req W _ _) (one_two _ _ _ _) (by decide) (by unfold maxLen; omega) (by omega) (by simp; omega) _ rfl ?_; intro gb cap2 w1 hown hgr hat hlt; obtain ⟨hb1, hH1⟩ := fin_after ((Below.refl _ _).alloc (Nat.le_refl _) _).drew hh.out hHH.out h0 k2 k3 k4 (k1H.out.lt) hown hgr hat; obtain ⟨d0, d1, d2, d3, d4, d5, d6, d7, d8, d9, d10, e0, e1, e2, e3, e4, e5, e6, e7⟩ := hold_facts hb1; have hb1H := Lib.hid hb1; clear hown hgr hat hb1)
    all_goals go_wp2_with fail
    all_goals go_end0
    all_goals (
      refine ⟨rfl, _, ?_, (((((((hH1.poke 7 _).poke 0 _).poke 1 _).poke 2 _).poke 3 _).poke 4 _).poke 5 _).poke 6 _⟩
      simp [World.setCell, Array.getElem?_modify, hb1H.out, hold])
end
end Go.Proofs.YtjidopgohdlfdaaGreatDoor
