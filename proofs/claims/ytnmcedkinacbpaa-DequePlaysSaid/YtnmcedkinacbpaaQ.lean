/-
  A list of the call's own, beside a row of its own: what each call turns; the law's own alive.
-/
import Derived.Test.YtnmcedkinacbpaaP
namespace Go.Proofs.Ytnmcedkinacbpaa
open Go.RowKit

/-- The call (begun in the world w0) has a list D of its own that holds L, and beside it a row r of its own that holds R; of what was there before nothing has turned. -/
def Own (w0 w : World) (D : Nat) (r : Value) (L R : List Int) : Prop :=
  ∃ g N f, DQ w D g N f L ∧ RowI w w0.heap.size r R ∧ (∀ k, r.ownBlock = some k → k ≠ D ∧ k ≠ g) ∧ w0.heap.size ≤ D ∧ w0.heap.size ≤ g ∧ Only [] w0 w
theorem Own.same {w0 w w' : World} {D : Nat} {r : Value} {L R : List Int} (h : Own w0 w D r L R) (ho : Only [] w w') : Own w0 w' D r L R := by
  obtain ⟨g, N, f, h1, h2, h3, h4, h5, h6⟩ := h
  exact ⟨g, N, f, h1.keep ho (by simp) (by simp), h2.none ho, h3, h4, h5, h6.trans ho (by simp)⟩
theorem Own.most {w0 w : World} {D : Nat} {r : Value} {L R : List Int} (h : Own w0 w D r L R) : Only [] w0 w := by
  obtain ⟨g, N, f, h1, h2, h3, h4, h5, h6⟩ := h
  exact h6
theorem Own.rows {w0 w : World} {D : Nat} {r : Value} {L R : List Int} (h : Own w0 w D r L R) : RowI w w0.heap.size r R := by
  obtain ⟨g, N, f, h1, h2, h3, h4, h5, h6⟩ := h
  exact h2
/-- Behind a call that turns the list. -/
theorem Own.call {w0 w : World} {D : Nat} {r : Value} {L R : List Int} {f0 : FuncId} {args : Array Value} {v : Value} {L' : List Int} (h : Own w0 w D r L R)
    (hc : ∀ g N f, DQ w D g N f L → Calls Try.prog f0 args w fun e w' => e = .returned v ∧ Left w D g L' w') :
    Calls Try.prog f0 args w fun e w' => e = .returned v ∧ Own w0 w' D r L' R := by
  have h' := h
  obtain ⟨g, N, f, h1, h2, h3, h4, h5, h6⟩ := h
  refine (hc g N f h1).mono fun e w' ⟨he, hl⟩ => ⟨he, ?_⟩
  obtain ⟨g', N', f', k1, k2, k3⟩ := hl
  have hsz := h6.size
  refine ⟨g', N', f', k1, h2.only k2 (fun k hk => by have := h3 k hk; simp; omega), fun k hk => ?_, h4, ?_, h6.trans k2 (fun x hx => ?_)⟩
  · obtain ⟨e1, e2⟩ := h3 k hk
    refine ⟨e1, ?_⟩
    rcases k3 with rfl | k3
    · exact e2
    · have := (h2.lt k hk).2
      omega
  · rcases k3 with rfl | k3
    · exact h5
    · omega
  · rcases List.mem_cons.1 hx with rfl | hx
    · exact Or.inr h4
    · obtain rfl := List.mem_singleton.1 hx
      exact Or.inr h5
/-- Behind a call that makes a new row in the place of r. -/
theorem Own.fresh {w0 w w' : World} {D : Nat} {r r' : Value} {L R R' : List Int} (h : Own w0 w D r L R) (hf : Fresh w r' R' w') : Own w0 w' D r' L R' := by
  obtain ⟨g, N, f, h1, h2, h3, h4, h5, h6⟩ := h
  obtain ⟨k1, k2⟩ := hf
  obtain ⟨l1, l2⟩ := h1.lt
  exact ⟨g, N, f, h1.keep k2 (by simp) (by simp), k1.base h6.size, fun k hk => by have := (k1.lt k hk).1; omega, h4, h5, h6.trans k2 (by simp)⟩
theorem own_new_list {w0 w : World} {v : Value} {L : List Int} (ho : Only [] w0 w) (h : SrcI w v L) (hl : L.length < 1048576) :
    Calls Try.prog 7 #[v] w fun e w' => ∃ D, e = .returned (.pointer (some ⟨D, 0, none⟩)) ∧ Own w0 w' D (.slice none 0 0) L [] ∧ w.heap.size ≤ D ∧ Only [] w w' := by
  refine (new_any h hl).mono ?_
  rintro e w' ⟨D, g, rfl, h1, h2, h3, h4⟩
  have := ho.size
  exact ⟨D, rfl, ⟨g, _, _, h1, rowI_nil _ _, fun k hk => by simp [Value.ownBlock] at hk, by omega, by omega, ho.trans h4 (by simp)⟩, h2, h4⟩
theorem Own.push {w0 w : World} {D : Nat} {r : Value} {L R : List Int} (h : Own w0 w D r L R) (hl : L.length < 1048576) (front : Bool) (v : Int) :
    Calls Try.prog 8 #[.pointer (some ⟨D, 0, none⟩), .bool front, .int .i64 v] w fun e w' => e = .returned (.bool true) ∧ Own w0 w' D r (pushF front v L) R := h.call fun _ _ _ hd => push_any hd hl front v
theorem Own.pop {w0 w : World} {D : Nat} {r : Value} {L R : List Int} (h : Own w0 w D r L R) (hp : 0 < L.length) (front : Bool) :
    Calls Try.prog 10 #[.pointer (some ⟨D, 0, none⟩), .bool front] w fun e w' => e = .returned (.tuple #[.int .i64 (nth L (endF front L)), .bool true]) ∧ Own w0 w' D r (popF front L) R := h.call fun _ _ _ hd => pop_any hd hp front
theorem Own.insert {w0 w : World} {D : Nat} {r : Value} {L R : List Int} (h : Own w0 w D r L R) (hl : L.length < 1048576) (i : Nat) (hi : i ≤ L.length) (v : Int) :
    Calls Try.prog 16 #[.pointer (some ⟨D, 0, none⟩), .int .i64 (i : Int), .int .i64 v] w fun e w' => e = .returned (.bool true) ∧ Own w0 w' D r (insL L i v) R := h.call fun _ _ _ hd => insert_any hd hl i hi v
theorem Own.insertI {w0 w : World} {D : Nat} {r : Value} {L R : List Int} (h : Own w0 w D r L R) (hl : L.length < 1048576) (i : Nat) (hi : i ≤ L.length) (x : Int) (hx : x = (i : Int)) (v : Int) :
    Calls Try.prog 16 #[.pointer (some ⟨D, 0, none⟩), .int .i64 x, .int .i64 v] w fun e w' => e = .returned (.bool true) ∧ Own w0 w' D r (insL L i v) R := by
  subst hx
  exact h.insert hl i hi v
theorem Own.sets {w0 w : World} {D : Nat} {r : Value} {L R : List Int} (h : Own w0 w D r L R) (i : Int) (hi : inI64 i) (v : Int) (hr : InR L.length i) :
    Calls Try.prog 14 #[.pointer (some ⟨D, 0, none⟩), .int .i64 i, .int .i64 v] w fun e w' => e = .returned (.bool true) ∧ Own w0 w' D r (L.set (fromEnd L.length i).toNat v) R := h.call fun _ _ _ hd => set_some hd i hi v hr
theorem Own.remove {w0 w : World} {D : Nat} {r : Value} {L R : List Int} (h : Own w0 w D r L R) (i : Int) (hi : inI64 i) (hr : InR L.length i) :
    Calls Try.prog 18 #[.pointer (some ⟨D, 0, none⟩), .int .i64 i] w fun e w' => e = .returned (.bool true) ∧ Own w0 w' D r (remL L (fromEnd L.length i).toNat) R := h.call fun _ _ _ hd => remove_any hd i hi hr
theorem Own.keep {w0 w : World} {D : Nat} {r : Value} {L R : List Int} (h : Own w0 w D r L R) (i j : Int) (hi : inI64 i) (hj : inI64 j) :
    Calls Try.prog 20 #[.pointer (some ⟨D, 0, none⟩), .int .i64 i, .int .i64 j] w fun e w' => e = .returned (.tuple #[]) ∧ Own w0 w' D r (cutL L i j) R := h.call fun _ _ _ hd => keep_any hd i j hi hj
theorem Own.cut {w0 w : World} {D : Nat} {r : Value} {L R : List Int} (h : Own w0 w D r L R) (i j : Int) (hi : inI64 i) (hj : inI64 j) :
    Calls Try.prog 23 #[.pointer (some ⟨D, 0, none⟩), .int .i64 i, .int .i64 j] w fun e w' => ∃ v, e = .returned v ∧ RowI w' w.heap.size v (cutL L i j) ∧ Only [] w w' := by
  obtain ⟨g, N, f, h1, _⟩ := h
  exact cut_any h1 i j hi hj
theorem Own.alls {w0 w : World} {D : Nat} {r : Value} {L R : List Int} (h : Own w0 w D r L R) :
    Calls Try.prog 25 #[.pointer (some ⟨D, 0, none⟩)] w fun e w' => ∃ v, e = .returned v ∧ RowI w' w.heap.size v L ∧ Only [] w w' := by
  obtain ⟨g, N, f, h1, _⟩ := h
  exact all_any h1
theorem Own.lens {w0 w : World} {D : Nat} {r : Value} {L R : List Int} (h : Own w0 w D r L R) : LenIs (.pointer (some ⟨D, 0, none⟩)) L.length w := by
  obtain ⟨g, N, f, h1, _⟩ := h
  exact len_any h1.head
theorem Own.atp {w0 w : World} {D : Nat} {r : Value} {L R : List Int} (h : Own w0 w D r L R) (i : Int) (hi : inI64 i) (hr : InR L.length i) :
    Calls Try.prog 12 #[.pointer (some ⟨D, 0, none⟩), .int .i64 i] w fun e w' => e = .returned (.tuple #[.int .i64 (nth L (fromEnd L.length i).toNat), .bool true]) ∧ Only [] w w' := by
  obtain ⟨g, N, f, h1, _⟩ := h
  exact (at_some h1 i hi hr).mono fun e w' ⟨he, k, hk⟩ => ⟨he, by rw [hk]; exact (Only.refl _ _).drewN k⟩

/-- A row that the call lays out, number by number. -/
theorem lit_src (w : World) (l : List Int) (hl : l.length ≤ 1048576) {cs : Array Value} (hcs : cs = (vals l).toArray) : SrcI (w.alloc (.cells cs 3)) (.slice (some ⟨w.heap.size, 0, none⟩) l.length l.length) l := by
  subst hcs
  exact (rowI_mk (w := w.alloc (.cells (vals l).toArray 3)) (b := w.heap.size) (Y := vals l) (heap_alloc_new w _) (by rw [vals_len]) hl (fun j hj => by rw [vals_at (nth_at hj)]) (Nat.zero_le _)).src

/-- A row is held against the numbers that it has, laid out. -/
theorem same_lit {w : World} {B : Nat} {v : Value} {l : List Int} (h : RowI w B v l) (hl : l.length ≤ 1000000) {n : Nat} (hn : n = l.length) {cs : Array Value} (hcs : cs = (vals l).toArray) :
    Calls Try.prog 22 #[v, .slice (some ⟨w.heap.size, 0, none⟩) n n] (w.alloc (.cells cs 3)) fun e w' => e = .returned (.bool true) ∧ Only [] w w' := by
  subst hn
  have ho : Only [] w (w.alloc (.cells cs 3)) := (Only.refl [] w).alloc _
  refine (same_any (h.none ho).src (lit_src w l (by omega) hcs) hl).mono ?_
  rintro e w' ⟨rfl, h2⟩
  exact ⟨by simp, ho.trans h2 (by simp)⟩
set_option maxHeartbeats 4000000 in
theorem alive_any (w : World) : Calls Try.prog 6 #[] w fun e w' => e = .returned (.bool true) ∧ Only [] w w' := by
  have hN : Hid (Calls Try.prog 7 #[.slice (some ⟨w.heap.size, 0, none⟩) 3 3] (w.alloc (.cells #[.int .i64 1, .int .i64 2, .int .i64 3] 3)) fun e w' => ∃ D, e = .returned (.pointer (some ⟨D, 0, none⟩)) ∧ Own w w' D (.slice none 0 0) [1, 2, 3] [] ∧ w.heap.size + 1 ≤ D ∧ Only [] (w.alloc (.cells #[.int .i64 1, .int .i64 2, .int .i64 3] 3)) w') := by
    refine Lib.hid ((own_new_list (w0 := w) (w := w.alloc (.cells #[.int .i64 1, .int .i64 2, .int .i64 3] 3)) ((Only.refl [] w).alloc _) (lit_src w [1, 2, 3] (by decide) rfl) (by decide)).mono ?_)
    rintro e w' ⟨D, rfl, h1, h2, h3⟩
    exact ⟨D, rfl, h1, by simpa using h2, h3⟩
  have hc : Hid (cutL [1, 2, 3] (-2) 9 = [2, 3]) := Lib.hid (by decide)
  have hi : Hid (insL [1, 2, 3] 3 4 = [1, 2, 3, 4]) := Lib.hid (by decide)
  have hp : Hid (pushF true 0 [1, 2, 3, 4] = [0, 1, 2, 3, 4]) := Lib.hid (by decide)
  go_enter Try.func6, Try.ntmps6
  have hI1H : Hid (inI64 (-2)) := Lib.hid (by unfold inI64; omega)
  have hI2H : Hid (inI64 9) := Lib.hid (by unfold inI64; omega)
  go_wp2_with (first
    | (go_at_call 7; ((with_reducible refine (hN.out).mono ?_); rintro e w1 ⟨D, rfl, hOw, _, _⟩; have hOw1 := Lib.hid hOw; clear hOw))
    | (go_at_call 23; ((with_reducible refine (hOw1.out.cut (-2) 9 hI1H.out hI2H.out).mono ?_); rintro e w2 ⟨v2, rfl, hR2, hO2⟩; rw [hc.out] at hR2; have hR2H := Lib.hid hR2; have hOw2 := Lib.hid (hOw1.out.same hO2); clear hR2 hO2))
    | (go_at_call 22; ((with_reducible refine (same_lit (n := 2) (cs := #[.int .i64 2, .int .i64 3]) hR2H.out (by decide) rfl rfl).mono ?_); rintro e w3 ⟨rfl, hO3⟩; have hOw3 := Lib.hid (hOw2.out.same hO3); clear hO3))
    | (go_at_call 16; ((with_reducible refine (hOw3.out.insertI (by decide) 3 (by decide) 3 rfl 4).mono ?_); rintro e w4 ⟨rfl, hOw⟩; rw [hi.out] at hOw; have hOw4 := Lib.hid hOw; clear hOw))
    | (go_at_call 8; ((with_reducible refine (hOw4.out.push (by decide) true 0).mono ?_); rintro e w5 ⟨rfl, hOw⟩; rw [hp.out] at hOw; have hOw5 := Lib.hid hOw; clear hOw))
    | (go_at_call 25; ((with_reducible refine (hOw5.out.alls).mono ?_); rintro e w6 ⟨v6, rfl, hR6, hO6⟩; have hR6H := Lib.hid hR6; have hOw6 := Lib.hid (hOw5.out.same hO6); clear hR6 hO6))
    | (go_at_call 22; ((with_reducible refine (same_lit (n := 5) (cs := #[.int .i64 0, .int .i64 1, .int .i64 2, .int .i64 3, .int .i64 4]) hR6H.out (by decide) rfl rfl).mono ?_); rintro e w7 ⟨rfl, hO7⟩; have hOw7 := Lib.hid (hOw6.out.same hO7); clear hO7)))
  all_goals go_ret
  exact ⟨rfl, hOw7.out.most⟩

end Go.Proofs.Ytnmcedkinacbpaa
