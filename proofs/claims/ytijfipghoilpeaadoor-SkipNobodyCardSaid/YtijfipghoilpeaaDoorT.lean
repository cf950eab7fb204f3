/-
  The list that is none; the law that speaks of it, and of the one that nobody made.
-/
import Derived.Test.YtijfipghoilpeaaDoorS
import Derived.Deep.RegionHeld3
namespace Go.Proofs.YtijfipghoilpeaaDoor
open Go.RowKit

theorem is_nil (w : World) : Is w (.pointer none) 0 [] := Or.inl ⟨rfl, rfl⟩
theorem rises_nil : Rises (prs []) := List.Pairwise.nil
theorem at_nil (w : World) (i : Int) (hi : -9223372036854775808 ≤ i ∧ i ≤ 9223372036854775807) : Calls Tryd.prog 14 #[.pointer none, .int .i64 i] w fun e w' => e = .returned (.tuple #[.agg #[.string ⟨#[]⟩, .int .i64 0], .bool false]) ∧ Only [] w w' := by
  have := At_any (is_nil w) (by simp) i hi
  have hv : atV (prs []) i = .tuple #[.agg #[.string ⟨#[]⟩, .int .i64 0], .bool false] := by
    unfold atV prs
    split <;> simp
  rw [hv] at this
  exact this
theorem rank_nil (w : World) (x : Sc) : Calls Tryd.prog 16 #[.pointer none, scV x] w fun e w' => e = .returned (.int .i64 (-1)) ∧ Only [] w w' := by
  have := rank_any (is_nil w) rises_nil (by simp) x
  rw [show rnk (prs []) x = -1 by unfold rnk; rw [if_neg (by simp [prs])]] at this
  exact this
theorem ahead_nil (w : World) (x : Sc) : Calls Tryd.prog 18 #[.pointer none, scV x] w fun e w' => e = .returned (.int .i64 0) ∧ Only [] w w' := ahead_any (is_nil w) rises_nil (by simp) x
theorem below_nil (w : World) (s : Int) (op : Bool) : Calls Tryd.prog 20 #[.pointer none, .int .i64 s, .bool op] w fun e w' => e = .returned (.int .i64 0) ∧ Only [] w w' := below_any (is_nil w) rises_nil (by simp) s op
theorem drop_nil (w : World) (x : Sc) : Calls Tryd.prog 10 #[.pointer none, scV x] w fun e w' => e = .returned (.bool false) ∧ Only [] w w' := drop_none (is_nil w) rises_nil (by simp) x (by simp [prs])
theorem cut_nil (w : World) (i j : Int) (hi : -9223372036854775808 ≤ i ∧ i ≤ 9223372036854775807) (hj : -9223372036854775808 ≤ j ∧ j ≤ 9223372036854775807) : Calls Tryd.prog 23 #[.pointer none, .int .i64 i, .int .i64 j] w fun e w' => (∃ (A : Option Addr) (c : Nat), e = .returned (.slice A 0 c)) ∧ Only [] w w' := by
  refine (cut_any (is_nil w) (by simp) i j hi hj).mono ?_
  rintro e w' ⟨v, rfl, h1, h2⟩
  have hz : cutS (prs []) i j = [] := List.length_eq_zero_iff.1 (by have := cutS_len (prs []) i j; simp [prs] at this; simpa using this)
  rw [hz] at h1
  obtain ⟨A, c, rfl⟩ := h1.len
  exact ⟨⟨A, c, rfl⟩, h2⟩

def opC (o : OpT) : Array Value := #[.bool o.1, .string o.2.1.1, .int .i64 o.2.1.2, .int .i64 o.2.2.1, .int .i64 o.2.2.2]
theorem ops_one (W : World) (o : OpT) : OpsAt (W.alloc (.cells (opC o) 32)) (W.alloc (.cells (opC o) 32)).heap.size (some ⟨W.heap.size, 0, none⟩) [o] := by
  intro i x hx
  rcases i with _ | i
  · simp at hx
    subst hx
    have hh := heap_alloc_new W (.cells (opC o) 32)
    exact ⟨_, rfl, by simp, Lib.cell_of_heap hh 0, Lib.cell_of_heap hh 1, Lib.cell_of_heap hh 2, Lib.cell_of_heap hh 3, Lib.cell_of_heap hh 4⟩
  · simp at hx
theorem ply_zero {w0 w : World} (ho : Only [] w0 w) {K : List (Nat × Obj)} (hK : ∀ q ∈ K, w.heap[q.1]? = some q.2) : Ply w0 (w.alloc (.cells (zeroC 0) 55)) w.heap.size (.slice none 0 0) [] [] K := by
  have h1 : Only [] w (w.alloc (.cells (zeroC 0) 55)) := (Only.refl [] w).alloc _
  refine ⟨[], ⟨⟨0, by unfold U; omega, lst_zero w 0⟩, List.Pairwise.nil, by simp⟩, rfl, fun b hb => ?_, rowS_nil _ _, fun k hk => by simp [Value.ownBlock] at hk, ho.trans h1 (by simp), fun q hq => ⟨h1.keep (hK q hq) (by simp), fun hb => ?_⟩⟩
  · have : b = w.heap.size := by simpa [blks] using hb
    have := ho.size
    omega
  · have : q.1 = w.heap.size := by simpa [blks] using hb
    have := some_lt (hK q hq)
    omega
theorem put_first (x : Sc) : putS [] x = [x] := by unfold putS; rw [if_neg (by simp)]; rfl
theorem put_again (x : Sc) : putS [x] x = [x] := by unfold putS; rw [if_pos (by simp)]
theorem drop_first (x : Sc) : dropS [] x = [] := by unfold dropS; rw [if_neg (by simp)]
theorem rnk_first (x : Sc) : rnk [] x = -1 := by unfold rnk; rw [if_neg (by simp)]
theorem rnk_one (x : Sc) : rnk [x] x = 0 := by
  unfold rnk
  rw [if_pos (by simp), ahd_cons, less_irr]
  rfl
theorem cut_one (x : Sc) : cutS [x] 0 9 = [x] := by simp [cutS]
/-- The argument's copy, and what At told, as they lie. -/
structure Nb (w W : World) (b0 b2 : Nat) (dr : Bool) (xa : ByteArray) (xs i j : Int) : Prop where
  only : Only [] w W
  op : W.heap[b0]? = some (.cells #[.bool dr, .string xa, .int .i64 xs, .int .i64 i, .int .i64 j] 32 (0, 0))
  pair : W.heap[b2]? = some (.cells #[.string ⟨#[]⟩, .int .i64 0] 30 (0, 0))
theorem Nb.same {w W W' : World} {b0 b2 : Nat} {dr : Bool} {xa : ByteArray} {xs i j : Int} (h : Nb w W b0 b2 dr xa xs i j) (ho : Only [] W W') : Nb w W' b0 b2 dr xa xs i j :=
  ⟨h.only.trans ho (by simp), ho.keep h.op (by simp), ho.keep h.pair (by simp)⟩
theorem Nb.cells {w W : World} {b0 b2 : Nat} {dr : Bool} {xa : ByteArray} {xs i j : Int} (h : Nb w W b0 b2 dr xa xs i j) :
    W.cell? ⟨b0, 1, none⟩ = some (.string xa) ∧ W.cell? ⟨b0, 2, none⟩ = some (.int .i64 xs) ∧ W.cell? ⟨b0, 3, none⟩ = some (.int .i64 i) ∧ W.cell? ⟨b0, 4, none⟩ = some (.int .i64 j) ∧ W.cell? ⟨b2, 0, none⟩ = some (.string ⟨#[]⟩) ∧ W.cell? ⟨b2, 1, none⟩ = some (.int .i64 0) :=
  ⟨Lib.cell_of_heap h.op 1, Lib.cell_of_heap h.op 2, Lib.cell_of_heap h.op 3, Lib.cell_of_heap h.op 4, Lib.cell_of_heap h.pair 0, Lib.cell_of_heap h.pair 1⟩
theorem nb_start {w W : World} {b0 : Nat} {dr : Bool} {xa : ByteArray} {xs i j : Int} (ho : Only [] w W) (hop : W.heap[b0]? = some (.cells #[.bool dr, .string xa, .int .i64 xs, .int .i64 i, .int .i64 j] 32 (0, 0))) :
    Nb w (W.alloc (.cells #[.string ⟨#[]⟩, .int .i64 0] 30)) b0 W.heap.size dr xa xs i j :=
  ⟨ho.alloc _, ((Only.refl [] W).alloc _).keep hop (by simp), heap_alloc_new W _⟩
set_option maxRecDepth 100000 in
set_option maxHeartbeats 16000000 in
theorem nobody_any (w : World) (hT : Tabs w) (dr : Bool) (xa : ByteArray) (xs i j : Int) (hi : -9223372036854775808 ≤ i ∧ i ≤ 9223372036854775807) (hj : -9223372036854775808 ≤ j ∧ j ≤ 9223372036854775807) (hx : xa.size ≤ maxLen) :
    Calls Tryd.prog 6 #[.agg #[.bool dr, .string xa, .int .i64 xs, .int .i64 i, .int .i64 j]] w fun e w' => e = .returned (.bool true) ∧ Below w.heap.size w w' := by
  have hO1 : Only [] w (w.alloc (.cells #[.bool dr, .string xa, .int .i64 xs, .int .i64 i, .int .i64 j] 32)) := (Only.refl [] w).alloc _
  have hb := heap_alloc_new w (.cells #[.bool dr, .string xa, .int .i64 xs, .int .i64 i, .int .i64 j] 32)
  have hfar := Lib.hid (fun W => far_any (c := 1) (ops_one W (dr, (xa, xs), i, j)) (by simp) (by simp; exact hx))
  have hTH := Lib.hid hT
  have hxH := Lib.hid hx
  have hiH := Lib.hid hi
  have hjH := Lib.hid hj
  clear hT hx hi hj
  unfold opC at hfar
  simp only [List.length_cons, List.length_nil, Nat.zero_add] at hfar
  have hbk := Lib.hid hb
  go_enter Tryd.func6, Tryd.ntmps6
  go_upto_region 1 with (fail)
  generalize hW1 : w.alloc (.cells #[.bool dr, .string xa, .int .i64 xs, .int .i64 i, .int .i64 j] 32) = W1 at *
  generalize hb0 : w.heap.size = b0 at *
  have x0 : W1.cell? ⟨b0, 0, none⟩ = some (.bool dr) := Lib.cell_of_heap hb 0
  have x1 : W1.cell? ⟨b0, 1, none⟩ = some (.string xa) := Lib.cell_of_heap hb 1
  have x2 : W1.cell? ⟨b0, 2, none⟩ = some (.int .i64 xs) := Lib.cell_of_heap hb 2
  have x3 : W1.cell? ⟨b0, 3, none⟩ = some (.int .i64 i) := Lib.cell_of_heap hb 3
  have x4 : W1.cell? ⟨b0, 4, none⟩ = some (.int .i64 j) := Lib.cell_of_heap hb 4
  have hO1H := Lib.hid hO1
  clear hW1 hb hO1
  cases hf : farF [(dr, (xa, xs), i, j)] with
  | true =>
    rw [hf] at hfar
    go_wp2_with (first
      | (go_at_call 7; ((with_reducible refine (hfar.out _).mono ?_); rintro e w2 ⟨rfl, h2⟩; have h2H := Lib.hid ((hO1H.out.alloc _).trans h2 (by simp)); clear h2))
      | (go_at_call 8; ((with_reducible refine (alive_any w2 (hTH.out.later h2H.out)).mono ?_); rintro e w3 ⟨rfl, h3⟩; have h3H := Lib.hid (h2H.out.trans h3 (by simp)); clear h3)))
    all_goals go_ret
    exact ⟨rfl, h3H.out.below (by omega) (by simp)⟩
  | false =>
    rw [hf] at hfar
    clear hf
    have hA := Lib.hid (fun W => at_nil W i hiH.out)
    have hP := Lib.hid (fun W => put_nil (xa, xs) W)
    have hD := Lib.hid (fun W => drop_nil W (xa, xs))
    have hR := Lib.hid (fun W => rank_nil W (xa, xs))
    have hB := Lib.hid (fun W => below_nil W xs true)
    have hH := Lib.hid (fun W => ahead_nil W (xa, xs))
    have hC := Lib.hid (fun W => cut_nil W i j hiH.out hjH.out)
    unfold scV at hP hD hR hH
    go_wp2_with (first
      | (go_at_call 7; ((with_reducible refine (hfar.out _).mono ?_); rintro e w2 ⟨rfl, h2⟩; have h12 : Only [] W1 w2 := ((Only.refl [] W1).alloc _).trans h2 (by simp); have h2H := Lib.hid (hO1H.out.trans h12 (by simp)); have hop2 := Lib.hid (h12.keep hbk.out (by simp)); have y3 := cell_keep h12 x3; clear h2 h12 x0 x1 x2 x3 x4))
      | (go_at_call 14; ((with_reducible refine (hA.out _).mono ?_); rintro e w3 ⟨rfl, h3⟩; have hN4 := Lib.hid (nb_start (h2H.out.trans h3 (by simp)) (h3.keep hop2.out (by simp))); obtain ⟨a1, a2, a3, a4, a5, a6⟩ := hN4.out.cells; clear h3))
      | (go_at_call 12; ((with_reducible refine (hP.out _).mono ?_); rintro e w5 ⟨rfl, h5⟩; have hN5 := Lib.hid (hN4.out.same h5); obtain ⟨c1, c2, c3, c4, c5, c6⟩ := hN5.out.cells; clear h5))
      | (go_at_call 10; ((with_reducible refine (hD.out _).mono ?_); rintro e w6 ⟨rfl, h6⟩; have hN6 := Lib.hid (hN5.out.same h6); obtain ⟨d1, d2, d3, d4, d5, d6⟩ := hN6.out.cells; clear h6))
      | (go_at_call 15; ((with_reducible refine (len_nil _).mono ?_); rintro e w' ⟨rfl, rfl⟩))
      | (go_at_call 16; ((with_reducible refine (hR.out _).mono ?_); rintro e w7 ⟨rfl, h7⟩; have hN7 := Lib.hid (hN6.out.same h7); obtain ⟨e1, e2, e3, e4, e5, e6⟩ := hN7.out.cells; clear h7))
      | (go_at_call 20; ((with_reducible refine (hB.out _).mono ?_); rintro e w8 ⟨rfl, h8⟩; have hN8 := Lib.hid (hN7.out.same h8); obtain ⟨f1, f2, f3, f4, f5, f6⟩ := hN8.out.cells; clear h8))
      | (go_at_call 18; ((with_reducible refine (hH.out _).mono ?_); rintro e w9 ⟨rfl, h9⟩; have hN9 := Lib.hid (hN8.out.same h9); obtain ⟨g1, g2, g3, g4, g5, g6⟩ := hN9.out.cells; clear h9))
      | (go_at_call 23; ((with_reducible refine (hC.out _).mono ?_); rintro e w10 ⟨⟨A10, c10, rfl⟩, h10⟩; have hN10 := Lib.hid (hN9.out.same h10); clear h10 a1 a2 a3 a4 a5 a6 c1 c2 c3 c4 c5 c6 d1 d2 d3 d4 d5 d6 e1 e2 e3 e4 e5 e6 f1 f2 f3 f4 f5 f6 g1 g2 g3 g4 g5 g6)))
    clear hA hP hD hR hB hH hC hfar y3
    have hZ := ply_zero (w0 := w) hN10.out.only (K := [(b0, .cells #[.bool dr, .string xa, .int .i64 xs, .int .i64 i, .int .i64 j] 32)]) (fun q hq => by obtain rfl := List.mem_singleton.1 hq; exact hN10.out.op)
    unfold zeroC at hZ
    generalize hW11 : w10.alloc (.cells #[.int .u64 0, .pointer none, .int .i64 0, .pointer none, .int .i64 0, .pointer none, .int .i64 0, .pointer none, .int .i64 0, .pointer none, .int .i64 0, .pointer none, .int .i64 0, .pointer none, .int .i64 0, .pointer none, .int .i64 0, .pointer none, .int .i64 0, .pointer none, .int .i64 0, .pointer none, .int .i64 0, .pointer none, .int .i64 0, .pointer none, .int .i64 0, .pointer none, .int .i64 0, .pointer none, .int .i64 0, .pointer none, .int .i64 0, .int .i64 0] 55) = W11 at *
    generalize hDD : w10.heap.size = D at *
    clear hW11 hDD
    have hRk0 : Hid (∀ W, Ply w W D (.slice none 0 0) [] [] [(b0, .cells #[.bool dr, .string xa, .int .i64 xs, .int .i64 i, .int .i64 j] 32)] → Calls Tryd.prog 16 #[.pointer (some ⟨D, 0, none⟩), .agg #[.string xa, .int .i64 xs]] W fun e w' => e = .returned (.int .i64 (-1)) ∧ Ply w w' D (.slice none 0 0) [] [] [(b0, .cells #[.bool dr, .string xa, .int .i64 xs, .int .i64 i, .int .i64 j] 32)]) := Lib.hid (fun W h => (h.rank (xa, xs)).mono fun _ _ ⟨he, hp, _⟩ => ⟨by rw [he, rnk_first], hp⟩)
    have hRk1 : Hid (∀ W, Ply w W D (.slice none 0 0) [(xa, xs)] [] [(b0, .cells #[.bool dr, .string xa, .int .i64 xs, .int .i64 i, .int .i64 j] 32)] → Calls Tryd.prog 16 #[.pointer (some ⟨D, 0, none⟩), .agg #[.string xa, .int .i64 xs]] W fun e w' => e = .returned (.int .i64 0) ∧ Ply w w' D (.slice none 0 0) [(xa, xs)] [] [(b0, .cells #[.bool dr, .string xa, .int .i64 xs, .int .i64 i, .int .i64 j] 32)]) := Lib.hid (fun W h => (h.rank (xa, xs)).mono fun _ _ ⟨he, hp, _⟩ => ⟨by rw [he, rnk_one], hp⟩)
    have hDr : Hid (∀ W, Ply w W D (.slice none 0 0) [] [] [(b0, .cells #[.bool dr, .string xa, .int .i64 xs, .int .i64 i, .int .i64 j] 32)] → Calls Tryd.prog 10 #[.pointer (some ⟨D, 0, none⟩), .agg #[.string xa, .int .i64 xs]] W fun e w' => e = .returned (.bool false) ∧ Ply w w' D (.slice none 0 0) [] [] [(b0, .cells #[.bool dr, .string xa, .int .i64 xs, .int .i64 i, .int .i64 j] 32)]) := Lib.hid (fun W h => (h.drop (xa, xs)).mono fun _ _ ⟨he, hp⟩ => ⟨by rw [he, decide_eq_false (by simp)], by rw [drop_first] at hp; exact hp⟩)
    have hPu0 : Hid (∀ W, Ply w W D (.slice none 0 0) [] [] [(b0, .cells #[.bool dr, .string xa, .int .i64 xs, .int .i64 i, .int .i64 j] 32)] → Calls Tryd.prog 12 #[.pointer (some ⟨D, 0, none⟩), .agg #[.string xa, .int .i64 xs]] W fun e w' => e = .returned (.bool true) ∧ Ply w w' D (.slice none 0 0) [(xa, xs)] [] [(b0, .cells #[.bool dr, .string xa, .int .i64 xs, .int .i64 i, .int .i64 j] 32)]) := Lib.hid (fun W h => (h.put hTH.out (by simp) (xa, xs) hxH.out).mono fun _ _ ⟨he, hp⟩ => ⟨by rw [he, decide_eq_false (by simp)]; rfl, by rw [put_first] at hp; exact hp⟩)
    have hPu1 : Hid (∀ W, Ply w W D (.slice none 0 0) [(xa, xs)] [] [(b0, .cells #[.bool dr, .string xa, .int .i64 xs, .int .i64 i, .int .i64 j] 32)] → Calls Tryd.prog 12 #[.pointer (some ⟨D, 0, none⟩), .agg #[.string xa, .int .i64 xs]] W fun e w' => e = .returned (.bool false) ∧ Ply w w' D (.slice none 0 0) [(xa, xs)] [] [(b0, .cells #[.bool dr, .string xa, .int .i64 xs, .int .i64 i, .int .i64 j] 32)]) := Lib.hid (fun W h => (h.put hTH.out (by simp) (xa, xs) hxH.out).mono fun _ _ ⟨he, hp⟩ => ⟨by rw [he, decide_eq_true (by simp)]; rfl, by rw [put_again] at hp; exact hp⟩)
    have hCu : Hid (∀ W, Ply w W D (.slice none 0 0) [(xa, xs)] [] [(b0, .cells #[.bool dr, .string xa, .int .i64 xs, .int .i64 i, .int .i64 j] 32)] → Calls Tryd.prog 23 #[.pointer (some ⟨D, 0, none⟩), .int .i64 0, .int .i64 9] W fun e w' => ∃ v, e = .returned v ∧ RowS w' W.heap.size v [(xa, xs)] ∧ Ply w w' D (.slice none 0 0) [(xa, xs)] [] [(b0, .cells #[.bool dr, .string xa, .int .i64 xs, .int .i64 i, .int .i64 j] 32)] ∧ Only [] W w') := Lib.hid (fun W h => by
      have := h.cut 0 9 (by omega) (by omega)
      rw [cut_one] at this
      exact this)
    have hSa : Hid (∀ W B B' u u', Ply w W D (.slice none 0 0) [(xa, xs)] [] [(b0, .cells #[.bool dr, .string xa, .int .i64 xs, .int .i64 i, .int .i64 j] 32)] → RowS W B u [(xa, xs)] → RowS W B' u' [(xa, xs)] → Calls Tryd.prog 22 #[u, u'] W fun e w' => e = .returned (.bool true) ∧ Ply w w' D (.slice none 0 0) [(xa, xs)] [] [(b0, .cells #[.bool dr, .string xa, .int .i64 xs, .int .i64 i, .int .i64 j] 32)]) := Lib.hid (fun W B B' u u' h h1 h2 => (h.equal h1 h2 (by simp)).mono fun _ _ ⟨he, hp, _⟩ => ⟨by rw [he, decide_eq_true rfl], hp⟩)
    have hAl : Hid (∀ W, Ply w W D (.slice none 0 0) [(xa, xs)] [] [(b0, .cells #[.bool dr, .string xa, .int .i64 xs, .int .i64 i, .int .i64 j] 32)] → Calls Tryd.prog 8 #[] W fun e w' => e = .returned (.bool true) ∧ Ply w w' D (.slice none 0 0) [(xa, xs)] [] [(b0, .cells #[.bool dr, .string xa, .int .i64 xs, .int .i64 i, .int .i64 j] 32)]) := Lib.hid (fun W h => (alive_any W (hTH.out.later h.most)).mono fun _ _ ⟨he, hp⟩ => ⟨he, h.same hp⟩)
    have hZd := hZ.same ((Only.refl [] W11).drew)
    have z1 : W11.cell? ⟨b0, 1, none⟩ = some (.string xa) := hZ.cell (List.mem_cons_self ..) 1
    have z2 : W11.cell? ⟨b0, 2, none⟩ = some (.int .i64 xs) := hZ.cell (List.mem_cons_self ..) 2
    have z1d : W11.drew.cell? ⟨b0, 1, none⟩ = some (.string xa) := z1
    have z2d : W11.drew.cell? ⟨b0, 2, none⟩ = some (.int .i64 xs) := z2
    clear hN4 hN5 hN6 hN7 hN8 hN9 hN10 hbk hop2 h2H hO1H
    go_region_held3 (fun w' => w'.cell? ⟨b0, 1, none⟩ = some (.string xa) ∧ w'.cell? ⟨b0, 2, none⟩ = some (.int .i64 xs))
      (first | exact ⟨z1, z2⟩ | assumption | (refine ⟨?_, ?_⟩ <;> assumption) | exact ⟨cell_past (by assumption) _, cell_past (by assumption) _⟩)
      (first
      | (go_at_call 16; (first | (with_reducible refine (hRk0.out _ (by assumption)).mono ?_) | (with_reducible refine (hRk1.out _ (by assumption)).mono ?_)); rintro r w12 ⟨rfl, p12⟩; have t1 : w12.cell? ⟨b0, 1, none⟩ = some (.string xa) := p12.cell (List.mem_cons_self ..) 1; have t2 : w12.cell? ⟨b0, 2, none⟩ = some (.int .i64 xs) := p12.cell (List.mem_cons_self ..) 2)
      | (go_at_call 10; ((with_reducible refine (hDr.out _ (by assumption)).mono ?_); rintro r w13 ⟨rfl, p13⟩; have t1 : w13.cell? ⟨b0, 1, none⟩ = some (.string xa) := p13.cell (List.mem_cons_self ..) 1; have t2 : w13.cell? ⟨b0, 2, none⟩ = some (.int .i64 xs) := p13.cell (List.mem_cons_self ..) 2))
      | (go_at_call 12; (first | (with_reducible refine (hPu0.out _ (by assumption)).mono ?_) | (with_reducible refine (hPu1.out _ (by assumption)).mono ?_)); rintro r w14 ⟨rfl, p14⟩; have t1 : w14.cell? ⟨b0, 1, none⟩ = some (.string xa) := p14.cell (List.mem_cons_self ..) 1; have t2 : w14.cell? ⟨b0, 2, none⟩ = some (.int .i64 xs) := p14.cell (List.mem_cons_self ..) 2)
      | (go_at_call 23; (first | (with_reducible refine (hCu.out _ (by assumption)).mono ?_) | (with_reducible refine (hCu.out _ (Ply.same (by assumption) ((Only.refl [] _).alloc _))).mono ?_)); rintro r w17 ⟨u17, rfl, r17, p17, o17⟩; have t1 : w17.cell? ⟨b0, 1, none⟩ = some (.string xa) := p17.cell (List.mem_cons_self ..) 1; have t2 : w17.cell? ⟨b0, 2, none⟩ = some (.int .i64 xs) := p17.cell (List.mem_cons_self ..) 2; have r17H := Lib.hid r17; have p17H := Lib.hid p17; have o17H := Lib.hid o17; clear r17 p17 o17)
      | (go_at_call 22; (first | (with_reducible refine (hSa.out _ _ 0 _ _ (p17H.out.same ((Only.refl [] w17).alloc _)) (r17H.out.none ((Only.refl [] w17).alloc _)) (rowS_one (xa, xs) (Nat.zero_le _))).mono ?_) | (with_reducible refine (hSa.out _ _ 0 _ _ p17H.out r17H.out ((rowS_one (xa, xs) (Nat.zero_le _)).none o17H.out)).mono ?_)); rintro r w18 ⟨rfl, p18⟩; have t1 : w18.cell? ⟨b0, 1, none⟩ = some (.string xa) := p18.cell (List.mem_cons_self ..) 1; have t2 : w18.cell? ⟨b0, 2, none⟩ = some (.int .i64 xs) := p18.cell (List.mem_cons_self ..) 2)
      | (go_at_call 8; ((with_reducible refine (hAl.out _ (by assumption)).mono ?_); rintro r w19 ⟨rfl, p19⟩; have p19H := Lib.hid p19; have t1 : w19.cell? ⟨b0, 1, none⟩ = some (.string xa) := p19.cell (List.mem_cons_self ..) 1; have t2 : w19.cell? ⟨b0, 2, none⟩ = some (.int .i64 xs) := p19.cell (List.mem_cons_self ..) 2; clear p19)))
    all_goals go_wp2_with fail
    all_goals go_ret
    all_goals exact ⟨rfl, p19H.out.most.below (by omega) (by simp)⟩
end Go.Proofs.YtijfipghoilpeaaDoor
