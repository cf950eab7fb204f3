/-
  The list that is none; the law that speaks of it, and of the one that nobody made.
-/
import Derived.Test.YtnmcedkinacbpaaQ
import Derived.Deep.RegionHeld3
namespace Go.Proofs.Ytnmcedkinacbpaa
open Go.RowKit

theorem lenIs_nil (w : World) : LenIs (.pointer none) 0 w := len_nil w
theorem push_nil (w : World) (front : Bool) (v : Int) : Calls Try.prog 8 #[.pointer none, .bool front, .int .i64 v] w fun e w' => e = .returned (.bool false) ∧ w = w' := by
  go_enter Try.func8, Try.ntmps8
  go_wp2_with fail
  all_goals go_ret
  all_goals exact ⟨rfl, rfl⟩
theorem insert_nil (w : World) (i v : Int) : Calls Try.prog 16 #[.pointer none, .int .i64 i, .int .i64 v] w fun e w' => e = .returned (.bool false) ∧ w = w' := by
  by_cases h0 : i = 0
  · subst h0
    have hl := Lib.hid (len_nil w)
    have hN : Hid (Calls Try.prog 33 #[.pointer none, .int .i64 0] w fun e w' => e = .returned (.bool false) ∧ w = w') := Lib.hid (near_any (lenIs_nil w) (by omega) 0 (by omega) (by omega))
    have hP := Lib.hid (push_nil w false v)
    go_enter Try.func16, Try.ntmps16
    go_wp2_with (first
      | (go_at_call 24; ((with_reducible refine (hl.out).mono ?_); rintro e w' ⟨rfl, rfl⟩))
      | (go_at_call 33; ((with_reducible refine (hN.out).mono ?_); rintro e w' ⟨rfl, rfl⟩))
      | (go_at_call 8; ((with_reducible refine (hP.out).mono ?_); rintro e w' ⟨rfl, rfl⟩)))
    all_goals go_ret
    all_goals exact ⟨rfl, rfl⟩
  · exact insert_none (lenIs_nil w) i (by omega) v
theorem span_nil (i j : Int) : (spanF 0 i j).2 = 0 := by
  unfold spanF
  rw [if_pos (by omega)]
theorem cut_nil (w : World) (i j : Int) (hi : inI64 i) (hj : inI64 j) : Calls Try.prog 23 #[.pointer none, .int .i64 i, .int .i64 j] w fun e w' => e = .returned (.slice none 0 0) ∧ w = w' :=
  cut_none (lenIs_nil w) (by omega) i j hi hj (span_nil i j)
theorem all_nil (w : World) : Calls Try.prog 25 #[.pointer none] w fun e w' => e = .returned (.slice none 0 0) ∧ w = w' := by
  have hC := Lib.hid (cut_nil w 0 (-1) (by unfold inI64; omega) (by unfold inI64; omega))
  go_enter Try.func25, Try.ntmps25
  go_wp2_with (go_at_call 23; ((with_reducible refine (hC.out).mono ?_); rintro e w' ⟨rfl, rfl⟩))
  all_goals go_ret
  exact ⟨rfl, rfl⟩
theorem inR_zero (i : Int) : ¬ InR 0 i := by unfold InR; omega

def zeroObj : Obj := .cells #[.slice none 0 0, .int .i64 0, .int .i64 0] 50
theorem zero_hd (w : World) : Hd (w.alloc (.cells #[.slice none 0 0, .int .i64 0, .int .i64 0] 50)) w.heap.size none 0 0 0 := heap_alloc_new w _
theorem zero_len (w : World) : LenIs (.pointer (some ⟨w.heap.size, 0, none⟩)) 0 (w.alloc (.cells #[.slice none 0 0, .int .i64 0, .int .i64 0] 50)) := len_any (zero_hd w)
theorem zero_cell {w : World} {p : Addr} {u : Value} (h : w.cell? p = some u) (o : Obj) : (w.alloc o).cell? p = some u := by
  have hlt : p.block < w.heap.size := by
    rcases Nat.lt_or_ge p.block w.heap.size with h1 | h1
    · exact h1
    · simp [World.cell?, Array.getElem?_eq_none h1] at h
  exact (((Below.refl w.heap.size w).alloc (Nat.le_refl _) o).cell hlt).trans h
theorem nobody_below {w w1 w2 w3 : World} {o o' : Obj} (h1 : Only [] (w.alloc o) w1) (h2 : Only [] w1 w2) (h3 : Only [] (w2.alloc o') w3) : Only [] w w3 :=
  (((((Only.refl [] w).alloc o).trans h1 (by simp)).trans h2 (by simp)).alloc o').trans h3 (by simp)
/-- Behind the first push: the list has one thing; the argument's copy reads as it did. -/
structure NQ (w : World) (D b0 : Nat) (i v : Int) (W : World) : Prop where
  dq : ∃ g N f, DQ W D g N f [v]
  c1 : W.cell? ⟨b0, 1, none⟩ = some (.int .i64 i)
  c2 : W.cell? ⟨b0, 2, none⟩ = some (.int .i64 v)
  only : Only [] w W
theorem NQ.same {w W W' : World} {D b0 : Nat} {i v : Int} (h : NQ w D b0 i v W) (ho : Only [] W W') (hb : b0 < W.heap.size) : NQ w D b0 i v W' := by
  obtain ⟨⟨g, N, f, h1⟩, h2, h3, h4⟩ := h
  exact ⟨⟨g, N, f, h1.keep ho (by simp) (by simp)⟩, (World.cell?_of_block (a := ⟨b0, 1, none⟩) (ho.2 b0 hb (by simp))).trans h2, (World.cell?_of_block (a := ⟨b0, 2, none⟩) (ho.2 b0 hb (by simp))).trans h3, h4.trans ho (by simp)⟩
theorem nq_push {w W : World} {D b0 : Nat} {i v : Int} (hd : Hd W D none 0 0 0) (h1 : W.cell? ⟨b0, 1, none⟩ = some (.int .i64 i)) (h2 : W.cell? ⟨b0, 2, none⟩ = some (.int .i64 v)) (ho : Only [] w W) (hD : b0 < D) (hw : w.heap.size ≤ D) (front : Bool) :
    Calls Try.prog 8 #[.pointer (some ⟨D, 0, none⟩), .bool front, .int .i64 v] W fun e w' => e = .returned (.bool true) ∧ NQ w D b0 i v w' ∧ b0 < w'.heap.size := by
  have hlt := some_lt hd
  refine (push_zero hd front v).mono ?_
  rintro e w' ⟨rfl, g, N, f, k1, k2, k3⟩
  have hp : pushF front v [] = [v] := by cases front <;> rfl
  rw [hp] at k1
  have hsz := k2.size
  refine ⟨rfl, ⟨⟨g, N, f, k1⟩, (World.cell?_of_block (a := ⟨b0, 1, none⟩) (k2.2 b0 (by omega) (by simp; omega))).trans h1, (World.cell?_of_block (a := ⟨b0, 2, none⟩) (k2.2 b0 (by omega) (by simp; omega))).trans h2, ho.trans k2 (fun x hx => Or.inr ?_)⟩, by omega⟩
  simp at hx
  omega
theorem nq_all {w W : World} {D b0 : Nat} {i v : Int} (h : NQ w D b0 i v W) (hb : b0 < W.heap.size) :
    Calls Try.prog 25 #[.pointer (some ⟨D, 0, none⟩)] W fun e w' => ∃ u, e = .returned u ∧ RowI w' W.heap.size u [v] ∧ NQ w D b0 i v w' ∧ b0 < w'.heap.size ∧ Only [] W w' := by
  have h' := h
  obtain ⟨⟨g, N, f, h1⟩, _, _, _⟩ := h
  refine (all_any h1).mono ?_
  rintro e w' ⟨u, rfl, k1, k2⟩
  exact ⟨u, rfl, k1, h'.same k2 hb, by have := k2.size; omega, k2⟩
theorem nq_same {w W : World} {D b0 : Nat} {i v : Int} {u u' : Value} (h : NQ w D b0 i v W) (hb : b0 < W.heap.size) (hu : SrcI W u [v]) (hu' : SrcI W u' [v]) :
    Calls Try.prog 22 #[u, u'] W fun e w' => e = .returned (.bool true) ∧ NQ w D b0 i v w' ∧ b0 < w'.heap.size := by
  refine (same_any hu hu' (by simp)).mono ?_
  rintro e w' ⟨rfl, k2⟩
  exact ⟨by simp, h.same k2 hb, by have := k2.size; omega⟩
theorem nq_alive {w W : World} {D b0 : Nat} {i v : Int} (h : NQ w D b0 i v W) (hb : b0 < W.heap.size) :
    Calls Try.prog 6 #[] W fun e w' => e = .returned (.bool true) ∧ NQ w D b0 i v w' ∧ b0 < w'.heap.size :=
  (alive_any W).mono fun e w' ⟨he, k2⟩ => ⟨he, h.same k2 hb, by have := k2.size; omega⟩
theorem one_src (W : World) (v : Int) : SrcI (W.alloc (.cells #[.int .i64 v] 3)) (.slice (some ⟨W.heap.size, 0, none⟩) 1 1) [v] := lit_src W [v] (by simp) rfl
set_option maxHeartbeats 8000000 in
theorem nobody_any (w : World) (kd i v : Int) (hi : inI64 i) (hv : inI64 v) :
    Calls Try.prog 5 #[.agg #[.int .i64 kd, .int .i64 i, .int .i64 v]] w fun e w' => e = .returned (.bool true) ∧ Below w.heap.size w w' := by
  have hA : Hid (∀ w, Calls Try.prog 10 #[.pointer none, .bool true] w fun e w' => e = .returned (.tuple #[.int .i64 0, .bool false]) ∧ Only [] w w') := Lib.hid fun w => pop_none (lenIs_nil w) true
  have hB : Hid (∀ w, Calls Try.prog 12 #[.pointer none, .int .i64 i] w fun e w' => e = .returned (.tuple #[.int .i64 0, .bool false]) ∧ Only [] w w') := Lib.hid fun w => at_none (lenIs_nil w) (by omega) i hi (inR_zero i)
  have hC := Lib.hid (fun w => keep_none w i v)
  have hD : Hid (∀ w, Calls Try.prog 24 #[.pointer none] w fun e w' => e = .returned (.int .i64 0) ∧ w = w') := Lib.hid len_nil
  have hE := Lib.hid (fun w => push_nil w true v)
  have hF := Lib.hid (fun w => set_none (lenIs_nil w) (by omega) i hi v (inR_zero i))
  have hG := Lib.hid (fun w => insert_nil w i v)
  have hH := Lib.hid (fun w => remove_none (lenIs_nil w) (by omega) i hi (inR_zero i))
  have hI := Lib.hid (fun w => cut_nil w i v hi hv)
  have hJ := Lib.hid all_nil
  have hiH := Lib.hid hi
  clear hi hv
  go_enter Try.func5, Try.ntmps5
  have b1H : Hid ((w.alloc (.cells #[.int .i64 kd, .int .i64 i, .int .i64 v] 28)).cell? ⟨w.heap.size, 1, none⟩ = some (.int .i64 i)) := Lib.hid (Lib.cell_of_heap (heap_alloc_new w (.cells #[.int .i64 kd, .int .i64 i, .int .i64 v] 28)) 1)
  have b2H : Hid ((w.alloc (.cells #[.int .i64 kd, .int .i64 i, .int .i64 v] 28)).cell? ⟨w.heap.size, 2, none⟩ = some (.int .i64 v)) := Lib.hid (Lib.cell_of_heap (heap_alloc_new w (.cells #[.int .i64 kd, .int .i64 i, .int .i64 v] 28)) 2)
  go_wp2_with (first
    | (go_at_call 10; ((with_reducible refine (hA.out _).mono ?_); rintro e w1 ⟨rfl, hO⟩; have hO1 := Lib.hid hO; have c1 := (World.cell?_of_block (a := ⟨w.heap.size, 1, none⟩) (hO.2 w.heap.size (by simp) (by simp))).trans b1H.out; have c2 := (World.cell?_of_block (a := ⟨w.heap.size, 2, none⟩) (hO.2 w.heap.size (by simp) (by simp))).trans b2H.out; clear hO))
    | (go_at_call 12; ((with_reducible refine (hB.out _).mono ?_); rintro e w2 ⟨rfl, hO⟩; have hO2 := Lib.hid hO; have hsz := hO1.out.size; have d1 := (World.cell?_of_block (a := ⟨w.heap.size, 1, none⟩) (hO.2 w.heap.size (by simp at hsz; omega) (by simp))).trans c1; have d2 := (World.cell?_of_block (a := ⟨w.heap.size, 2, none⟩) (hO.2 w.heap.size (by simp at hsz; omega) (by simp))).trans c2; clear hO))
    | (go_at_call 10; ((with_reducible refine (pop_none (zero_len w2) false).mono ?_); rintro e w3 ⟨rfl, hO⟩; have hO3 := Lib.hid hO; have hsz2 := hO2.out.size; have hsz3 := hO.size; have e1 : w3.cell? ⟨w.heap.size, 1, none⟩ = some (.int .i64 i) := (World.cell?_of_block (a := ⟨w.heap.size, 1, none⟩) (hO.2 w.heap.size (by simp at hsz ⊢; omega) (by simp))).trans (zero_cell d1 _); have e2 : w3.cell? ⟨w.heap.size, 2, none⟩ = some (.int .i64 v) := (World.cell?_of_block (a := ⟨w.heap.size, 2, none⟩) (hO.2 w.heap.size (by simp at hsz ⊢; omega) (by simp))).trans (zero_cell d2 _); have hd3 := Lib.hid ((zero_hd w2).keep hO (by simp)); have hB3 := Lib.hid (nobody_below hO1.out hO2.out hO); clear hO))
    | (go_at_call 20; ((with_reducible refine (hC.out _).mono ?_); rintro e w' ⟨rfl, rfl⟩))
    | (go_at_call 24; ((with_reducible refine (hD.out _).mono ?_); rintro e w' ⟨rfl, rfl⟩))
    | (go_at_call 8; ((with_reducible refine (hE.out _).mono ?_); rintro e w' ⟨rfl, rfl⟩))
    | (go_at_call 14; ((with_reducible refine (hF.out _).mono ?_); rintro e w' ⟨rfl, rfl⟩))
    | (go_at_call 16; ((with_reducible refine (hG.out _).mono ?_); rintro e w' ⟨rfl, rfl⟩))
    | (go_at_call 18; ((with_reducible refine (hH.out _).mono ?_); rintro e w' ⟨rfl, rfl⟩))
    | (go_at_call 23; ((with_reducible refine (hI.out _).mono ?_); rintro e w' ⟨rfl, rfl⟩))
    | (go_at_call 25; ((with_reducible refine (hJ.out _).mono ?_); rintro e w' ⟨rfl, rfl⟩)))
  have hw3 : w.heap.size < w2.heap.size := by
    have := hO1.out.size
    have := hO2.out.size
    simp at *
    omega
  have hw3H := Lib.hid hw3
  clear c1 c2 d1 d2 hsz hsz2 hsz3 hA hB hC hD hE hF hG hH hI hJ hw3
  have hR : Hid (∀ W, Hd W w2.heap.size none 0 0 0 → Calls Try.prog 18 #[.pointer (some ⟨w2.heap.size, 0, none⟩), .int .i64 i] W fun e w' => e = .returned (.bool false) ∧ W = w') := Lib.hid fun W hW => remove_none (len_any hW) (by omega) i hiH.out (inR_zero i)
  have hz3 : Hd w3 w2.heap.size none 0 0 0 := hd3.out
  have hz3d : Hd w3.drew w2.heap.size none 0 0 0 := hd3.out
  have hPu : Hid (∀ W, Hd W w2.heap.size none 0 0 0 → W.cell? ⟨w.heap.size, 1, none⟩ = some (.int .i64 i) → W.cell? ⟨w.heap.size, 2, none⟩ = some (.int .i64 v) → Only [] w W → ∀ front : Bool, Calls Try.prog 8 #[.pointer (some ⟨w2.heap.size, 0, none⟩), .bool front, .int .i64 v] W fun e w' => e = .returned (.bool true) ∧ NQ w w2.heap.size w.heap.size i v w' ∧ w.heap.size < w'.heap.size) :=
    Lib.hid fun W q1 q2 q3 q4 front => nq_push q1 q2 q3 q4 hw3H.out (Nat.le_of_lt hw3H.out) front
  have hb3 : Only [] w w3 := hB3.out
  have hb3d : Only [] w w3.drew := hB3.out.drew
  have e1d : w3.drew.cell? ⟨w.heap.size, 1, none⟩ = some (.int .i64 i) := e1
  have e2d : w3.drew.cell? ⟨w.heap.size, 2, none⟩ = some (.int .i64 v) := e2
  generalize hbb : w2.heap.size = D at *
  generalize hb0 : w.heap.size = b0 at *
  have hb0H := Lib.hid hb0
  clear hb0 hbb
  go_region_held3 (fun w' => w'.cell? ⟨b0, 1, none⟩ = some (.int .i64 i) ∧ w'.cell? ⟨b0, 2, none⟩ = some (.int .i64 v))
      (first | exact ⟨e1, e2⟩ | assumption | (refine ⟨?_, ?_⟩ <;> assumption) | exact ⟨zero_cell (by assumption) _, zero_cell (by assumption) _⟩)
      (first
      | (go_at_call 18; ((with_reducible refine (hR.out _ (by assumption)).mono ?_); rintro r w6 ⟨rfl, rfl⟩))
      | (go_at_call 8; ((with_reducible refine (hPu.out _ (by assumption) (by assumption) (by assumption) (by assumption) _).mono ?_); rintro r w7 ⟨rfl, h7⟩; have hq7 := Lib.hid h7; have t1 := h7.1.c1; have t2 := h7.1.c2; clear h7))
      | (go_at_call 25; (first | (with_reducible refine (nq_all hq7.out.1 hq7.out.2).mono ?_) | (with_reducible refine (nq_all (hq7.out.1.same ((Only.refl [] w7).alloc _) hq7.out.2) (by have := hq7.out.2; simp; omega)).mono ?_)); rintro r w8 ⟨u8, rfl, hR8, hQ8, hb8, hO8⟩; have hq8 := Lib.hid (And.intro hQ8 hb8); have hR8H := Lib.hid hR8; have hO8H := Lib.hid hO8; have u1 := hQ8.c1; have u2 := hQ8.c2; clear hR8 hQ8 hb8 hO8)
      | (go_at_call 22; (first | (with_reducible refine (nq_same (hq8.out.1.same ((Only.refl [] w8).alloc _) hq8.out.2) (by have := hq8.out.2; simp; omega) (hR8H.out.none ((Only.refl [] w8).alloc _)).src (one_src w8 v)).mono ?_) | (with_reducible refine (nq_same hq8.out.1 hq8.out.2 hR8H.out.src ((one_src w7 v).none hO8H.out)).mono ?_)); rintro r w9 ⟨rfl, h9⟩; have hq9 := Lib.hid h9; have x1 := h9.1.c1; have x2 := h9.1.c2; clear h9)
      | (go_at_call 6; ((with_reducible refine (nq_alive hq9.out.1 hq9.out.2).mono ?_); rintro r w10 ⟨rfl, h10⟩; have hq10 := Lib.hid h10; have y1 := h10.1.c1; have y2 := h10.1.c2; clear h10)))
  all_goals go_wp2_with fail
  all_goals go_ret
  all_goals exact ⟨rfl, hq10.out.1.only.below (Nat.le_refl _) (by simp)⟩

end Go.Proofs.Ytnmcedkinacbpaa
