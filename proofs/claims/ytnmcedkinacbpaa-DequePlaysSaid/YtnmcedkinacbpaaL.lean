/-
  The walk of New; the list that nobody made: its first push.
-/
import Derived.Test.YtnmcedkinacbpaaK
namespace Go.Proofs.Ytnmcedkinacbpaa
open Go.RowKit

/-- Numbers that are read from a slice, wherever it lies. -/
def SrcI (w : World) (v : Value) (L : List Int) : Prop := (v = .slice none 0 0 ∧ L = []) ∨ ∃ ad c, v = .slice (some ad) L.length c ∧ ∀ j x, L[j]? = some x → ad.block < w.heap.size ∧ w.cell? (ad.add j) = some (.int .i64 x)
theorem SrcI.none {w w' : World} {v : Value} {L : List Int} (h : SrcI w v L) (ho : Only [] w w') : SrcI w' v L := by
  rcases h with h | ⟨ad, c, rfl, h⟩
  · exact Or.inl h
  · refine Or.inr ⟨ad, c, rfl, fun j x hj => ?_⟩
    obtain ⟨h1, h2⟩ := h j x hj
    refine ⟨by have := ho.size; omega, ?_⟩
    have hb : w'.heap[(ad.add j).block]? = w.heap[(ad.add j).block]? := ho.2 _ (by rw [add_block]; exact h1) (by simp)
    exact (World.cell?_of_block (w := w) hb).trans h2
theorem RowI.src {w : World} {base : Nat} {v : Value} {L : List Int} (h : RowI w base v L) : SrcI w v L := by
  rcases h.form with h | ⟨g, cap, rfl, h1, h2, h3, h4⟩
  · exact Or.inl h
  · refine Or.inr ⟨_, _, rfl, fun j x hj => ⟨h2, ?_⟩⟩
    rw [← (h4 j x hj).1]
    congr 1
    unfold Addr.add
    split <;> simp_all
theorem SrcI.len {w : World} {v : Value} {L : List Int} (h : SrcI w v L) : ∃ (A : Option Addr) (c : Nat), v = .slice A L.length c := by
  rcases h with ⟨rfl, rfl⟩ | ⟨ad, c, rfl, _⟩
  · exact ⟨_, _, rfl⟩
  · exact ⟨_, _, rfl⟩
theorem SrcI.cells {w : World} {A : Option Addr} {n c : Nat} {L : List Int} (h : SrcI w (.slice A n c) L) (hp : 0 < L.length) : ∃ ad, A = some ad ∧ ∀ j v, (vals L)[j]? = some v → w.cell? (ad.add j) = some v := by
  rcases h with ⟨_, rfl⟩ | ⟨ad, c', he, h⟩
  · simp at hp
  · cases he
    refine ⟨ad, rfl, fun j v hj => ?_⟩
    obtain ⟨x, hx, rfl⟩ := vals_inv hj
    exact (h j x hx).2

theorem new_dq {w w2 : World} {L : List Int} (hl : L.length ≤ 1048576) (hb : Below w.heap.size w w2) (hX : w2.heap[w.heap.size]? = some (.cells (splice (List.replicate L.length (Value.int .i64 0)) 0 (vals L)).toArray 3 (0, 0))) (hs : w.heap.size < w2.heap.size) :
    DQ (w2.alloc (.cells #[.slice (some ⟨w.heap.size, 0, none⟩) L.length L.length, .int .i64 0, .int .i64 (L.length : Int)] 50)) w2.heap.size w.heap.size L.length 0 L ∧ Only [] w (w2.alloc (.cells #[.slice (some ⟨w.heap.size, 0, none⟩) L.length L.length, .int .i64 0, .int .i64 (L.length : Int)] 50)) := by
  have ho : Only [] w w2 := ⟨hb.mono (Nat.zero_le _), fun k hk _ => hb.block k hk⟩
  refine ⟨⟨heap_alloc_new w2 _, ⟨_, (Below.heap_alloc w2 _ _ hs).trans hX, ?_, fun k _ hk => ?_⟩, ⟨by omega, Nat.le_refl _, hl⟩, by omega⟩, ho.alloc _⟩
  · rw [List.size_toArray, length_splice _ _ _ (by rw [vals_len, List.length_replicate]; omega), List.length_replicate]
  · rw [rot_zero hk, List.getElem?_toArray, splice_at _ _ _ (by rw [vals_len, List.length_replicate]; omega), if_neg (by omega), if_pos (by rw [vals_len]; omega), Nat.sub_zero, vals_at (nth_at hk)]
set_option maxHeartbeats 1000000 in
theorem new_any {w : World} {v : Value} {L : List Int} (h : SrcI w v L) (hl : L.length < 1048576) :
    Calls Try.prog 7 #[v] w fun e w' => ∃ D g, e = .returned (.pointer (some ⟨D, 0, none⟩)) ∧ DQ w' D g L.length 0 L ∧ w.heap.size ≤ D ∧ w.heap.size ≤ g ∧ Only [] w w' := by
  obtain ⟨A, c, rfl⟩ := h.len
  have hmk := fun w => run_ints (L.length : Int) L.length rfl (by omega) w
  obtain ⟨X, hX⟩ : ∃ X, X = vals L := ⟨_, rfl⟩
  have hXl : X.length = L.length := by rw [hX, vals_len]
  have hX1 : Hid (∀ u ∈ X, u.oneCell' = true) := Lib.hid (by rw [hX]; exact vals_one L)
  have hsrc : Hid (0 < X.length → ∃ ad, A = some ad ∧ ∀ j u, X[j]? = some u → (w.alloc (intObj L.length)).cell? (ad.add j) = some u) := by
    refine Lib.hid (fun hp => ?_)
    have ho : Only [] w (w.alloc (intObj L.length)) := (Only.refl _ _).alloc _
    obtain ⟨ad, h1, h2⟩ := (h.none ho).cells (by omega)
    exact ⟨ad, h1, by rw [hX]; exact h2⟩
  have hXH := Lib.hid hX
  have hnew := Lib.hid (fun (w2 : World) (hb : Below w.heap.size w w2) (hX : w2.heap[w.heap.size]? = some (.cells (splice (List.replicate L.length (Value.int .i64 0)) 0 (vals L)).toArray 3 (0, 0))) (hs : w.heap.size < w2.heap.size) => new_dq (by omega) hb hX hs)
  rw [← hX] at hnew
  have hlH := Lib.hid hl
  have hmin : (L.length : Int) ≤ 1048576 := by omega
  clear h hX
  obtain ⟨Y, hY⟩ : ∃ Y, Y = List.replicate L.length (Value.int .i64 0) := ⟨_, rfl⟩
  have hYl : Y.length = L.length := by rw [hY, List.length_replicate]
  rw [← hY] at hnew
  have hobj : Hid (intObj L.length = .cells Y.toArray 3) := Lib.hid (by rw [hY]; rfl)
  clear hY
  generalize L.length = n at *
  go_enter Try.func7, Try.ntmps7
  go_wp2_with (refine wpList_copy_splice (P := Try.prog) (w := w.alloc (intObj n)) (o := ⟨some 10, _, _, _, _, _⟩) (by rfl) (.tmp 8) (.tmp 9) 22 22 (by rfl) 3 Try.underlying22 (by kernel_rfl) (some ⟨w.heap.size, 0, none⟩) A n n n c (by rfl) (by rfl) w.heap.size 0 Y 3 (by rw [hobj.out]; exact heap_alloc_new w _) X (by rw [hXl]; exact (Nat.min_self _).symm) (fun hp => ⟨rfl, hsrc.out hp⟩) (by omega) hX1.out w.heap.size (w.alloc (intObj n)) (Below.refl _ _) (Nat.le_refl _) ?_; intro w2 hX2 hB2; have hB2H := Lib.hid hB2; clear hB2)
  go_ret
  have hb := hB2H.out
  have hsz := hb.size
  simp at hsz
  have hb2 : Below w.heap.size w w2 := ((Below.refl _ _).alloc (Nat.le_refl _) _).trans hb
  obtain ⟨k1, k2⟩ := hnew.out w2 hb2 hX2.out (by omega)
  exact ⟨_, _, rfl, k1, by omega, Nat.le_refl _, k2⟩

theorem round_zero {w : World} {D : Nat} (h : Hd w D none 0 0 0) : Calls Try.prog 27 #[.pointer (some ⟨D, 0, none⟩), .int .i64 0] w fun e w' => e = .returned (.int .i64 0) ∧ w = w' := round_any h ⟨Or.inr ⟨rfl, rfl⟩, by omega, by omega⟩ 0 (by omega)
theorem pieces_zero {w : World} {D : Nat} (h : Hd w D none 0 0 0) :
    Calls Try.prog 38 #[.pointer (some ⟨D, 0, none⟩), .int .i64 0, .int .i64 0] w fun e w' => e = .returned (.tuple #[.slice none 0 0, .slice none 0 0]) ∧ ∃ k, w' = w.drewN k := by
  obtain ⟨c0, c1, c2, _⟩ := h.facts
  have hC := Lib.hid (round_zero h)
  clear h
  go_enter Try.func38, Try.ntmps38
  go_wp2_with (go_at_call 27; ((with_reducible refine (hC.out).mono ?_); rintro e w' ⟨rfl, rfl⟩))
  go_quiet (fail)
  go_wp2_with fail
  all_goals go_quiet (fail)
  all_goals go_wp2
  all_goals go_ret2
  all_goals exact ⟨rfl, _, World.drewN_drewN ..⟩
theorem copyTo_zero {w : World} {D : Nat} (h : Hd w D none 0 0 0) (b : Nat) :
    Calls Try.prog 36 #[.pointer (some ⟨D, 0, none⟩), .slice (some ⟨b, 0, none⟩) 0 8, .int .i64 0] w fun e w' => e = .returned (.tuple #[]) ∧ ∃ k, w' = w.drewN k := by
  have hP := Lib.hid (pieces_zero h)
  clear h
  go_enter Try.func36, Try.ntmps36
  go_wp2_with (first
    | (go_at_call 38; ((with_reducible refine (hP.out).mono ?_); rintro e w' ⟨rfl, kd, rfl⟩))
    | (refine wpList_copy_nothing (P := Try.prog) (o := ⟨some 19, _, _, _, _, _⟩) (by rfl) (.tmp 17) (.tmp 18) 22 22 (by rfl) 3 Try.underlying22 (by kernel_rfl) (some ⟨b, 0, none⟩) none 0 8 0 0 (by rfl) (by rfl) (by rfl) ?_; simp only [goInt])
    | (refine wpList_copy_nothing (P := Try.prog) (o := ⟨some 22, _, _, _, _, _⟩) (by rfl) (.tmp 20) (.tmp 21) 22 22 (by rfl) 3 Try.underlying22 (by kernel_rfl) (some ⟨b, 0, none⟩) none 0 8 0 0 (by rfl) (by rfl) (by rfl) ?_))
  all_goals go_end0
  exact ⟨rfl, _, rfl⟩
set_option maxHeartbeats 1000000 in
theorem move_zero {w : World} {D : Nat} (h : Hd w D none 0 0 0) :
    Calls Try.prog 26 #[.pointer (some ⟨D, 0, none⟩)] w fun e w' => e = .returned (.tuple #[]) ∧ Moved w D 0 (nth []) w' := by
  have hD := some_lt h
  obtain ⟨c0, c1, c2, f0, f1, f2⟩ := h.facts
  have ho : Only [] w (w.alloc (intObj 8)) := (Only.refl _ _).alloc _
  have hK := Lib.hid (copyTo_zero (h.keep ho (by simp)) w.heap.size)
  have hmk := fun w => run_ints (8 : Int) 8 rfl (by omega) w
  have hhH := Lib.hid h
  clear h ho
  go_enter Try.func26, Try.ntmps26
  go_wp2_with (go_at_call 36; ((with_reducible refine (hK.out).mono ?_); rintro e w2 ⟨rfl, kd, rfl⟩))
  all_goals go_end0
  exact ⟨rfl, moved_mk (N' := 8) hD (moved_hd hD hhH.out (below_drewN (Below.refl _ _) kd)) (below_drewN (Below.refl _ _) kd) (heap_alloc_new w _) rfl (fun j hj => absurd hj (by omega)) (by omega) (by omega) (by omega) (fun _ => by omega)⟩
theorem room_zero {w : World} {D k : Nat} {w5 : World} (hD : D < w.heap.size) (h : Moved (w.drewN k) D 0 (nth []) w5) : ∃ g1 N1 f1, Room w D D [] g1 N1 f1 w5 := by
  obtain ⟨N', k1, k2, k3, k4, k5, _⟩ := h
  have hz : (w.drewN k).heap.size = w.heap.size := rfl
  rw [hz] at k1 k2
  exact ⟨w.heap.size, N', 0, ⟨k1, k2, k3, by omega⟩, k4 (by omega), Only.mono (O := [D]) (((Only.refl [D] _).drewN k).trans k5 (fun x hx => Or.inl hx)) (by simp), Or.inr (Nat.le_refl _)⟩
set_option maxHeartbeats 4000000 in
theorem push_zero {w : World} {D : Nat} (h : Hd w D none 0 0 0) (front : Bool) (v : Int) :
    Calls Try.prog 8 #[.pointer (some ⟨D, 0, none⟩), .bool front, .int .i64 v] w fun e w' => e = .returned (.bool true) ∧ Left w D D (pushF front v []) w' := by
  have hD := some_lt h
  have hM := Lib.hid (fun k => (move_zero (h.drewN k)))
  have hRM := Lib.hid (fun (k : Nat) (w5 : World) (hm : Moved (w.drewN k) D 0 (nth []) w5) => room_zero hD hm)
  obtain ⟨c0, c1, c2, f0, f1, f2⟩ := h.facts
  have hnH : Hid (0 = ([] : List Int).length) := Lib.hid rfl
  clear h
  cases front
  · go_enter Try.func8, Try.ntmps8
    go_wp2_with fail
    go_quiet (fail)
    go_wp2_with (first
      | (go_at_call 26; ((with_reducible refine (hM.out _).mono ?_); rintro e w1 ⟨rfl, hM1⟩; obtain ⟨g1, N1, f1, hr⟩ := hRM.out _ _ hM1; have hrH := Lib.hid hr; obtain ⟨b0, b1, b2, e0, e1, e2⟩ := (room_head hr hnH.out).facts; clear hM1 hr))
      | (go_at_call 29; have hT : Tail w D D false 0 0 (rot N1 f1 0) g1 (fun v => [] ++ [v]) (w1.setCell ⟨D, 2, none⟩ (.int .i64 1)) := tail_back hrH.out hnH.out 1 (by omega); generalize w1.setCell ⟨D, 2, none⟩ (.int .i64 1) = W at *; have hTH := Lib.hid hT; obtain ⟨⟨u, hu⟩, hv⟩ := hT.cell; clear hT; ((with_reducible refine (hTH.out.ends).mono ?_); rintro e w' ⟨rfl, rfl⟩))
      | (go_at_call 28; ((with_reducible refine (hTH.out.slot).mono ?_); rintro e w' ⟨rfl, kk, rfl⟩)))
    all_goals go_ret
    exact ⟨rfl, hTH.out.left kk v⟩
  · go_enter Try.func8, Try.ntmps8
    go_wp2_with fail
    go_quiet (fail)
    go_wp2_with (first
      | (go_at_call 26; ((with_reducible refine (hM.out _).mono ?_); rintro e w1 ⟨rfl, hM1⟩; obtain ⟨g1, N1, f1, hr⟩ := hRM.out _ _ hM1; have hrH := Lib.hid hr; have hN1 := wrap_small (x := (N1 : Int) - 1) (room_small hr); have hR := Lib.hid (room_round hr); obtain ⟨b0, b1, b2, e0, e1, e2⟩ := (room_head hr hnH.out).facts; clear hM1 hr))
      | (go_at_call 27; ((with_reducible refine (hR.out).mono ?_); rintro e w' ⟨rfl, rfl⟩))
      | (go_at_call 29; have hT := tail_front hrH.out hnH.out 1 (by omega); generalize (w1.setCell ⟨D, 1, none⟩ (.int .i64 (rot N1 f1 (N1 - 1) : Nat))).setCell ⟨D, 2, none⟩ (.int .i64 1) = W at *; have hTH := Lib.hid hT; obtain ⟨⟨u, hu⟩, hv⟩ := hT.cell; clear hT; ((with_reducible refine (hTH.out.ends).mono ?_); rintro e w' ⟨rfl, rfl⟩))
      | (go_at_call 28; ((with_reducible refine (hTH.out.slot).mono ?_); rintro e w' ⟨rfl, kk, rfl⟩)))
    all_goals go_ret
    exact ⟨rfl, hTH.out.left kk v⟩

end Go.Proofs.Ytnmcedkinacbpaa
