/-
  The walks of what Feed calls first: a row written anew, an Input that is sound, the limits. Premises: lengths are small; numbers are such as Feed tells.
-/
import Derived.Test.YtjidopgohdlfdaaGreatDoorQJ
import Derived.Deep.CutRange
import Derived.StillTailTactics
namespace Go.Proofs.YtjidopgohdlfdaaGreatDoor
open Go.RowKit Dec Pq S4

theorem zero_own (w : World) : (w.alloc (.cells #[] 9)).ownsRow w.heap.size 9 1 (.slice (some ⟨w.heap.size, 0, none⟩) 0 0) 0 [] :=
  World.ownsRow_made w #[] 0 (Nat.le_refl _) (by decide) rfl
theorem strV_ones (l : List ByteArray) : ∀ u ∈ strV l, u.oneCell' = true := by
  intro u hu
  simp only [strV, List.mem_map] at hu
  obtain ⟨x, _, rfl⟩ := hu
  rfl
set_option maxRecDepth 100000 in
set_option maxHeartbeats 1000000 in
theorem row_nil (w : World) : Calls Tryz.prog 56 #[.slice none 0 0] w fun e w' => e = .returned (.slice none 0 0) ∧ w = w' := by
  have qT : ∀ (w : World) (a : Option Addr) (n c n' c' : Nat), (binOp .eql 49 (.slice a n c) (.slice none n' c')).run Tryz.prog w = .ok (.bool a.isNone) w := fun w a n c n' c' => Lib.run_eql_slice_nil w _ _ a n c n' c' Tryz.underlying49
  go_enter Tryz.func56, Tryz.ntmps56
  go_wp2_with fail
  go_ret
  exact ⟨rfl, rfl⟩
set_option maxRecDepth 100000 in
set_option maxHeartbeats 1000000 in
theorem row_some (a : Addr) (cap : Nat) (ss : List ByteArray) (w : World) (hn : ss.length ≤ 65536) (hr : ∀ i x, ss[i]? = some x → w.cell? (a.add i) = some (.string x) ∧ a.block < w.heap.size) :
    Calls Tryz.prog 56 #[.slice (some a) ss.length cap] w fun e w' => ∃ v, e = .returned v ∧ w'.ownsRow w.heap.size 9 1 v ss.length (strV ss) ∧ Below w.heap.size w w' := by
  have qT : ∀ (w : World) (a : Option Addr) (n c n' c' : Nat), (binOp .eql 49 (.slice a n c) (.slice none n' c')).run Tryz.prog w = .ok (.bool a.isNone) w := fun w a n c n' c' => Lib.run_eql_slice_nil w _ _ a n c n' c' Tryz.underlying49
  obtain ⟨i0, hi, hz0, hz1, hz2⟩ := info_parts str_info
  have hown := Lib.hid (zero_own w)
  have hrH := Lib.hid hr
  clear hr
  go_enter Tryz.func56, Tryz.ntmps56
  go_wp2_with (at_builtin; refine wpList_append_own_at _ rfl (.tmp 5) (.tmp 6) 49 rfl w.heap.size 9 i0 (.string ⟨#[]⟩) 1 16 Tryz.underlying49 hi hz0 hz1 hz2 rfl (by decide) (.slice (some ⟨w.heap.size, 0, none⟩) 0 0) 0 [] rfl hown.out a ss.length cap (strV ss) rfl (by simp [strV]) ?_ (strV_ones ss) (by unfold maxLen; omega) (by omega) (by simp) ?_)
  · intro j u hu
    simp only [strV, List.getElem?_map, Option.map_eq_some_iff] at hu
    obtain ⟨x, hx, rfl⟩ := hu
    obtain ⟨h1, h2⟩ := hrH.out j x hx
    exact (((Below.refl w.heap.size w).alloc (Nat.le_refl _) (.cells #[] 9)).cell (p := a.add j) (by rw [block_of_add]; exact h2)).trans h1
  intro v' w' hown' hg _ _
  have hb : Below w.heap.size w w' := ((Below.refl _ _).alloc (Nat.le_refl _) _).grown hg (by simp) (fun k hk => (hown.out.lt k hk).1)
  go_wp2_with fail
  go_ret
  exact ⟨v', rfl, by simpa using hown', hb⟩

def inV (rest : ByteArray) (u : Value) (left size : Nat) (body : Bool) (need : Nat) : Value := .agg #[.string rest, u, .int .i64 left, .int .i64 size, .bool body, .int .i64 need, .int .i64 0]
def inO (rest : ByteArray) (u : Value) (left size : Nat) (body : Bool) (need : Nat) : Obj := .cells #[.string rest, u, .int .i64 left, .int .i64 size, .bool body, .int .i64 need, .int .i64 0] 62
theorem betw_same {n hi : Int} (h0 : 0 ≤ n) (h1 : n ≤ hi) : betw n 0 hi = n := by unfold betw; omega
theorem between_same (n hi : Int) (w : World) (h0 : 0 ≤ n) (h1 : n ≤ hi) : Calls Tryz.prog 72 #[.int .i64 n, .int .i64 0, .int .i64 hi] w fun e w' => e = .returned (.int .i64 n) ∧ w = w' :=
  (between_any n 0 hi w).mono fun e w' ⟨h2, h3⟩ => ⟨by rw [h2, betw_same h0 h1], h3⟩
set_option maxRecDepth 100000 in
set_option maxHeartbeats 1000000 in
theorem sound_any (rest came : ByteArray) (a : Option Addr) (n c : Nat) (left size : Nat) (body : Bool) (need : Nat) (w : World) (h0 : left = 0 → Value.slice a n c = .slice none 0 0 ∧ size = 0 ∧ body = false ∧ need = 0) (hl : left ≤ 1000000000) (hs : size ≤ 1000000000) (hc : came.size ≤ 1000000000) :
    Calls Tryz.prog 57 #[.agg #[.string rest, .slice a n c, .int .i64 left, .int .i64 size, .bool body, .int .i64 need, .int .i64 0], .string came] w fun e w' => e = .returned (.agg #[.string came, .slice a n c, .int .i64 left, .int .i64 size, .bool body, .int .i64 need, .int .i64 0]) ∧ Below w.heap.size w w' := by
  rcases Nat.eq_zero_or_pos left with hz | hz
  · obtain ⟨hu, rfl, rfl, rfl⟩ := h0 hz
    obtain ⟨rfl, rfl, rfl⟩ : a = none ∧ n = 0 ∧ c = 0 := by simpa using hu
    subst hz
    go_enter Tryz.func57, Tryz.ntmps57
    go_wp2_with fail
    refine bodyPost_ret (v := .agg #[.string came, .slice none 0 0, .int .i64 0, .int .i64 0, .bool false, .int .i64 0, .int .i64 0]) (by simp [results, Tryz.results57, go_sem]) rfl ⟨rfl, ?_⟩
    first
      | exact ((Below.refl _ _).alloc (Nat.le_refl _) _).alloc (by simp) _
      | (repeat refine Below.setCell ?_ (by simp) _); exact ((Below.refl _ _).alloc (Nat.le_refl _) _).alloc (by simp) _
  · have hB := Lib.hid (fun w => between_same (size : Int) (9223372036854775807 - (came.size : Int)) w (by omega) (by omega))
    go_enter Tryz.func57, Tryz.ntmps57
    go_wp2_with (go_at_call 72; ((with_reducible refine (hB.out _).mono ?_); rintro e w' ⟨rfl, rfl⟩))
    refine bodyPost_ret (v := .agg #[.string came, .slice a n c, .int .i64 left, .int .i64 size, .bool body, .int .i64 need, .int .i64 0]) (by simp [results, Tryz.results57, go_sem]) rfl ⟨rfl, ?_⟩
    first
      | exact ((Below.refl _ _).alloc (Nat.le_refl _) _).alloc (by simp) _
      | (repeat refine Below.setCell ?_ (by simp) _); exact ((Below.refl _ _).alloc (Nat.le_refl _) _).alloc (by simp) _
theorem between_at (n lo hi : Int) (w : World) : Calls Tryz.prog 72 #[.int .i64 n, .int .i64 lo, .int .i64 hi] w fun e w' => e = .returned (.int .i64 (betw n lo hi)) ∧ w' = w :=
  (between_any n lo hi w).mono fun _ _ ⟨h1, h2⟩ => ⟨h1, h2.symm⟩
set_option maxRecDepth 100000 in
set_option maxHeartbeats 1000000 in
theorem limits_any (a b l : Int) (w : World) :
    Calls Tryz.prog 58 #[.agg #[.int .i64 a, .int .i64 b, .int .i64 l]] w fun e w' => e = .returned (.agg #[.int .i64 (betw a 1 65536), .int .i64 (betw b 1 1048576), .int .i64 (betw l 1 65536)]) ∧ Below w.heap.size w w' := by
  have hn1 := heap_alloc_new w (.cells #[.int .i64 a, .int .i64 b, .int .i64 l] 67)
  have hn2 := heap_alloc_new (w.alloc (.cells #[.int .i64 a, .int .i64 b, .int .i64 l] 67)) (.cells #[.int .i64 0, .int .i64 0, .int .i64 0] 67)
  have hn1' := (Lib.alloc_old (w.alloc (.cells #[.int .i64 a, .int .i64 b, .int .i64 l] 67)) (.cells #[.int .i64 0, .int .i64 0, .int .i64 0] 67) w.heap.size (by simp)).trans hn1
  have hb := (((Below.refl w.heap.size w).alloc (Nat.le_refl _) (.cells #[.int .i64 a, .int .i64 b, .int .i64 l] 67)).alloc (by simp) (.cells #[.int .i64 0, .int .i64 0, .int .i64 0] 67)).drew
  simp only [World.size_alloc] at hn2
  go_enter Tryz.func58, Tryz.ntmps58
  go_wp2_with fail
  generalize ((w.alloc (.cells #[.int .i64 a, .int .i64 b, .int .i64 l] 67)).alloc (.cells #[.int .i64 0, .int .i64 0, .int .i64 0] 67)) = W0 at hn1' hn2 hb ⊢
  refine wp_region_still_tail 10 (by kernel_rfl) (by kernel_rfl) ?_
  simp only [List.take_succ_cons, List.take_zero, List.drop_succ_cons, List.drop_zero]
  have c0 : W0.drew.cell? ⟨w.heap.size, 0, none⟩ = some (.int .i64 a) := Lib.cell_of_heap hn1' 0
  have c1 : W0.drew.cell? ⟨w.heap.size, 1, none⟩ = some (.int .i64 b) := Lib.cell_of_heap hn1' 1
  have c2 : W0.drew.cell? ⟨w.heap.size, 2, none⟩ = some (.int .i64 l) := Lib.cell_of_heap hn1' 2
  have hn3 : W0.drew.heap[w.heap.size + 1]? = some (.cells #[.int .i64 0, .int .i64 0, .int .i64 0] 67 (0, 0)) := hn2
  clear hn1' hn1 hn2
  change wpStill _ _ W0.drew (fun a' => wpList _ _ _ _ a' W0.drew) _ _
  generalize W0.drew = W1 at c0 c1 c2 hn3 hb ⊢
  still_step
  still_step
  still_call (between_at _ _ _ _)
  still_step
  still_step
  still_call (between_at _ _ _ _)
  still_step
  still_step
  still_call (between_at _ _ _ _)
  still_step
  refine wpStill_nil ?_
  have d0 := Lib.cell_of_heap hn3 0
  have d1 := Lib.cell_of_heap hn3 1
  have d2 := Lib.cell_of_heap hn3 2
  have f0 := Lib.frozen_of_heap hn3 0
  have f1 := Lib.frozen_of_heap hn3 1
  have f2 := Lib.frozen_of_heap hn3 2
  go_wp2_with fail
  have hl : (((W1.setCell ⟨w.heap.size + 1, 0, none⟩ (.int .i64 (betw a 1 65536))).setCell ⟨w.heap.size + 1, 1, none⟩ (.int .i64 (betw b 1 1048576))).setCell ⟨w.heap.size + 1, 2, none⟩ (.int .i64 (betw l 1 65536))).heap[w.heap.size + 1]? = some (.cells #[.int .i64 (betw a 1 65536), .int .i64 (betw b 1 1048576), .int .i64 (betw l 1 65536)] 67 (0, 0)) := by
    simp [World.setCell, Array.getElem?_modify, hn3]
  have hB := ((hb.setCell (p := ⟨w.heap.size + 1, 0, none⟩) (by simp) (.int .i64 (betw a 1 65536))).setCell (p := ⟨w.heap.size + 1, 1, none⟩) (by simp) (.int .i64 (betw b 1 1048576))).setCell (p := ⟨w.heap.size + 1, 2, none⟩) (by simp) (.int .i64 (betw l 1 65536))
  generalize (((W1.setCell ⟨w.heap.size + 1, 0, none⟩ (.int .i64 (betw a 1 65536))).setCell ⟨w.heap.size + 1, 1, none⟩ (.int .i64 (betw b 1 1048576))).setCell ⟨w.heap.size + 1, 2, none⟩ (.int .i64 (betw l 1 65536))) = w9 at hl hB ⊢
  have e0 : w9.cell? ⟨w.heap.size + 1, 0, none⟩ = some (.int .i64 (betw a 1 65536)) := Lib.cell_of_heap hl 0
  have e1 : w9.cell? ⟨w.heap.size + 1, 1, none⟩ = some (.int .i64 (betw b 1 1048576)) := Lib.cell_of_heap hl 1
  have e2 : w9.cell? ⟨w.heap.size + 1, 2, none⟩ = some (.int .i64 (betw l 1 65536)) := Lib.cell_of_heap hl 2
  refine bodyPost_ret (v := .agg #[.int .i64 (betw a 1 65536), .int .i64 (betw b 1 1048576), .int .i64 (betw l 1 65536)]) (by simp [results, Tryz.results58, go_sem, e0, e1, e2]) rfl ⟨rfl, hB⟩
end Go.Proofs.YtjidopgohdlfdaaGreatDoor
