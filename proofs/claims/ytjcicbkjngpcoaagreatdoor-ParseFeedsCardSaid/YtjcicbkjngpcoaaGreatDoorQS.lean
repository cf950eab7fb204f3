/-
  The walks of the reference's limits and of what it puts. Premises: lengths are small.
-/
import Derived.Test.YtjcicbkjngpcoaaGreatDoorQO
import Derived.Test.YtjcicbkjngpcoaaGreatDoorQQ
namespace Go.Proofs.YtjcicbkjngpcoaaGreatDoor
open Go.RowKit Dec Pq S4

theorem rbetween_any (n hi : Int) (w : World) (hh : 1 ≤ hi) : Calls Tryz.prog 24 #[.int .i64 n, .int .i64 hi] w fun e w' => e = .returned (.int .i64 (betw n 1 hi)) ∧ w' = w := by
  have key : betw n 1 hi = if n < 1 then 1 else if hi < n then hi else n := by unfold betw; split <;> (try split) <;> omega
  by_cases h1 : n < 1
  · rw [key, if_pos h1]
    clear key
    go_enter Tryz.func24, Tryz.ntmps24
    go_wp2_with fail
    go_ret
    exact ⟨rfl, rfl⟩
  · by_cases h2 : hi < n
    · rw [key, if_neg h1, if_pos h2]
      clear key
      go_enter Tryz.func24, Tryz.ntmps24
      go_wp2_with fail
      go_ret
      exact ⟨rfl, rfl⟩
    · rw [key, if_neg h1, if_neg h2]
      clear key
      go_enter Tryz.func24, Tryz.ntmps24
      go_wp2_with fail
      go_ret
      exact ⟨rfl, rfl⟩
set_option maxRecDepth 100000 in
set_option maxHeartbeats 1000000 in
theorem rlimits_any (a b l : Int) (w : World) :
    Calls Tryz.prog 12 #[.agg #[.int .i64 a, .int .i64 b, .int .i64 l]] w fun e w' => e = .returned (.agg #[.int .i64 (betw a 1 65536), .int .i64 (betw b 1 1048576), .int .i64 (betw l 1 65536)]) ∧ Below w.heap.size w w' := by
  have hn1 := heap_alloc_new w (.cells #[.int .i64 a, .int .i64 b, .int .i64 l] 23)
  have hn2 := heap_alloc_new (w.alloc (.cells #[.int .i64 a, .int .i64 b, .int .i64 l] 23)) (.cells #[.int .i64 0, .int .i64 0, .int .i64 0] 23)
  have hn1' := (Lib.alloc_old (w.alloc (.cells #[.int .i64 a, .int .i64 b, .int .i64 l] 23)) (.cells #[.int .i64 0, .int .i64 0, .int .i64 0] 23) w.heap.size (by simp)).trans hn1
  have hb := (((Below.refl w.heap.size w).alloc (Nat.le_refl _) (.cells #[.int .i64 a, .int .i64 b, .int .i64 l] 23)).alloc (by simp) (.cells #[.int .i64 0, .int .i64 0, .int .i64 0] 23)).drew
  simp only [World.size_alloc] at hn2
  go_enter Tryz.func12, Tryz.ntmps12
  go_wp2_with fail
  generalize ((w.alloc (.cells #[.int .i64 a, .int .i64 b, .int .i64 l] 23)).alloc (.cells #[.int .i64 0, .int .i64 0, .int .i64 0] 23)) = W0 at hn1' hn2 hb ⊢
  refine wp_region_still_tail 10 (by kernel_rfl) (by kernel_rfl) ?_
  simp only [List.take_succ_cons, List.take_zero, List.drop_succ_cons, List.drop_zero]
  have c0 : W0.drew.cell? ⟨w.heap.size, 0, none⟩ = some (.int .i64 a) := Lib.cell_of_heap hn1' 0
  have c1 : W0.drew.cell? ⟨w.heap.size, 1, none⟩ = some (.int .i64 b) := Lib.cell_of_heap hn1' 1
  have c2 : W0.drew.cell? ⟨w.heap.size, 2, none⟩ = some (.int .i64 l) := Lib.cell_of_heap hn1' 2
  have hn3 : W0.drew.heap[w.heap.size + 1]? = some (.cells #[.int .i64 0, .int .i64 0, .int .i64 0] 23 (0, 0)) := hn2
  clear hn1' hn1 hn2
  change wpStill _ _ W0.drew (fun a' => wpList _ _ _ _ a' W0.drew) _ _
  generalize W0.drew = W1 at c0 c1 c2 hn3 hb ⊢
  still_step
  still_step
  still_call (rbetween_any _ _ _ (by decide))
  still_step
  still_step
  still_call (rbetween_any _ _ _ (by decide))
  still_step
  still_step
  still_call (rbetween_any _ _ _ (by decide))
  still_step
  refine wpStill_nil ?_
  have d0 := Lib.cell_of_heap hn3 0
  have d1 := Lib.cell_of_heap hn3 1
  have d2 := Lib.cell_of_heap hn3 2
  have f0 := Lib.frozen_of_heap hn3 0
  have f1 := Lib.frozen_of_heap hn3 1
  have f2 := Lib.frozen_of_heap hn3 2
  go_wp2_with fail
  have hl : (((W1.setCell ⟨w.heap.size + 1, 0, none⟩ (.int .i64 (betw a 1 65536))).setCell ⟨w.heap.size + 1, 1, none⟩ (.int .i64 (betw b 1 1048576))).setCell ⟨w.heap.size + 1, 2, none⟩ (.int .i64 (betw l 1 65536))).heap[w.heap.size + 1]? = some (.cells #[.int .i64 (betw a 1 65536), .int .i64 (betw b 1 1048576), .int .i64 (betw l 1 65536)] 23 (0, 0)) := by
    simp [World.setCell, Array.getElem?_modify, hn3]
  have hB := ((hb.setCell (p := ⟨w.heap.size + 1, 0, none⟩) (by simp) (.int .i64 (betw a 1 65536))).setCell (p := ⟨w.heap.size + 1, 1, none⟩) (by simp) (.int .i64 (betw b 1 1048576))).setCell (p := ⟨w.heap.size + 1, 2, none⟩) (by simp) (.int .i64 (betw l 1 65536))
  generalize (((W1.setCell ⟨w.heap.size + 1, 0, none⟩ (.int .i64 (betw a 1 65536))).setCell ⟨w.heap.size + 1, 1, none⟩ (.int .i64 (betw b 1 1048576))).setCell ⟨w.heap.size + 1, 2, none⟩ (.int .i64 (betw l 1 65536))) = w9 at hl hB ⊢
  have e0 : w9.cell? ⟨w.heap.size + 1, 0, none⟩ = some (.int .i64 (betw a 1 65536)) := Lib.cell_of_heap hl 0
  have e1 : w9.cell? ⟨w.heap.size + 1, 1, none⟩ = some (.int .i64 (betw b 1 1048576)) := Lib.cell_of_heap hl 1
  have e2 : w9.cell? ⟨w.heap.size + 1, 2, none⟩ = some (.int .i64 (betw l 1 65536)) := Lib.cell_of_heap hl 2
  refine bodyPost_ret (v := .agg #[.int .i64 (betw a 1 65536), .int .i64 (betw b 1 1048576), .int .i64 (betw l 1 65536)]) (by simp [results, Tryz.results12, go_sem, e0, e1, e2]) rfl ⟨rfl, hB⟩
theorem dec_nat (n : Nat) : (dec (n : Int)).data.toList = Lib.decDigits n := by rw [dec_data, itoa_nat]
theorem dec_nat_size (n : Nat) (h : n ≤ 9223372036854775807) : (dec (n : Int)).size ≤ 20 := by
  have e : (dec (n : Int)).data.toList.length = (dec (n : Int)).size := size_len _
  rw [← e, dec_nat, Lib.decDigits_length]
  exact Lib.nDigits_le20 n (by omega)
set_option maxHeartbeats 1000000 in
theorem rtextq_any (u : Nat) (w : World) (h1 : u ≤ 9223372036854775807) :
    Calls Tryz.prog 28 #[.int .i64 u] w fun e w' => e = .returned (.string (dec u)) ∧ ∃ m, w' = w.drewN m := by
  have hl : (Lib.decDigits u).length ≤ 20 := by rw [Lib.decDigits_length]; exact Lib.nDigits_le20 u (by omega)
  go_enter Tryz.func28, Tryz.ntmps28
  go_wp2_with (go_at_call 40; refine (rdigits_any u u _ (Nat.le_refl _) (by omega)).mono ?_; rintro e w' ⟨rfl, k, rfl⟩)
  go_ret
  exact ⟨ret_str (bytes_eq (by rw [dec_nat])), _, rfl⟩
/-- What is put of the first so many. -/
def putB (ss : List ByteArray) (k : Nat) : List UInt8 := 42 :: (Lib.decDigits ss.length ++ 13 :: 10 :: (txt (ss.take k)).flatMap putA)
theorem putB_all (ss : List ByteArray) : putB ss ss.length = putF (txt ss) := by
  unfold putB putF
  rw [List.take_length]
  simp [txt]
theorem putB_next {ss : List ByteArray} {k : Nat} {x : ByteArray} (h : ss[k]? = some x) : putB ss (k + 1) = putB ss k ++ putA x.data.toList := by
  unfold putB
  rw [List.take_add_one, h]
  simp [txt, List.flatMap_append]
def sz (ss : List ByteArray) : Nat := (ss.map (·.size)).sum
theorem sz_next {ss : List ByteArray} {k : Nat} {x : ByteArray} (h : ss[k]? = some x) : sz (ss.take (k + 1)) = sz (ss.take k) + x.size := by
  unfold sz
  rw [List.take_add_one, h]
  simp
theorem sz_take (ss : List ByteArray) (k : Nat) : sz (ss.take k) ≤ sz ss := by
  unfold sz
  rw [List.map_take]
  conv => rhs; rw [← List.take_append_drop k (ss.map (·.size))]
  rw [List.sum_append]
  omega
set_option maxRecDepth 100000 in
set_option maxHeartbeats 4000000 in
theorem rputq (A : Option Addr) (c : Nat) (ss : List ByteArray) (w : World) (hr : SOk w Tr A ss) (hn : ss.length ≤ 1000) (hs : sz ss ≤ 100000) :
    Calls Tryz.prog 15 #[.slice A ss.length c] w fun e w' => e = .returned (.string ⟨(putF (txt ss)).toArray⟩) ∧ ∃ m, w' = w.drewN m := by
  have hrH := Lib.hid hr
  clear hr
  have hd0 := dec_nat_size ss.length (by omega)
  have hT0 := Lib.hid (rtextq_any ss.length)
  go_enter Tryz.func15, Tryz.ntmps15
  go_wp2_with (go_at_call 28; ((with_reducible refine (hT0.out _ (by omega)).mono ?_); rintro e w1 ⟨rfl, hw1⟩))
  have hwH := Lib.hid hw1
  have hb0 : Hid ((⟨#[42]⟩ ++ dec (ss.length : Int) ++ ⟨#[13, 10]⟩ : ByteArray).data.toList = putB ss 0) := Lib.hid (by
    rw [append_data, append_data, dec_nat]
    simp [putB, txt])
  have hz0 : (⟨#[42]⟩ ++ dec (ss.length : Int) ++ ⟨#[13, 10]⟩ : ByteArray).size ≤ 30 + 30 * 0 + sz (ss.take 0) := by
    rw [ByteArray.size_append, ByteArray.size_append]
    show 1 + _ + 2 ≤ _
    omega
  clear hw1
  generalize (⟨#[42]⟩ ++ dec (ss.length : Int) ++ ⟨#[13, 10]⟩ : ByteArray) = s0 at hb0 hz0 ⊢
  go_loopw [3, 4] (fun s i wr => ∃ (k : Nat) (b : ByteArray), i = .int .i64 k ∧ k ≤ ss.length ∧ s = .string b ∧ Hid (b.data.toList = putB ss k) ∧ b.size ≤ 30 + 30 * k + sz (ss.take k) ∧ Hid (∃ m, wr = w.drewN m)) (fun _ i _ => ss.length - (intOf i).toNat)
  case atStart => exact ⟨0, s0, rfl, by omega, rfl, hb0, hz0, hwH⟩
  case round =>
    clear hb0 hz0 hwH
    obtain ⟨k, b, rfl, hk, rfl, hb, hz, hW⟩ := hrel
    have hle := sz_take ss k
    by_cases hlt : k < ss.length
    · obtain ⟨x, hx⟩ : ∃ x, ss[k]? = some x := ⟨_, List.getElem?_eq_getElem hlt⟩
      obtain ⟨a, rfl, _, _, hc⟩ := hrH.out k x hx
      have hsn := sz_next hx
      have hle2 := sz_take ss (k + 1)
      have hnx := Lib.hid (putB_next hx)
      obtain ⟨m, hm⟩ := hW.out
      have hcw : wr.cell? (a.add k) = some (.string x) := by rw [hm]; exact hc
      have hT := Lib.hid (fun n => rtextq_any x.size (wr.drewN n) (by omega))
      have hdx := dec_nat_size x.size (by omega)
      clear hc hx hm
      go_wp2_with fail
      go_quiet ((go_at_call 28; exact Calls.quiet_of (hT.out _)))
      go_wp2_with fail
      have hbn : Hid ((b ++ (⟨#[36]⟩ ++ dec (x.size : Int) ++ ⟨#[13, 10]⟩ ++ x ++ ⟨#[13, 10]⟩) : ByteArray).data.toList = putB ss (k + 1)) := Lib.hid (by
        rw [hnx.out, append_data, hb.out]
        simp only [append_data, dec_nat, putA, size_len]
        simp)
      have hbz : (b ++ (⟨#[36]⟩ ++ dec (x.size : Int) ++ ⟨#[13, 10]⟩ ++ x ++ ⟨#[13, 10]⟩) : ByteArray).size ≤ 30 + 30 * (k + 1) + sz (ss.take (k + 1)) := by
        simp only [ByteArray.size_append]
        show b.size + (1 + _ + 2 + _ + 2) ≤ _
        omega
      go_roundw
      case rel => exact ⟨k + 1, _, by go_num, by omega, rfl, hbn, hbz, Lib.hid (drewN_trans hW.out _)⟩
      case measure => simp [intOf]; omega
    · go_wp2_with fail
      go_ret
      refine ⟨ret_str (bytes_eq ?_), hW.out⟩
      rw [hb.out, show k = ss.length by omega, putB_all]
end Go.Proofs.YtjcicbkjngpcoaaGreatDoor
