/-
  The walk of the law that what a text begins with is taken as the document's answer has it. A premise: the library's table of powers of ten holds what its initialiser lays.
-/
import Derived.Test.YtogbjhpkbdmllaaDoorSA
namespace Go.Proofs.YtogbjhpkbdmllaaDoor
open Go.RowKit Rp Dec

set_option maxHeartbeats 2000000 in
theorem rTake_any (s : ByteArray) (w : World) (hs : s.size < 4294967281) : Calls Tryd.prog 15 #[.string s] w (TakeEnd 9 (takeF 9 s.data.toList) w) := by
  have hnew := Lib.hid (heap_alloc_new w (.cells #[.int .i64 0, .int .i64 0, .string ⟨#[]⟩, .slice none 0 0] 24))
  have hcall : ∀ w, Calls Tryd.prog 27 #[.string s, .int .i64 0] w (TakeEnd 9 (takeF 9 s.data.toList) w) := fun w => one_any 8 0 rfl s w hs
  cases hR : takeF 9 s.data.toList with
  | inl x =>
    rw [hR] at hcall
    clear hR
    have hcall' := hcall (w.alloc (.cells #[.int .i64 0, .int .i64 0, .string ⟨#[]⟩, .slice none 0 0] 24))
    go_enter Tryd.func15, Tryd.ntmps15
    go_wp2_with (go_at_call 27; ((with_reducible refine hcall'.mono ?_); rintro e w1 ⟨hb, rfl⟩; obtain ⟨c0, c1, c2, c3, f0, f1, f2, f3⟩ := cells4 hb hnew.out (by simp)))
    have hl := laid4 (v0 := .int .i64 0) (v1 := .int .i64 0) (v2 := .string ⟨#[]⟩) (v3 := .slice none 0 0) ((hb.block w.heap.size (by simp)).trans hnew.out)
    have hB := Lib.hid (ret_below hb (v0 := .int .i64 0) (v1 := .int .i64 0) (v2 := .string ⟨#[]⟩) (v3 := .slice none 0 0))
    generalize ((((w1.setCell ⟨w.heap.size, 0, none⟩ (.int .i64 0)).setCell ⟨w.heap.size, 1, none⟩ (.int .i64 0)).setCell ⟨w.heap.size, 2, none⟩ (.string ⟨#[]⟩)).setCell ⟨w.heap.size, 3, none⟩ (.slice none 0 0)) = w2 at hl hB ⊢
    obtain ⟨d0, d1, d2, d3⟩ := read4 hl
    refine bodyPost_ret (v := .tuple #[.agg #[.int .i64 0, .int .i64 0, .string ⟨#[]⟩, .slice none 0 0], .int .i64 0, .int .i64 x]) (by simp [results, Tryd.results15, go_sem, d0, d1, d2, d3]) rfl ?_
    exact take_no rfl hB.out
  | inr q =>
    obtain ⟨y, n⟩ := q
    rw [hR] at hcall
    clear hR
    have hcall' := (hcall (w.alloc (.cells #[.int .i64 0, .int .i64 0, .string ⟨#[]⟩, .slice none 0 0] 24))).mono fun e w' h => TakeEnd.inr h
    clear hcall
    go_enter Tryd.func15, Tryd.ntmps15
    go_wp2_with (go_at_call 27; ((with_reducible refine hcall'.mono ?_); rintro e w1 ⟨kd, nm, b, A, len, cap, rfl, hb, hr⟩; obtain ⟨c0, c1, c2, c3, f0, f1, f2, f3⟩ := cells4 hb hnew.out (by simp)))
    have hl := laid4 (v0 := .int .i64 kd) (v1 := .int .i64 nm) (v2 := .string b) (v3 := .slice A len cap) ((hb.block w.heap.size (by simp)).trans hnew.out)
    have hB := Lib.hid (ret_below hb (v0 := .int .i64 kd) (v1 := .int .i64 nm) (v2 := .string b) (v3 := .slice A len cap))
    have hO := Lib.hid (hr.keep (W' := ((((w1.setCell ⟨w.heap.size, 0, none⟩ (.int .i64 kd)).setCell ⟨w.heap.size, 1, none⟩ (.int .i64 nm)).setCell ⟨w.heap.size, 2, none⟩ (.string b)).setCell ⟨w.heap.size, 3, none⟩ (.slice A len cap))) (ok' := fun b => w.heap.size ≤ b) (fun p hp _ => put_other p (by simp at hp; omega)) (by simp) (fun b hb _ => by simp at hb; omega))
    generalize ((((w1.setCell ⟨w.heap.size, 0, none⟩ (.int .i64 kd)).setCell ⟨w.heap.size, 1, none⟩ (.int .i64 nm)).setCell ⟨w.heap.size, 2, none⟩ (.string b)).setCell ⟨w.heap.size, 3, none⟩ (.slice A len cap)) = w2 at hl hB hO ⊢
    obtain ⟨d0, d1, d2, d3⟩ := read4 hl
    refine bodyPost_ret (v := .tuple #[.agg #[.int .i64 kd, .int .i64 nm, .string b, .slice A len cap], .int .i64 n, .int .i64 0]) (by simp [results, Tryd.results15, go_sem, d0, d1, d2, d3]) rfl ?_
    exact take_put rfl rfl hB.out hO.out


def zeroT : Rep 1 := (⟨0, 0, [], []⟩ : RNode (Rep 0))
theorem zeroT_same (w : World) : Calls Tryd.prog 13 #[.agg #[.int .i64 0, .int .i64 0, .string ⟨#[]⟩, .slice none 0 0], .agg #[.int .i64 0, .int .i64 0, .string ⟨#[]⟩, .slice none 0 0]] w fun e w' => e = .returned (.bool true) ∧ Below w.heap.size w w' := by
  have hz : RAt w (fun _ => True) 1 zeroT [.int .i64 0, .int .i64 0, .string ⟨#[]⟩, .slice none 0 0] := leaf_at rfl (by unfold inI64; omega) (by unfold inI64; omega) (Nat.zero_le _)
  have h := rsame_any 1 1 zeroT zeroT #[.int .i64 0, .int .i64 0, .string ⟨#[]⟩, .slice none 0 0] #[.int .i64 0, .int .i64 0, .string ⟨#[]⟩, .slice none 0 0] w hz hz
  rwa [sameF_refl] at h

set_option maxRecDepth 100000 in
set_option maxHeartbeats 4000000 in
theorem takes_any (s : ByteArray) (w : World) (hm : s.size ≤ maxLen) (hT : Tab w) : Calls Tryd.prog 4 #[.string s] w fun e w' => e = .returned (.bool true) ∧ Below w.heap.size w w' := by
  unfold maxLen at hm
  have hTH := Lib.hid hT
  clear hT
  by_cases hfar : 20000 < s.size
  · go_enter Tryd.func4, Tryd.ntmps4
    go_wp2_with (go_at_call 9; ((with_reducible refine (alive_any _ hTH).mono ?_); rintro e w1 ⟨rfl, hb1⟩))
    go_ret
    exact ⟨rfl, hb1⟩
  have ht := Take_any s w (by omega)
  have hr := fun w => rTake_any s w (by omega)
  cases hR : takeF 9 s.data.toList with
  | inl x =>
    rw [hR] at ht
    simp only [hR] at hr
    clear hR
    go_enter Tryd.func4, Tryd.ntmps4
    go_wp2_with (first
      | (go_at_call 14; ((with_reducible refine ht.mono ?_); rintro e w1 ⟨hb1, rfl⟩; have hB1 := onA hb1 (.cells #[.int .i64 0, .int .i64 0, .string ⟨#[]⟩, .slice none 0 0] 24); have hn1 := Lib.hid (heap_alloc_new w1 (.cells #[.int .i64 0, .int .i64 0, .string ⟨#[]⟩, .slice none 0 0] 24))))
      | (go_at_call 15; ((with_reducible refine (hr _).mono ?_); rintro e w2 ⟨hb2, rfl⟩; have hB2 := onA (onB hB1 hb2) (.cells #[.int .i64 0, .int .i64 0, .string ⟨#[]⟩, .slice none 0 0] 24); have hzz : w1.heap.size < w2.heap.size := (by have := hb2.size; simp at this; omega); obtain ⟨c0, c1, c2, c3, f0, f1, f2, f3⟩ := cells4 hb2 hn1.out (by simp)))
      | (go_at_call 13; ((with_reducible refine (zeroT_same _).mono ?_); rintro e w3 ⟨rfl, hb3⟩; have hB3 := onB hB2 hb3))
      | (go_at_call 9; ((with_reducible refine (alive_any _ (Lib.hid (hTH.out.on hB3))).mono ?_); rintro e w4 ⟨rfl, hb4⟩)))
    go_ret
    exact ⟨rfl, onB hB3 hb4⟩
  | inr q =>
    obtain ⟨y, n⟩ := q
    rw [hR] at ht
    simp only [hR] at hr
    have ht2 := ht.mono fun e w' h => TakeEnd.inr h
    have hr2 := fun w => (hr w).mono fun e w' h => TakeEnd.inr h
    have hS : Hid (∀ (W : World) (cs ds : Array Value), RAt W (fun _ => True) 9 y cs.toList → RAt W (fun _ => True) 9 y ds.toList → Calls Tryd.prog 13 #[.agg cs, .agg ds] W fun e w' => e = .returned (.bool true) ∧ Below W.heap.size W w') := Lib.hid fun W cs ds h1 h2 => by
      have h := rsame_any 9 9 y y cs ds W h1 h2
      rwa [sameF_refl] at h
    clear ht hr hR
    go_enter Tryd.func4, Tryd.ntmps4
    go_wp2_with (first
      | (go_at_call 14; ((with_reducible refine ht2.mono ?_); rintro e w1 ⟨kd, nm, b, A, len, cap, rfl, hb1, hr1⟩; have hB1 := onA hb1 (.cells #[.int .i64 kd, .int .i64 nm, .string b, .slice A len cap] 24); have hn1 := Lib.hid (heap_alloc_new w1 (.cells #[.int .i64 kd, .int .i64 nm, .string b, .slice A len cap] 24)); have hm1 := (hr1.on (one_box' (w := w1) (o := (.cells #[.int .i64 kd, .int .i64 nm, .string b, .slice A len cap] 24)))).weaken (ok' := fun _ => True) (fun _ _ _ => trivial)))
      | (go_at_call 15; ((with_reducible refine (hr2 _).mono ?_); rintro e w2 ⟨kd2, nm2, b2, A2, len2, cap2, rfl, hb2, hr2'⟩; have hB2 := onA (onB hB1 hb2) (.cells #[.int .i64 kd2, .int .i64 nm2, .string b2, .slice A2 len2 cap2] 24); have hzz : w1.heap.size < w2.heap.size := (by have := hb2.size; simp at this; omega); obtain ⟨c0, c1, c2, c3, f0, f1, f2, f3⟩ := cells4 hb2 hn1.out (by simp); have hm2 := (hm1.on hb2).on (one_box' (w := w2) (o := (.cells #[.int .i64 kd2, .int .i64 nm2, .string b2, .slice A2 len2 cap2] 24))); have hm3 := (hr2'.on (one_box' (w := w2) (o := (.cells #[.int .i64 kd2, .int .i64 nm2, .string b2, .slice A2 len2 cap2] 24)))).weaken (ok' := fun _ => True) (fun _ _ _ => trivial)))
      | (go_at_call 13; ((with_reducible refine (hS.out _ #[.int .i64 kd, .int .i64 nm, .string b, .slice A len cap] #[.int .i64 kd2, .int .i64 nm2, .string b2, .slice A2 len2 cap2] hm2 hm3).mono ?_); rintro e w3 ⟨rfl, hb3⟩; have hB3 := onB hB2 hb3))
      | (go_at_call 9; ((with_reducible refine (alive_any _ (Lib.hid (hTH.out.on hB3))).mono ?_); rintro e w4 ⟨rfl, hb4⟩)))
    go_ret
    exact ⟨rfl, onB hB3 hb4⟩

end Go.Proofs.YtogbjhpkbdmllaaDoor
