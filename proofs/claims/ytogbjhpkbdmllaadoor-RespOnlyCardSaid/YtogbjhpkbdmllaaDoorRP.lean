/-
  The walk of the law that what is taken is put so. A premise: the library's table of powers of ten holds what its initialiser lays.
-/
import Derived.Test.YtogbjhpkbdmllaaDoorRO
namespace Go.Proofs.YtogbjhpkbdmllaaDoor
open Go.RowKit Rp Dec

def zeroN : Rep 1 := (⟨0, 0, [], []⟩ : RNode (Rep 0))
theorem zero_at {W : World} : RAt W (fun _ => True) 1 zeroN [.int .i64 0, .int .i64 0, .string ⟨#[]⟩, .slice none 0 0] :=
  leaf_at rfl (by unfold inI64; omega) (by unfold inI64; omega) (Nat.zero_le _)
theorem zero_same (w : World) : Calls Tryd.prog 13 #[.agg #[.int .i64 0, .int .i64 0, .string ⟨#[]⟩, .slice none 0 0], .agg #[.int .i64 0, .int .i64 0, .string ⟨#[]⟩, .slice none 0 0]] w fun e w' => e = .returned (.bool true) ∧ Below w.heap.size w w' := by
  have h := rsame_any 1 1 zeroN zeroN #[.int .i64 0, .int .i64 0, .string ⟨#[]⟩, .slice none 0 0] #[.int .i64 0, .int .i64 0, .string ⟨#[]⟩, .slice none 0 0] w zero_at zero_at
  rwa [sameF_refl] at h

set_option maxRecDepth 100000 in
set_option maxHeartbeats 4000000 in
theorem only_any (s : ByteArray) (w : World) (hm : s.size ≤ maxLen) (hT : Tab w) : Calls Tryd.prog 7 #[.string s] w fun e w' => e = .returned (.bool true) ∧ Below w.heap.size w w' := by
  unfold maxLen at hm
  have hTH := Lib.hid hT
  clear hT
  by_cases hfar : 20000 < s.size
  · go_enter Tryd.func7, Tryd.ntmps7
    go_wp2_with (go_at_call 9; ((with_reducible refine (alive_any _ hTH).mono ?_); rintro e w1 ⟨rfl, hb1⟩))
    go_ret
    exact ⟨rfl, hb1⟩
  have ht := Take_any s w (by omega)
  cases hR : takeF 9 s.data.toList with
  | inl x =>
    have hx0 : (x != 0) = true := by simpa using takeF_err _ _ _ hR
    rw [hR] at ht
    clear hR
    go_enter Tryd.func7, Tryd.ntmps7
    go_wp2_with (first
      | (go_at_call 14; ((with_reducible refine ht.mono ?_); rintro e w1 ⟨hb1, rfl⟩))
      | (go_at_call 13; ((with_reducible refine (zero_same _).mono ?_); rintro e w2 ⟨rfl, hb2⟩; have hB2 := onB (onA hb1 _) hb2))
      | (go_at_call 9; ((with_reducible refine (alive_any _ (Lib.hid (hTH.out.on hB2))).mono ?_); rintro e w3 ⟨rfl, hb3⟩)))
    go_ret
    exact ⟨rfl, onB hB2 hb3⟩
  | inr q =>
    obtain ⟨y, n⟩ := q
    rw [hR] at ht
    obtain ⟨bs, u, hs, hn, hp⟩ := takeF_puts 9 0 rfl _ _ _ hR
    have hl : s.data.toList.length = s.size := by simp
    have hle : n ≤ s.size := by rw [← hl, hs, List.length_append]; omega
    have hcalm := calm_put 9 0 y (by rw [hp]) (by rw [hp]; show bs.length ≤ _; omega)
    have hstr : putS (putF 9 0 y) = s.extract 0 n := by
      rw [hp]
      unfold putS
      rw [if_pos rfl]
      refine bytes_eq ?_
      rw [head_data, hs, ← hn, List.take_left]
    have hP : Hid (∀ (w : World) (cs : Array Value), Tab w → RAt w (fun _ => True) 9 y cs.toList → Calls Tryd.prog 10 #[.agg cs] w fun e w' => e = .returned (.tuple #[.string (s.extract 0 n), .int .i64 0]) ∧ Below w.heap.size w w') := Lib.hid fun w cs hT hr => by
      have := Put_any 9 y cs w hT hr hcalm (by rw [hp]; show bs.length ≤ _; omega)
      rw [hstr, hp] at this
      exact this
    have ht2 := ht.mono fun e w' h => TakeEnd.inr h
    clear ht hR hs hn hp hl hcalm hstr
    go_enter Tryd.func7, Tryd.ntmps7
    go_wp2_with (first
      | (go_at_call 14; ((with_reducible refine ht2.mono ?_); rintro e w1 ⟨kd, nm, b, A, len, cap, rfl, hb1, hr⟩; have hB1 := onA hb1 (.cells #[.int .i64 kd, .int .i64 nm, .string b, .slice A len cap] 24); have hr1 := (hr.on (one_box' (w := w1) (o := .cells #[.int .i64 kd, .int .i64 nm, .string b, .slice A len cap] 24))).weaken (ok' := fun _ => True) (fun _ _ _ => trivial)))
      | (go_at_call 10; ((with_reducible refine (hP.out _ #[.int .i64 kd, .int .i64 nm, .string b, .slice A len cap] (hTH.out.on hB1) hr1).mono ?_); rintro e w2 ⟨rfl, hb2⟩; have hB2 := onB hB1 hb2))
      | (go_at_call 9; ((with_reducible refine (alive_any _ (Lib.hid (hTH.out.on hB2))).mono ?_); rintro e w3 ⟨rfl, hb3⟩)))
    go_ret
    exact ⟨rfl, onB hB2 hb3⟩

end Go.Proofs.YtogbjhpkbdmllaaDoor
