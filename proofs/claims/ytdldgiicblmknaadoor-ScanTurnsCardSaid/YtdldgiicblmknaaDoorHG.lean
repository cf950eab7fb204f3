/-
  The walks that open, grow and shrink a table. No condition but the sizes that places have.
-/
import Derived.Test.YtdldgiicblmknaaDoorHF
namespace Go.Proofs.YtdldgiicblmknaaDoor
open Go.RowKit

theorem parted_yes {T : Nat} {sd : Int} {a0 a1 : Option Addr} {n0 n1 mv ct : Nat} (w : World) (h : TabC w T sd a0 a1 n0 n1 mv ct) (h1 : 0 < n1) :
    Calls Tryd.prog 48 #[.pointer (some ⟨T, 0, none⟩)] w fun e w' => e = .returned (.bool true) ∧ w = w' := by
  have := parted_any w h
  simpa [h1] using this
theorem parted_no {T : Nat} {sd : Int} {a0 a1 : Option Addr} {n0 mv ct : Nat} (w : World) (h : TabC w T sd a0 a1 n0 0 mv ct) :
    Calls Tryd.prog 48 #[.pointer (some ⟨T, 0, none⟩)] w fun e w' => e = .returned (.bool false) ∧ w = w' := by
  have := parted_any w h
  simpa using this

set_option maxHeartbeats 1000000 in
theorem open_new {T : Nat} {sd : Int} {a0 a1 : Option Addr} {n0 n1 mv ct : Nat} (w : World) (h : TabC w T sd a0 a1 n0 n1 mv ct) (h1 : 0 < n1) :
    Calls Tryd.prog 44 #[.pointer (some ⟨T, 0, none⟩)] w fun e w' => e = .returned (.slice a1 n1 n1) ∧ w = w' := by
  obtain ⟨c0, c1, c2, c3, c4, f0, f1, f2, f3, f4⟩ := tab_facts h
  have hp := Lib.hid (parted_yes w h h1)
  clear h
  go_enter Tryd.func44, Tryd.ntmps44
  go_wp2_with (go_at_call 48; ((with_reducible refine (hp.out).mono ?_); rintro e w' ⟨rfl, rfl⟩))
  go_ret
  exact ⟨rfl, rfl⟩
set_option maxHeartbeats 1000000 in
theorem open_old {T : Nat} {sd : Int} {p : Addr} {a1 : Option Addr} {n0 mv ct : Nat} (w : World) (h : TabC w T sd (some p) a1 n0 0 mv ct) :
    Calls Tryd.prog 44 #[.pointer (some ⟨T, 0, none⟩)] w fun e w' => e = .returned (.slice (some p) n0 n0) ∧ w = w' := by
  obtain ⟨c0, c1, c2, c3, c4, f0, f1, f2, f3, f4⟩ := tab_facts h
  have hp := Lib.hid (parted_no w h)
  clear h
  have qE : ∀ (w : World) (a : Option Addr) (n c n' c' : Nat), (binOp .eql 57 (.slice a n c) (.slice none n' c')).run Tryd.prog w = .ok (.bool a.isNone) w := fun w a n c n' c' => Lib.run_eql_slice_nil w _ _ a n c n' c' Tryd.underlying57
  go_enter Tryd.func44, Tryd.ntmps44
  go_wp2_with (go_at_call 48; ((with_reducible refine (hp.out).mono ?_); rintro e w' ⟨rfl, rfl⟩))
  go_ret
  exact ⟨rfl, rfl⟩
set_option maxHeartbeats 1000000 in
theorem open_make {T : Nat} {sd : Int} {a1 : Option Addr} {mv ct : Nat} (w : World) (h : TabC w T sd none a1 0 0 mv ct) :
    Calls Tryd.prog 44 #[.pointer (some ⟨T, 0, none⟩)] w fun e w' => e = .returned (.slice (some ⟨w.heap.size, 0, none⟩) 4 4) ∧ Only [T] w w' ∧ TabC w' T sd (some ⟨w.heap.size, 0, none⟩) a1 4 0 mv ct ∧ w'.heap[w.heap.size]? = some (plObj (List.replicate 4 [])) ∧ w.heap.size < w'.heap.size := by
  obtain ⟨c0, c1, c2, c3, c4, f0, f1, f2, f3, f4⟩ := tab_facts h
  have hlt : T < w.heap.size := some_lt h
  have hmk := fun w => run_places 4 (by omega) w
  rw [show ((4 : Nat) : Int) = 4 from rfl] at hmk
  generalize plObj (List.replicate 4 []) = O at *
  have hp := Lib.hid (parted_no w h)
  have hH := Lib.hid h
  clear h
  have qE : ∀ (w : World) (a : Option Addr) (n c n' c' : Nat), (binOp .eql 57 (.slice a n c) (.slice none n' c')).run Tryd.prog w = .ok (.bool a.isNone) w := fun w a n c n' c' => Lib.run_eql_slice_nil w _ _ a n c n' c' Tryd.underlying57
  go_enter Tryd.func44, Tryd.ntmps44
  go_wp2_with (go_at_call 48; ((with_reducible refine (hp.out).mono ?_); rintro e w' ⟨rfl, rfl⟩))
  go_region
  have hu := tab_alloc (tab_set1 hH.out (some ⟨w.heap.size, 0, none⟩) 4) O
  have hg : ((w.setCell ⟨T, 1, none⟩ (.slice (some ⟨w.heap.size, 0, none⟩) 4 4)).alloc O).heap[w.heap.size]? = some O := by
    have := heap_alloc_new (w.setCell ⟨T, 1, none⟩ (.slice (some ⟨w.heap.size, 0, none⟩) 4 4)) O
    rw [set_size] at this
    exact this
  have ho := ((((Only.refl [T] w).set (p := ⟨T, 1, none⟩) (Or.inl (by simp)) (.slice (some ⟨w.heap.size, 0, none⟩) 4 4)).alloc O).drewN 1)
  have hs := some_lt hg
  change TabC (((w.setCell ⟨T, 1, none⟩ (.slice (some ⟨w.heap.size, 0, none⟩) 4 4)).alloc O).drew) _ _ _ _ _ _ _ _ at hu
  change (((w.setCell ⟨T, 1, none⟩ (.slice (some ⟨w.heap.size, 0, none⟩) 4 4)).alloc O).drew).heap[w.heap.size]? = _ at hg
  change Only [T] w (((w.setCell ⟨T, 1, none⟩ (.slice (some ⟨w.heap.size, 0, none⟩) 4 4)).alloc O).drew) at ho
  change _ < (((w.setCell ⟨T, 1, none⟩ (.slice (some ⟨w.heap.size, 0, none⟩) 4 4)).alloc O).drew).heap.size at hs
  generalize ((w.setCell ⟨T, 1, none⟩ (.slice (some ⟨w.heap.size, 0, none⟩) 4 4)).alloc O).drew = u at *
  clear c0 c1 c2 c3 c4 f0 f1 f2 f3 f4
  obtain ⟨c0, c1, c2, c3, c4, f0, f1, f2, f3, f4⟩ := tab_facts hu
  have huH := Lib.hid hu
  have hgH := Lib.hid hg
  have hoH := Lib.hid ho
  clear hu hg ho
  go_wp2_with fail
  go_ret
  exact ⟨rfl, hoH.out, huH.out, hgH.out, hs⟩

theorem Calls.same {f : FuncId} {args : Array Value} {w : World} {v : Value} (h : Calls Tryd.prog f args w fun e w' => e = .returned v ∧ w = w') : Calls Tryd.prog f args w fun e w' => e = .returned v ∧ w' = w := h.mono fun _ _ ⟨h1, h2⟩ => ⟨h1, h2.symm⟩

set_option maxHeartbeats 1000000 in
theorem grow_no {T : Nat} {sd : Int} {a0 a1 : Option Addr} {n0 n1 mv ct k : Nat} (w : World) (h : TabC w T sd a0 a1 n0 n1 mv ct) (hk : SzOk n0 k) (hno : 0 < n1 ∨ (n1 = 0 ∧ ct ≤ n0) ∨ (n1 = 0 ∧ n0 < ct ∧ ¬ k < 16)) :
    Calls Tryd.prog 46 #[.pointer (some ⟨T, 0, none⟩)] w fun e w' => e = .returned (.tuple #[]) ∧ ∃ n, w' = w.drewN n := by
  have hsz : Hid (∀ n, Calls Tryd.prog 30 #[.pointer (some ⟨T, 0, none⟩)] (w.drewN n) fun e w' => e = .returned (.int .i64 (k : Int)) ∧ w' = w.drewN n) := Lib.hid fun n => Calls.same (tsize_any (w.drewN n) h hk)
  have hle := hk.le
  have hk16 : k ≤ 16 := by rcases hk with ⟨_, rfl⟩ | ⟨_, h2, _⟩ <;> omega
  obtain ⟨c0, c1, c2, c3, c4, f0, f1, f2, f3, f4⟩ := tab_facts h
  rcases hno with h1 | ⟨rfl, h1⟩ | ⟨rfl, h1, h2⟩
  · have hp : Hid (∀ n, Calls Tryd.prog 48 #[.pointer (some ⟨T, 0, none⟩)] (w.drewN n) fun e w' => e = .returned (.bool true) ∧ w' = w.drewN n) := Lib.hid fun n => Calls.same (parted_yes (w.drewN n) h h1)
    clear h hk
    go_enter Tryd.func46, Tryd.ntmps46
    go_wp2_with fail
    go_quiet (first
      | (go_at_call 48; exact Calls.quiet_of_same (hp.out _))
      | (go_at_call 30; exact Calls.quiet_of_same (hsz.out _)))
    go_wp2_with fail
    go_end0
    exact ⟨rfl, _, rfl⟩
  · have hp : Hid (∀ n, Calls Tryd.prog 48 #[.pointer (some ⟨T, 0, none⟩)] (w.drewN n) fun e w' => e = .returned (.bool false) ∧ w' = w.drewN n) := Lib.hid fun n => Calls.same (parted_no (w.drewN n) h)
    have d1 : decide (n0 < ct) = false := by simp; omega
    clear h hk
    go_enter Tryd.func46, Tryd.ntmps46
    go_wp2_with fail
    go_quiet (first
      | (go_at_call 48; exact Calls.quiet_of_same (hp.out _))
      | (go_at_call 30; exact Calls.quiet_of_same (hsz.out _)))
    go_wp2_with fail
    go_end0
    exact ⟨rfl, _, rfl⟩
  · have hp : Hid (∀ n, Calls Tryd.prog 48 #[.pointer (some ⟨T, 0, none⟩)] (w.drewN n) fun e w' => e = .returned (.bool false) ∧ w' = w.drewN n) := Lib.hid fun n => Calls.same (parted_no (w.drewN n) h)
    have d1 : decide (n0 < ct) = true := by simp; omega
    have d2 : decide (k < 16) = false := by simp; omega
    have d3 : decide ((k : Int) < 16) = false := by simp; omega
    clear h hk
    go_enter Tryd.func46, Tryd.ntmps46
    go_wp2_with fail
    go_quiet (first
      | (go_at_call 48; exact Calls.quiet_of_same (hp.out _))
      | (go_at_call 30; exact Calls.quiet_of_same (hsz.out _)))
    go_wp2_with fail
    go_end0
    exact ⟨rfl, _, rfl⟩

set_option maxHeartbeats 1000000 in
theorem grow_yes {T : Nat} {sd : Int} {a0 : Option Addr} {n0 mv ct k : Nat} (w : World) (h : TabC w T sd a0 none n0 0 mv ct) (hk : SzOk n0 k) (h1 : n0 < ct) (h2 : k < 16) :
    Calls Tryd.prog 46 #[.pointer (some ⟨T, 0, none⟩)] w fun e w' => e = .returned (.tuple #[]) ∧ Only [T] w w' ∧ TabC w' T sd a0 (some ⟨w.heap.size, 0, none⟩) n0 (pw (k + 1)) 0 ct ∧ w'.heap[w.heap.size]? = some (plObj (List.replicate (pw (k + 1)) [])) ∧ w.heap.size < w'.heap.size := by
  have hsz : Hid (∀ n, Calls Tryd.prog 30 #[.pointer (some ⟨T, 0, none⟩)] (w.drewN n) fun e w' => e = .returned (.int .i64 (k : Int)) ∧ w' = w.drewN n) := Lib.hid fun n => Calls.same (tsize_any (w.drewN n) h hk)
  have hle := hk.le
  have hk2 : 2 ≤ k := by rcases hk with ⟨_, rfl⟩ | ⟨h2, _, _⟩ <;> omega
  obtain ⟨c0, c1, c2, c3, c4, f0, f1, f2, f3, f4⟩ := tab_facts h
  have hp : Hid (∀ n, Calls Tryd.prog 48 #[.pointer (some ⟨T, 0, none⟩)] (w.drewN n) fun e w' => e = .returned (.bool false) ∧ w' = w.drewN n) := Lib.hid fun n => Calls.same (parted_no (w.drewN n) h)
  have hpt : Hid (∀ n, Calls Tryd.prog 62 #[.pointer (some ⟨T, 0, none⟩), .int .i64 ((k : Int) + 1)] (w.drewN n) fun e w' => e = .returned (.tuple #[]) ∧ Only [T] (w.drewN n) w' ∧ TabC w' T sd a0 (some ⟨w.heap.size, 0, none⟩) n0 (pw (k + 1)) 0 ct ∧ w'.heap[w.heap.size]? = some (plObj (List.replicate (pw (k + 1)) [])) ∧ w.heap.size < w'.heap.size) := Lib.hid fun n => part_any (w.drewN n) h (k + 1) (by omega) (by omega)
  have d1 : decide (n0 < ct) = true := by simp; omega
  have d2 : decide (k < 16) = true := by simp; omega
  have d3 : decide ((k : Int) < 16) = true := by simp; omega
  clear h hk
  go_enter Tryd.func46, Tryd.ntmps46
  go_wp2_with fail
  go_quiet (first
    | (go_at_call 48; exact Calls.quiet_of_same (hp.out _))
    | (go_at_call 30; exact Calls.quiet_of_same (hsz.out _)))
  go_wp2_with (first
    | (go_at_call 30; ((with_reducible refine (hsz.out _).mono ?_); rintro e w' ⟨rfl, rfl⟩))
    | (go_at_call 62; ((with_reducible refine (hpt.out _).mono ?_); rintro e w' ⟨rfl, hr⟩)))
  go_end0
  exact ⟨rfl, ((Only.refl _ _).drewN _).trans hr.1 (fun _ h => Or.inl h), hr.2⟩

set_option maxHeartbeats 1000000 in
theorem shrink_no {T : Nat} {sd : Int} {a0 a1 : Option Addr} {n0 n1 mv ct k : Nat} (w : World) (h : TabC w T sd a0 a1 n0 n1 mv ct) (hk : SzOk n0 k) (hct : ct ≤ 1000000) (hno : 0 < n1 ∨ (n1 = 0 ∧ ¬ 2 < k) ∨ (n1 = 0 ∧ 2 < k ∧ ¬ 8 * ct < n0)) :
    Calls Tryd.prog 47 #[.pointer (some ⟨T, 0, none⟩)] w fun e w' => e = .returned (.tuple #[]) ∧ ∃ n, w' = w.drewN n := by
  have hsz : Hid (∀ n, Calls Tryd.prog 30 #[.pointer (some ⟨T, 0, none⟩)] (w.drewN n) fun e w' => e = .returned (.int .i64 (k : Int)) ∧ w' = w.drewN n) := Lib.hid fun n => Calls.same (tsize_any (w.drewN n) h hk)
  have hle := hk.le
  have hk16 : k ≤ 16 := by rcases hk with ⟨_, rfl⟩ | ⟨_, h2, _⟩ <;> omega
  obtain ⟨c0, c1, c2, c3, c4, f0, f1, f2, f3, f4⟩ := tab_facts h
  rcases hno with h1 | ⟨rfl, h1⟩ | ⟨rfl, h1, h2⟩
  · have hp : Hid (∀ n, Calls Tryd.prog 48 #[.pointer (some ⟨T, 0, none⟩)] (w.drewN n) fun e w' => e = .returned (.bool true) ∧ w' = w.drewN n) := Lib.hid fun n => Calls.same (parted_yes (w.drewN n) h h1)
    clear h hk
    go_enter Tryd.func47, Tryd.ntmps47
    go_wp2_with fail
    go_quiet (first
      | (go_at_call 48; exact Calls.quiet_of_same (hp.out _))
      | (go_at_call 30; exact Calls.quiet_of_same (hsz.out _)))
    go_wp2_with fail
    go_end0
    exact ⟨rfl, _, rfl⟩
  · have hp : Hid (∀ n, Calls Tryd.prog 48 #[.pointer (some ⟨T, 0, none⟩)] (w.drewN n) fun e w' => e = .returned (.bool false) ∧ w' = w.drewN n) := Lib.hid fun n => Calls.same (parted_no (w.drewN n) h)
    have d1 : decide (2 < k) = false := by simp; omega
    have d2 : decide (2 < (k : Int)) = false := by simp; omega
    clear h hk
    go_enter Tryd.func47, Tryd.ntmps47
    go_wp2_with fail
    go_quiet (first
      | (go_at_call 48; exact Calls.quiet_of_same (hp.out _))
      | (go_at_call 30; exact Calls.quiet_of_same (hsz.out _)))
    go_wp2_with fail
    go_end0
    exact ⟨rfl, _, rfl⟩
  · have hp : Hid (∀ n, Calls Tryd.prog 48 #[.pointer (some ⟨T, 0, none⟩)] (w.drewN n) fun e w' => e = .returned (.bool false) ∧ w' = w.drewN n) := Lib.hid fun n => Calls.same (parted_no (w.drewN n) h)
    have d1 : decide (2 < k) = true := by simp; omega
    have d2 : decide (2 < (k : Int)) = true := by simp; omega
    have d3 : decide (8 * (ct : Int) < (n0 : Int)) = false := by simp; omega
    have d4 : decide ((ct : Int) * 8 < (n0 : Int)) = false := by simp; omega
    clear h hk
    go_enter Tryd.func47, Tryd.ntmps47
    go_wp2_with fail
    go_quiet (first
      | (go_at_call 48; exact Calls.quiet_of_same (hp.out _))
      | (go_at_call 30; exact Calls.quiet_of_same (hsz.out _)))
    go_wp2_with fail
    go_end0
    exact ⟨rfl, _, rfl⟩

set_option maxHeartbeats 1000000 in
theorem shrink_yes {T : Nat} {sd : Int} {a0 : Option Addr} {n0 mv ct k : Nat} (w : World) (h : TabC w T sd a0 none n0 0 mv ct) (hk : SzOk n0 k) (hct : ct ≤ 1000000) (h1 : 8 * ct < n0) (h2 : 2 < k) :
    Calls Tryd.prog 47 #[.pointer (some ⟨T, 0, none⟩)] w fun e w' => e = .returned (.tuple #[]) ∧ Only [T] w w' ∧ TabC w' T sd a0 (some ⟨w.heap.size, 0, none⟩) n0 (pw (k - 1)) 0 ct ∧ w'.heap[w.heap.size]? = some (plObj (List.replicate (pw (k - 1)) [])) ∧ w.heap.size < w'.heap.size := by
  have hsz : Hid (∀ n, Calls Tryd.prog 30 #[.pointer (some ⟨T, 0, none⟩)] (w.drewN n) fun e w' => e = .returned (.int .i64 (k : Int)) ∧ w' = w.drewN n) := Lib.hid fun n => Calls.same (tsize_any (w.drewN n) h hk)
  have hle := hk.le
  have hk16 : k ≤ 16 := by rcases hk with ⟨_, rfl⟩ | ⟨_, h2, _⟩ <;> omega
  obtain ⟨c0, c1, c2, c3, c4, f0, f1, f2, f3, f4⟩ := tab_facts h
  have hp : Hid (∀ n, Calls Tryd.prog 48 #[.pointer (some ⟨T, 0, none⟩)] (w.drewN n) fun e w' => e = .returned (.bool false) ∧ w' = w.drewN n) := Lib.hid fun n => Calls.same (parted_no (w.drewN n) h)
  have hpt : Hid (∀ n, Calls Tryd.prog 62 #[.pointer (some ⟨T, 0, none⟩), .int .i64 ((k : Int) - 1)] (w.drewN n) fun e w' => e = .returned (.tuple #[]) ∧ Only [T] (w.drewN n) w' ∧ TabC w' T sd a0 (some ⟨w.heap.size, 0, none⟩) n0 (pw (k - 1)) 0 ct ∧ w'.heap[w.heap.size]? = some (plObj (List.replicate (pw (k - 1)) [])) ∧ w.heap.size < w'.heap.size) := Lib.hid fun n => by have := part_any (w.drewN n) h (k - 1) (by omega) (by omega); rw [show (((k - 1 : Nat)) : Int) = (k : Int) - 1 by omega] at this; exact this
  have d1 : decide (2 < k) = true := by simp; omega
  have d2 : decide (2 < (k : Int)) = true := by simp; omega
  have d3 : decide (8 * (ct : Int) < (n0 : Int)) = true := by simp; omega
  have d4 : decide ((ct : Int) * 8 < (n0 : Int)) = true := by simp; omega
  clear h hk
  go_enter Tryd.func47, Tryd.ntmps47
  go_wp2_with fail
  go_quiet (first
    | (go_at_call 48; exact Calls.quiet_of_same (hp.out _))
    | (go_at_call 30; exact Calls.quiet_of_same (hsz.out _)))
  go_wp2_with (first
    | (go_at_call 30; ((with_reducible refine (hsz.out _).mono ?_); rintro e w' ⟨rfl, rfl⟩))
    | (go_at_call 62; ((with_reducible refine (hpt.out _).mono ?_); rintro e w' ⟨rfl, hr⟩)))
  go_end0
  exact ⟨rfl, ((Only.refl _ _).drewN _).trans hr.1 (fun _ h => Or.inl h), hr.2⟩

end Go.Proofs.YtdldgiicblmknaaDoor
