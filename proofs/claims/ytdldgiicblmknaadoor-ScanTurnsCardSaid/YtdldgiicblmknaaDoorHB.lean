/-
  What a table is in memory; the walks of its small methods. No condition but the sizes that places have.
-/
import Derived.Test.YtdldgiicblmknaaDoorHA
import Derived.Test.YtdldgiicblmknaaDoorShelf
namespace Go.Proofs.YtdldgiicblmknaaDoor
open Go.RowKit

/-- The head block of a table, with raw cells. -/
def TabC (w : World) (T : Nat) (sd : Int) (a0 a1 : Option Addr) (n0 n1 mv ct : Nat) : Prop :=
  w.heap[T]? = some (.cells #[.int .u64 sd, .slice a0 n0 n0, .slice a1 n1 n1, .int .i64 mv, .int .i64 ct] 60 (0, 0))
theorem tab_facts {w : World} {T : Nat} {sd : Int} {a0 a1 : Option Addr} {n0 n1 mv ct : Nat} (h : TabC w T sd a0 a1 n0 n1 mv ct) :
    w.cell? ⟨T, 0, none⟩ = some (.int .u64 sd) ∧ w.cell? ⟨T, 1, none⟩ = some (.slice a0 n0 n0) ∧ w.cell? ⟨T, 2, none⟩ = some (.slice a1 n1 n1) ∧ w.cell? ⟨T, 3, none⟩ = some (.int .i64 mv) ∧ w.cell? ⟨T, 4, none⟩ = some (.int .i64 ct) ∧
    w.frozen? ⟨T, 0, none⟩ = false ∧ w.frozen? ⟨T, 1, none⟩ = false ∧ w.frozen? ⟨T, 2, none⟩ = false ∧ w.frozen? ⟨T, 3, none⟩ = false ∧ w.frozen? ⟨T, 4, none⟩ = false := by
  unfold TabC at h
  refine ⟨Lib.cell_of_heap h 0, Lib.cell_of_heap h 1, Lib.cell_of_heap h 2, Lib.cell_of_heap h 3, Lib.cell_of_heap h 4, ?_, ?_, ?_, ?_, ?_⟩ <;> simp [World.frozen?, h]

/-- The sizes that places have. -/
def SzOk (n k : Nat) : Prop := (n = 0 ∧ k = 2) ∨ (2 ≤ k ∧ k ≤ 16 ∧ n = pw k)
theorem SzOk.le {n k : Nat} (h : SzOk n k) : n ≤ 65536 := by
  rcases h with ⟨rfl, _⟩ | ⟨_, h, rfl⟩
  · omega
  · exact pw_le h
theorem SzOk.len {n k : Nat} (h : SzOk n k) : max ((Lib.bitLen n : Int) - 1) 2 = (k : Int) := by
  rcases h with ⟨rfl, rfl⟩ | ⟨h1, h2, rfl⟩
  · rfl
  · have hall : ∀ k : Fin 17, 2 ≤ k.val → max ((Lib.bitLen (pw k.val) : Int) - 1) 2 = (k.val : Int) := by decide +kernel
    exact hall ⟨k, by omega⟩ h1
theorem bitLen_small {n : Nat} (h : n ≤ 65536) : Lib.bitLen n ≤ 64 := Lib.bitLen_le n 64 (by omega) (by omega)

theorem hsize_any (a : Option Addr) (n k : Nat) (h : SzOk n k) (w : World) : Calls Tryd.prog 55 #[.slice a n n] w fun e w' => e = .returned (.int .i64 (k : Nat)) ∧ w = w' := by
  have hle := h.le
  have hl := h.len
  have hb := bitLen_small hle
  have hc : ∀ w, Calls Tryd.prog 64 #[.int .u64 (n : Int)] w fun e w' => e = .returned (.int .i64 (Lib.bitLen n : Nat)) ∧ w' = w := fun w => Tryd.bits_Len (n : Int) w (by omega) (by omega)
  generalize Lib.bitLen n = L at *
  go_enter Tryd.func55, Tryd.ntmps55
  go_wp2_with (go_at_call 64; ((with_reducible refine (hc _).mono ?_); rintro e w' ⟨rfl, rfl⟩))
  all_goals go_ret
  all_goals exact ⟨ret_int (by omega), rfl⟩

theorem hplace_any (b n k : Nat) (h : SzOk n k) (h0 : 0 < n) (H : Nat) (hH : H < 18446744073709551616) (w : World) : Calls Tryd.prog 61 #[.slice (some ⟨b, 0, none⟩) n n, .int .u64 (H : Int)] w fun e w' => e = .returned (.pointer (some ⟨b, H % n, none⟩)) ∧ w = w' := by
  have hk : n = pw (szN (k : Int)) := by
    rcases h with ⟨rfl, rfl⟩ | ⟨h1, h2, rfl⟩
    · omega
    · unfold szN; congr 1; omega
  have hlt := Nat.mod_lt H h0
  have hle := h.le
  have h1 := fun w => hsize_any (some ⟨b, 0, none⟩) n k h w
  have h2 := fun w => place_any H (k : Int) hH w
  rw [← hk] at h2
  generalize H % n = M at *
  clear hk
  go_enter Tryd.func61, Tryd.ntmps61
  go_wp2_with (first
    | (go_at_call 55; ((with_reducible refine (h1 _).mono ?_); rintro e w' ⟨rfl, rfl⟩))
    | (go_at_call 34; ((with_reducible refine (h2 _).mono ?_); rintro e w' ⟨rfl, rfl⟩)))
  go_ret
  exact ⟨by simp, rfl⟩

theorem parted_any {T : Nat} {sd : Int} {a0 a1 : Option Addr} {n0 n1 mv ct : Nat} (w : World) (h : TabC w T sd a0 a1 n0 n1 mv ct) :
    Calls Tryd.prog 48 #[.pointer (some ⟨T, 0, none⟩)] w fun e w' => e = .returned (.bool (decide (0 < n1))) ∧ w = w' := by
  obtain ⟨c0, c1, c2, c3, c4, _⟩ := tab_facts h
  clear h
  go_enter Tryd.func48, Tryd.ntmps48
  go_wp2
  all_goals go_ret
  all_goals simp

theorem len_any {T : Nat} {sd : Int} {a0 a1 : Option Addr} {n0 n1 mv ct : Nat} (w : World) (h : TabC w T sd a0 a1 n0 n1 mv ct) :
    Calls Tryd.prog 23 #[.pointer (some ⟨T, 0, none⟩)] w fun e w' => e = .returned (.int .i64 (ct : Int)) ∧ w = w' := by
  obtain ⟨c0, c1, c2, c3, c4, _⟩ := tab_facts h
  clear h
  go_enter Tryd.func23, Tryd.ntmps23
  go_wp2
  all_goals go_ret
  all_goals simp

theorem tsize_any {T : Nat} {sd : Int} {a0 a1 : Option Addr} {n0 n1 mv ct k : Nat} (w : World) (h : TabC w T sd a0 a1 n0 n1 mv ct) (hk : SzOk n0 k) :
    Calls Tryd.prog 30 #[.pointer (some ⟨T, 0, none⟩)] w fun e w' => e = .returned (.int .i64 (k : Int)) ∧ w = w' := by
  obtain ⟨c0, c1, c2, c3, c4, _⟩ := tab_facts h
  clear h
  have h1 := fun w => hsize_any a0 n0 k hk w
  go_enter Tryd.func30, Tryd.ntmps30
  go_wp2_with (go_at_call 55; ((with_reducible refine (h1 _).mono ?_); rintro e w' ⟨rfl, rfl⟩))
  all_goals go_ret
  all_goals simp

end Go.Proofs.YtdldgiicblmknaaDoor
