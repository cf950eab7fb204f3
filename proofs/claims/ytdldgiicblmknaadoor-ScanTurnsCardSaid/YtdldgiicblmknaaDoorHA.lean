/-
  The walks of package hash's sizes, places and texts' numbers, as at stage 6. No condition but the bounds that Go's own numbers have, and the table of factors.
-/
import Derived.Test.YtdldgiicblmknaaDoorChecked
import Derived.WalkKit
import Derived.WalkSpells
import Derived.WalkLawsBesides
import Derived.Deep.QuietTactic
import Derived.BigQuiet
import Derived.Lib.Hide
import Derived.Outline
import Derived.Lib.LaidTab
namespace Go.Proofs.YtdldgiicblmknaaDoor
open Go.RowKit

def szN (b : Int) : Nat := (min (max b 0) 16).toNat
theorem szN_le (b : Int) : szN b ≤ 16 := by unfold szN; omega
theorem szN_int (b : Int) : ((szN b : Nat) : Int) = min (max b 0) 16 := by unfold szN; omega
theorem pow_le16 {k : Nat} (h : k ≤ 16) : 2 ^ k ≤ 65536 := Nat.pow_le_pow_right (by decide) h
theorem pow_pos2 (k : Nat) : 0 < 2 ^ k := Nat.pos_of_ne_zero (by simp)
def pw (k : Nat) : Nat := 2 ^ k
theorem pw_zero : pw 0 = 1 := rfl
theorem pw_succ (k : Nat) : pw (k + 1) = 2 * pw k := by unfold pw; rw [Nat.pow_succ, Nat.mul_comm]
theorem pw_le {k : Nat} (h : k ≤ 16) : pw k ≤ 65536 := pow_le16 h
theorem pw_pos (k : Nat) : 0 < pw k := pow_pos2 k
theorem mod_wrap (n P : Nat) (hp : 0 < P) (hP : P ≤ 65536) : wrap64 ((n : Int) % (P : Int)) = ((n % P : Nat) : Int) := by
  have := Nat.mod_lt n hp
  rw [← Int.natCast_emod]
  exact IntWalk.wrap64_in _ (by omega)
theorem wrap_two (k : Nat) (h : k ≤ 16) : IntKind.u64.wrap ((2 : Int) ^ k) = ((pw k : Nat) : Int) := by
  have := pw_le h
  rw [show ((2 : Int) ^ k) = ((pw k : Nat) : Int) by unfold pw; simp]
  exact IntWalk.u64_in _ (by omega)
theorem ret_int {k : IntKind} {a b : Int} (h : a = b) : Ending.returned (.int k a) = .returned (.int k b) := by rw [h]

set_option maxHeartbeats 400000 in
theorem size_any (b : Int) (w : World) : Calls Tryd.prog 57 #[.int .i64 b] w fun e w' => e = .returned (.int .i64 (szN b : Nat)) ∧ w = w' := by
  go_enter Tryd.func57, Tryd.ntmps57
  go_wp2
  all_goals go_ret
  all_goals exact ⟨ret_int (by have := szN_int b; omega), rfl⟩

set_option maxHeartbeats 400000 in
theorem place_any (n : Nat) (b : Int) (hn : n < 18446744073709551616) (w : World) : Calls Tryd.prog 34 #[.int .u64 n, .int .i64 b] w fun e w' => e = .returned (.int .i64 ((n % pw (szN b) : Nat) : Int)) ∧ w = w' := by
  have hk := szN_le b
  generalize hz : szN b = K at hk
  have hc : ∀ w, Calls Tryd.prog 57 #[.int .i64 b] w fun e w' => e = .returned (.int .i64 (K : Nat)) ∧ w = w' := fun w => by rw [← hz]; exact size_any b w
  clear hz
  have he := wrap_two K hk
  have hp := pw_pos K
  have hpl := pw_le hk
  generalize pw K = P at *
  go_enter Tryd.func34, Tryd.ntmps34
  go_wp2_with (go_at_call 57; ((with_reducible refine (hc _).mono ?_); rintro e w' ⟨rfl, rfl⟩))
  all_goals go_ret
  all_goals exact ⟨ret_int (mod_wrap n P hp hpl), rfl⟩

def foldI (h : Int) : Int := bits .xor .u64 h (h / 8589934592)
/-- One byte more. -/
def stepI (h : Int) (c : UInt8) : Int := IntKind.u64.wrap (bits .xor .u64 h (IntKind.u64.wrap c.toNat) * 1099511628211)
def mulI (h f : Int) : Int := IntKind.u64.wrap (h * f)
def ofI (h : Int) (l : List UInt8) : Int := l.foldl stepI h
theorem ofI_snoc (h : Int) (l : List UInt8) (c : UInt8) : ofI h (l ++ [c]) = stepI (ofI h l) c := by unfold ofI; rw [List.foldl_append]; rfl
def textI (seed : Int) (l : List UInt8) : Int := foldI (mulI (foldI (mulI (foldI (ofI (bits .xor .u64 14695981039346656037 seed) l)) 18397679294719823053)) 14181476777654086739)
/-- A number of Go's unsigned numbers of 64 bits. -/
def U (h : Int) : Prop := 0 ≤ h ∧ h ≤ 18446744073709551615
theorem u_bits (op : BinOp) (a b : Int) : U (bits op .u64 a b) := ⟨bits_lo_u64 op a b, bits_hi_u64 op a b⟩
theorem u_wrap (a : Int) : U (IntKind.u64.wrap a) := by unfold U; rw [IntKind.wrap_u64]; omega
theorem u_fold (a : Int) : U (foldI a) := u_bits _ _ _
theorem u_mul (a f : Int) : U (mulI a f) := u_wrap _
theorem u_of (h : Int) (hU : U h) (l : List UInt8) : U (ofI h l) := by
  unfold ofI
  induction l generalizing h with
  | nil => exact hU
  | cons c l ih => exact ih _ (u_wrap _)
theorem take_snoc (s : ByteArray) (k : Nat) (h : k < s.size) : s.data.toList.take (k + 1) = s.data.toList.take k ++ [s[k]] := by
  rw [List.take_succ_eq_append_getElem (by simpa using h)]; rfl

set_option maxHeartbeats 400000 in
theorem folded_any (h : Int) (hU : U h) (w : World) : Calls Tryd.prog 60 #[.int .u64 h] w fun e w' => e = .returned (.int .u64 (foldI h)) ∧ w = w' := by
  obtain ⟨h0, h1⟩ := hU
  go_enter Tryd.func60, Tryd.ntmps60
  go_wp2
  go_ret
  exact ⟨ret_int rfl, rfl⟩

def stageI (O : Int) : Nat → Int
  | 0 => O
  | 1 => mulI (foldI O) 18397679294719823053
  | _ => mulI (foldI (mulI (foldI O) 18397679294719823053)) 14181476777654086739
theorem u_stage (O : Int) (h : U O) (j : Nat) : U (stageI O j) := by
  rcases j with _ | _ | j
  · exact h
  · exact u_mul _ _
  · exact u_mul _ _
theorem run_fac0 (w : World) : Sem.run Tryd.prog (Instr.index 83 (.agg #[.int .u64 18397679294719823053, .int .u64 14181476777654086739]) (.int .i64 0)) w = .ok (.int .u64 18397679294719823053) w := by
  simp [Instr.index, go_sem, Tryd.sizeOf22]
theorem run_fac1 (w : World) : Sem.run Tryd.prog (Instr.index 83 (.agg #[.int .u64 18397679294719823053, .int .u64 14181476777654086739]) (.int .i64 1)) w = .ok (.int .u64 14181476777654086739) w := by
  simp [Instr.index, go_sem, Tryd.sizeOf22]
/-- The table of factors, as it lies. -/
def Fac (w : World) : Prop := w.cell? ⟨0, 0, none⟩ = some (.int .u64 18397679294719823053) ∧ w.cell? ⟨0, 1, none⟩ = some (.int .u64 14181476777654086739)

set_option maxHeartbeats 1000000 in
theorem of_any (seed : Int) (s : ByteArray) (hU : U seed) (hs : s.size ≤ maxLen) (w : World) (hFac : Fac w) : Calls Tryd.prog 42 #[.int .u64 seed, .string s] w fun e w' => e = .returned (.int .u64 (textI seed s.data.toList)) ∧ w = w' := by
  unfold maxLen at hs
  obtain ⟨hU0, hU1⟩ := hU
  obtain ⟨hf0, hf1⟩ := hFac
  have hB := u_bits .xor 14695981039346656037 seed
  go_enter Tryd.func42, Tryd.ntmps42
  go_wp2
  go_loop [5, 6, 13] (fun n j i => ∃ k : Nat, k ≤ s.size ∧ i = .int .i64 k ∧ n = .int .u64 (ofI (bits .xor .u64 14695981039346656037 seed) (s.data.toList.take k))) (fun _ _ i => s.size - (intOf i).toNat)
  case atStart => exact ⟨0, Nat.zero_le _, rfl, rfl⟩
  case round =>
    obtain ⟨k, hk, rfl, rfl⟩ := hrel
    have hO := u_of _ hB (s.data.toList.take k)
    obtain ⟨hO0, hO1⟩ := hO
    by_cases hlt : k < s.size
    · have hsn : Hid (ofI (bits .xor .u64 14695981039346656037 seed) (s.data.toList.take (k + 1)) = stepI (ofI (bits .xor .u64 14695981039346656037 seed) (s.data.toList.take k)) s[k]) := Lib.hid (by rw [take_snoc s k hlt, ofI_snoc])
      generalize ofI (bits .xor .u64 14695981039346656037 seed) (s.data.toList.take k) = O at *
      go_wp2
      go_round
      case rel => exact ⟨k + 1, by omega, by go_num, by rw [hsn.out]; rfl⟩
      case measure => simp [intOf]; omega
    · have hks : s.data.toList.take k = s.data.toList := List.take_of_length_le (by simp; omega)
      rw [hks] at hO0 hO1 ⊢
      have hF : Hid (textI seed s.data.toList = foldI (mulI (foldI (mulI (foldI (ofI (bits .xor .u64 14695981039346656037 seed) s.data.toList)) 18397679294719823053)) 14181476777654086739)) := Lib.hid rfl
      generalize ofI (bits .xor .u64 14695981039346656037 seed) s.data.toList = O at *
      clear hks
      have hOU : U O := ⟨hO0, hO1⟩
      go_wp2
      go_loop [5, 8, 25] (fun n f i => ∃ j : Nat, j ≤ 2 ∧ i = .int .i64 j ∧ n = .int .u64 (stageI O j)) (fun _ _ i => 2 - (intOf i).toNat)
      case atStart => exact ⟨0, by omega, rfl, rfl⟩
      case round =>
        obtain ⟨j, hj, rfl, rfl⟩ := hrel
        have hSU := u_stage O hOU j
        have hx0 := run_fac0 w
        have hx1 := run_fac1 w
        rcases j with _ | _ | _ | j
        · go_wp2_with (go_at_call 60; ((with_reducible refine (folded_any _ hSU _).mono ?_); rintro e w' ⟨rfl, rfl⟩))
          go_round
          case rel => exact ⟨1, by omega, rfl, rfl⟩
          case measure => simp [intOf]
        · go_wp2_with (go_at_call 60; ((with_reducible refine (folded_any _ hSU _).mono ?_); rintro e w' ⟨rfl, rfl⟩))
          go_round
          case rel => exact ⟨2, by omega, rfl, rfl⟩
          case measure => simp [intOf]
        · go_wp2_with (go_at_call 60; ((with_reducible refine (folded_any _ hSU _).mono ?_); rintro e w' ⟨rfl, rfl⟩))
          go_ret
          exact ⟨ret_int (by rw [hF.out]; rfl), rfl⟩
        · omega

end Go.Proofs.YtdldgiicblmknaaDoor
