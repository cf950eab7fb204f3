/-
  The walk of package glob's match. A premise: texts no longer than 65536 bytes.
-/
import Derived.Test.YtadihlmpkckakaaDoorWalksC
namespace Go.Proofs.YtadihlmpkckakaaDoor
open Go.RowKit Gl

theorem trim_stars (s : ByteArray) (k : Nat) (w : World) (b : Bool) (hb : Hid ((s.data.toList.drop k).all (· == 42) = b)) :
    Calls Tryd.prog 19 #[.string (s.extract k s.size), .string ⟨#[42]⟩] w fun e w' => (∃ t : ByteArray, e = .returned (.string t) ∧ t.toList.isEmpty = b) ∧ w = w' := by
  refine (Tryd.strings_TrimLeft_one (s.extract k s.size) 42 (by decide) w).mono fun e w' ⟨he, hw⟩ => ⟨⟨_, he, ?_⟩, hw.symm⟩
  rw [Lib.toList_data, Lib.extract_to_end, ← hb.out]
  show (Lib.trimLeftB (s.data.toList.drop k) 42).toArray.toList.isEmpty = _
  unfold Lib.trimLeftB
  rw [List.toList_toArray]
  induction s.data.toList.drop k with
  | nil => rfl
  | cons a t ih =>
    rw [List.dropWhile_cons, List.all_cons]
    cases (a == 42) with
    | true => simpa using ih
    | false => rfl

/-- Where the search stands, its last run's place as a number: below 0, there was none. -/
def At (P S : ByteArray) (i k : Nat) (z : Int) (f : Nat) : Prop := Stands P.data.toList S.data.toList i k (if z < 0 then none else some z.toNat) f
def leftI (p s : Nat) (k z f : Int) : Nat := left_ p s 0 k.toNat (if z < 0 then none else some z.toNat) f.toNat
theorem at_start (P S : ByteArray) : At P S 0 0 (-1) 0 := stands_start _ _
theorem byte_at (s : ByteArray) (k : Nat) (h : k < s.size) : s.data.toList[k]? = some s[k] := by
  rw [List.getElem?_eq_getElem (by simpa using h)]; rfl
theorem size_list (s : ByteArray) : s.data.toList.length = s.size := by simp
theorem at_run {P S : ByteArray} {i k f : Nat} {z : Int} (h : At P S i k z f) (hi : i < P.size) (h42 : (P[i].toNat : Int) = 42) : At P S (i + 1) k ((i : Int) + 1) k := by
  have e : P[i] = 42 := byte_of (by decide) h42
  have := stands_run h (by rw [byte_at P i hi, e])
  unfold At
  rw [if_neg (by omega)]
  rwa [show ((i : Int) + 1).toNat = i + 1 by omega]
theorem left_run' {P S : ByteArray} {i k f : Nat} {z : Int} (h : At P S i k z f) (hi : i < P.size) : leftI P.size S.size k ((i : Int) + 1) k < leftI P.size S.size k z f := by
  have h2 := h.2.1
  rw [size_list] at h2
  have hlt : ¬ ((i : Int) + 1 < 0) := by omega
  have := left_run (p := P.size) (s := S.size) (i := i) (k := k) (f := f) (b := if z < 0 then none else some z.toNat) hi (by
    intro x hx
    have h3 := h.2.2
    rw [hx] at h3
    exact ⟨h3.1, h3.2.1⟩) h2
  unfold leftI
  rw [if_neg hlt]
  exact this
theorem at_on {P S : ByteArray} {i k f : Nat} {z : Int} (h : At P S i k z f) (hi : i < P.size) (h42 : ¬ (P[i].toNat : Int) = 42) (hk : k < S.size) (hok : (part1 (P.data.toList.drop i)).ok S[k] = true) :
    At P S (i + oneN (P.data.toList.drop i)) (k + 1) z f := by
  have hl := (oneN_pos P i hi).2
  refine stands_on h (byte_at P i hi) (fun e => h42 (by rw [e]; rfl)) (byte_at S k hk) hok ?_ (by rw [size_list]; omega)
  unfold oneN
  rw [← List.drop_drop]
  rcases Nat.le_total (partLen (P.data.toList.drop i)) (P.data.toList.drop i).length with h1 | h1
  · rw [Nat.min_eq_left h1]
  · rw [Nat.min_eq_right h1, List.drop_eq_nil_of_le (Nat.le_refl _), List.drop_eq_nil_of_le h1]
theorem left_on' {P S : ByteArray} {k : Nat} {z : Int} {f : Nat} (hk : k < S.size) : leftI P.size S.size ((k : Int) + 1) z f < leftI P.size S.size k z f :=
  left_on (p := P.size) (s := S.size) (i := 0) (n := 0) (k := k) (f := f) hk
theorem at_stuck1 {P S : ByteArray} {i k : Nat} (hi : P.size ≤ i) (hk : k < S.size) : Stuck P.data.toList S.data.toList i k := stuck_end (by rw [size_list]; exact hi) (byte_at S k hk)
theorem at_stuck2 {P S : ByteArray} {i k : Nat} (hi : i < P.size) (h42 : ¬ (P[i].toNat : Int) = 42) (hk : k < S.size) (hok : (part1 (P.data.toList.drop i)).ok S[k] = false) : Stuck P.data.toList S.data.toList i k :=
  stuck_no (byte_at P i hi) (fun e => h42 (by rw [e]; rfl)) (byte_at S k hk) hok
theorem at_out {P S : ByteArray} {i k f : Nat} {z : Int} (h : At P S i k z f) (hz : z < 0) (hs : Stuck P.data.toList S.data.toList i k) : mt (parts P.data.toList) S.data.toList = false := by
  unfold At at h
  rw [if_pos hz] at h
  exact stuck_out h hs
theorem at_back {P S : ByteArray} {i k f : Nat} {z : Int} (h : At P S i k z f) (hz : ¬ z < 0) (hk : k < S.size) (hs : Stuck P.data.toList S.data.toList i k) : At P S z.toNat (f + 1) z (f + 1) := by
  unfold At at h ⊢
  rw [if_neg hz] at h ⊢
  exact stuck_back h (by rw [size_list]; exact hk) hs
theorem left_back' {P S : ByteArray} {k f : Nat} {z : Int} (hz : ¬ z < 0) (hf : f ≤ k) (hk : k < S.size) : leftI P.size S.size ((f : Int) + 1) z ((f : Int) + 1) < leftI P.size S.size k z f := by
  unfold leftI
  rw [if_neg hz]
  rw [show ((f : Int) + 1).toNat = f + 1 by omega]
  exact left_back (i := 0) hf hk
theorem at_end {P S : ByteArray} {i k f : Nat} {z : Int} (h : At P S i k z f) (hk : S.size ≤ k) : (P.data.toList.drop i).all (· == 42) = mt (parts P.data.toList) S.data.toList := by
  have h2 := h.2.1
  rw [size_list] at h2
  have e : k = S.data.toList.length := by rw [size_list]; omega
  subst e
  exact (stands_end h).symm

theorem drew_on {w wr : World} (h : Hid (∃ m, wr = w.drewN m)) (n : Nat) : Hid (∃ m, wr.drewN n = w.drewN m) := by
  obtain ⟨m, rfl⟩ := h.out
  exact Lib.hid ⟨m + n, by rw [World.drewN_drewN]⟩
theorem drew_end {w wr : World} (h : Hid (∃ m, wr = w.drewN m)) (n : Nat) : ∃ m, wr.drewN n = w.drewN m := (drew_on h n).out
theorem ret_bool {a b : Bool} (h : a = b) : Ending.returned (.bool a) = .returned (.bool b) := by rw [h]

set_option maxHeartbeats 2000000 in
theorem match_any (P S : ByteArray) (w : World) (hp : P.size ≤ 65536) (hs : S.size ≤ 65536) (M : Bool) (hM : Hid (mt (parts P.data.toList) S.data.toList = M)) :
    Calls Tryd.prog 9 #[.string P, .string S] w fun e w' => e = .returned (.bool M) ∧ ∃ n, w' = w.drewN n := by
  go_enter Tryd.func9, Tryd.ntmps9
  go_wp2_with fail
  go_loopw [5, 6, 7, 8] (fun p a b f wr => ∃ (i k r : Nat) (z : Int), i ≤ P.size ∧ k ≤ S.size ∧ r ≤ k ∧ -1 ≤ z ∧ z ≤ i ∧ p = .int .i64 i ∧ a = .int .i64 k ∧ b = .int .i64 z ∧ f = .int .i64 r ∧ Hid (At P S i k z r) ∧ Hid (∃ m, wr = w.drewN m)) (fun _ a b f _ => leftI P.size S.size (intOf a) (intOf b) (intOf f))
  case atStart => exact ⟨0, 0, 0, -1, by omega, by omega, by omega, by omega, by omega, rfl, rfl, rfl, rfl, Lib.hid (at_start P S), Lib.hid ⟨0, rfl⟩⟩
  case round =>
    obtain ⟨i, k, r, z, hi, hk, hr, hz0, hz1, rfl, rfl, rfl, rfl, hA, hW⟩ := hrel
    by_cases hlk : k < S.size
    · by_cases hli : i < P.size
      · by_cases h42 : (P[i].toNat : Int) = 42
        · have h42' : ((P[i].toNat : Int) == 42) = true := by simpa using h42
          have hN := Lib.hid (at_run hA.out hli h42)
          have hL := Lib.hid (left_run' hA.out hli)
          clear h42
          go_wp2_with fail
          go_roundw
          case rel => exact ⟨i + 1, k, k, (i : Int) + 1, by omega, by omega, by omega, by omega, by omega, by go_num, rfl, rfl, rfl, hN, hW⟩
          case measure => exact hL.out
        · have h42' : ((P[i].toNat : Int) == 42) = false := by simpa using h42
          have hn := oneN_pos P i hli
          have h42H := Lib.hid h42
          cases hok : (part1 (P.data.toList.drop i)).ok S[k] with
          | true =>
            have hokH := Lib.hid hok
            have hN := Lib.hid (at_on hA.out hli h42 hlk hok)
            have hL := Lib.hid (left_on' (P := P) (S := S) (z := z) (f := r) hlk)
            clear hok h42
            go_wp2_with fail
            go_quiet ((go_at_call 18; exact Calls.quiet_of (one_at P i S[k] _ hp hli h42H true hokH)))
            go_wp2_with fail
            go_roundw
            case rel => exact ⟨i + oneN (P.data.toList.drop i), k + 1, r, z, by omega, by omega, by omega, by omega, by omega, congrArg (Value.int .i64) (by omega), by go_num, rfl, rfl, hN, drew_on hW _⟩
            case measure => exact hL.out
          | false =>
            have hokH := Lib.hid hok
            have hSt := Lib.hid (at_stuck2 hli h42 hlk hok)
            clear hok h42
            by_cases hz : z < 0
            · have hO := Lib.hid (at_out hA.out hz hSt.out)
              go_wp2_with fail
              go_quiet ((go_at_call 18; exact Calls.quiet_of (one_at P i S[k] _ hp hli h42H false hokH)))
              go_wp2_with fail
              go_ret
              exact ⟨ret_bool (hM.out.symm.trans hO.out).symm, drew_end hW _⟩
            · have hN := Lib.hid (at_back hA.out hz hlk hSt.out)
              have hL := Lib.hid (left_back' (P := P) (S := S) hz hr hlk)
              go_wp2_with fail
              go_quiet ((go_at_call 18; exact Calls.quiet_of (one_at P i S[k] _ hp hli h42H false hokH)))
              go_wp2_with fail
              go_roundw
              case rel => exact ⟨z.toNat, r + 1, r + 1, z, by omega, by omega, by omega, by omega, by omega, congrArg (Value.int .i64) (by omega), by go_num, rfl, by go_num, hN, drew_on hW _⟩
              case measure => exact hL.out
      · have hSt := Lib.hid (at_stuck1 (P := P) (S := S) (i := i) (by omega) hlk)
        by_cases hz : z < 0
        · have hO := Lib.hid (at_out hA.out hz hSt.out)
          go_wp2_with fail
          go_ret
          exact ⟨ret_bool (hM.out.symm.trans hO.out).symm, hW.out⟩
        · have hN := Lib.hid (at_back hA.out hz hlk hSt.out)
          have hL := Lib.hid (left_back' (P := P) (S := S) hz hr hlk)
          go_wp2_with fail
          go_roundw
          case rel => exact ⟨z.toNat, r + 1, r + 1, z, by omega, by omega, by omega, by omega, by omega, congrArg (Value.int .i64) (by omega), by go_num, rfl, by go_num, hN, hW⟩
          case measure => exact hL.out
    · have hE := Lib.hid ((at_end hA.out (by omega)).trans hM.out)
      go_wp2_with (go_at_call 19; (with_reducible refine (trim_stars P i _ M hE).mono ?_); rintro e w' ⟨⟨t, rfl, ht⟩, rfl⟩)
      go_ret
      exact ⟨rfl, hW.out⟩

end Go.Proofs.YtadihlmpkckakaaDoor
