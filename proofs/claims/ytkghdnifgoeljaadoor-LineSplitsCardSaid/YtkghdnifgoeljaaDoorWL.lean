/-
  The walks of what an argument is told as: whether it is plain, and within quotes. A premise where it is written: the text is no longer than 65536 bytes.
-/
import Derived.Test.YtkghdnifgoeljaaDoorWE
namespace Go.Proofs.YtkghdnifgoeljaaDoor
open Go.RowKit Ln

set_option maxHeartbeats 1000000 in
theorem shown_any (c : UInt8) (w : World) (b : Bool) (hb : Hid (shown c = b)) : Calls Tryd.prog 31 #[.int .u8 (c.toNat : Int)] w fun e w' => e = .returned (.bool b) ∧ w = w' := by
  have h := hb.out
  unfold shown at h
  by_cases h1 : 32 ≤ c.toNat
  · by_cases h2 : c.toNat ≤ 126
    · obtain rfl : true = b := by rw [← h]; symm; exact decide_eq_true ⟨h1, h2⟩
      clear h
      go_enter Tryd.func31, Tryd.ntmps31
      go_wp2
      go_ret
      exact ⟨ret_bool (by simp; omega), rfl⟩
    · obtain rfl : false = b := by rw [← h]; symm; exact decide_eq_false (fun e => h2 e.2)
      clear h
      go_enter Tryd.func31, Tryd.ntmps31
      go_wp2
      go_ret
      exact ⟨ret_bool (by simp; omega), rfl⟩
  · obtain rfl : false = b := by rw [← h]; symm; exact decide_eq_false (fun e => h1 e.1)
    clear h
    go_enter Tryd.func31, Tryd.ntmps31
    go_wp2
    go_ret
    exact ⟨rfl, rfl⟩

def signC (c : UInt8) : Bool := c == 34 || c == 39 || c == 92
theorem toNat_byte' (c : UInt8) : ((c.toNat : Int)).toNat.toUInt8 = c := by simp
theorem idx_sign (c : UInt8) (w : World) (h : Hid (signC c = true)) : Calls Tryd.prog 28 #[.string ⟨#[34, 39, 92]⟩, .int .u8 (c.toNat : Int)] w fun e w' => (∃ x : Int, e = .returned (.int .i64 x) ∧ 0 ≤ x) ∧ w = w' := by
  refine (Tryd.strings_IndexByte ⟨#[34, 39, 92]⟩ (c.toNat : Int) w).mono fun e w' ⟨he, hw⟩ => ⟨⟨_, he, ?_⟩, hw.symm⟩
  rw [toNat_byte']
  have h1 := h.out
  unfold signC at h1
  simp only [Bool.or_eq_true, beq_iff_eq] at h1
  rcases h1 with (rfl | rfl) | rfl <;> decide
theorem idx_nosign (c : UInt8) (w : World) (h : Hid (signC c = false)) : Calls Tryd.prog 28 #[.string ⟨#[34, 39, 92]⟩, .int .u8 (c.toNat : Int)] w fun e w' => e = .returned (.int .i64 (-1)) ∧ w = w' := by
  refine (Tryd.strings_IndexByte ⟨#[34, 39, 92]⟩ (c.toNat : Int) w).mono fun e w' ⟨he, hw⟩ => ⟨?_, hw.symm⟩
  rw [he, toNat_byte']
  have h1 := h.out
  unfold signC at h1
  simp only [Bool.or_eq_false_iff, beq_eq_false_iff_ne] at h1
  obtain ⟨⟨e1, e2⟩, e3⟩ := h1
  have b1 : ((34 : UInt8) == c) = false := by simpa using Ne.symm e1
  have b2 : ((39 : UInt8) == c) = false := by simpa using Ne.symm e2
  have b3 : ((92 : UInt8) == c) = false := by simpa using Ne.symm e3
  show Ending.returned (.int .i64 (Lib.indexByte [34, 39, 92] c)) = _
  simp [Lib.indexByte, b1, b2, b3]
theorem bare_of {c : UInt8} : bare c = (!(c == 32) && (shown c && !signC c)) := by
  unfold bare signC
  cases c == 32 <;> cases shown c <;> rfl
/-- So many bytes are told as themselves. -/
def AllBare (s : ByteArray) (k : Nat) : Prop := ∀ c ∈ s.data.toList.take k, bare c = true
theorem all_more {s : ByteArray} {k : Nat} (h : AllBare s k) (hk : k < s.size) (hc : bare s[k] = true) : AllBare s (k + 1) := by
  intro c hcm
  have e : s.data.toList.take (k + 1) = s.data.toList.take k ++ [s[k]] := by
    rw [List.take_succ_eq_append_getElem (by simpa using hk)]; rfl
  rw [e] at hcm
  rcases List.mem_append.1 hcm with h1 | h1
  · exact h c h1
  · simp at h1; subst h1; exact hc
theorem plain_hit {s : ByteArray} {k : Nat} (hk : k < s.size) (hc : bare s[k] = false) : plainA s.data.toList = false := by
  unfold plainA
  have : s.data.toList.all bare = false := by
    rw [List.all_eq_false]
    have hm : s[k] ∈ s.data.toList := by
      have := str_cons s k hk
      exact List.mem_of_mem_drop (by rw [this]; simp)
    exact ⟨s[k], hm, by simp [hc]⟩
  rw [this, Bool.and_false]
theorem plain_end {s : ByteArray} (h : AllBare s s.size) : plainA s.data.toList = !s.data.toList.isEmpty := by
  unfold plainA
  have e : s.data.toList.take s.size = s.data.toList := List.take_of_length_le (by simp)
  have : s.data.toList.all bare = true := List.all_eq_true.2 fun c hc => h c (by rw [e]; exact hc)
  rw [this, Bool.and_true]

set_option maxHeartbeats 2000000 in
theorem plain_any (s : ByteArray) (w : World) (hs : s.size ≤ 65536) (b : Bool) (hb : Hid (plainA s.data.toList = b)) : Calls Tryd.prog 19 #[.string s] w fun e w' => e = .returned (.bool b) ∧ w = w' := by
  go_enter Tryd.func19, Tryd.ntmps19
  go_wp2_with fail
  go_loop [6] (fun i => ∃ k : Nat, i = .int .i64 k ∧ k ≤ s.size ∧ Hid (AllBare s k)) (fun i => s.size - (intOf i).toNat)
  case atStart => exact ⟨0, rfl, by omega, Lib.hid (fun c hc => by simp at hc)⟩
  case round =>
    obtain ⟨k, rfl, hk, hA⟩ := hrel
    by_cases hlt : k < s.size
    · by_cases h32 : s[k] = 32
      · have hR : Hid (b = false) := Lib.hid (by rw [← hb.out]; exact plain_hit hlt (by rw [bare_of, h32]; rfl))
        have f1 : ((s[k].toNat : Int) == 32) = true := by rw [h32]; rfl
        clear h32
        go_wp2_with fail
        go_ret
        exact ⟨by rw [hR.out]; rfl, rfl⟩
      · have f1 : ((s[k].toNat : Int) == 32) = false := beq_eq_false_iff_ne.2 fun e => h32 (byte_of (n := 32) (by decide) e)
        cases hsh : shown s[k] with
        | false =>
          have hR : Hid (b = false) := Lib.hid (by rw [← hb.out]; exact plain_hit hlt (by rw [bare_of, hsh]; simp))
          have hshH := Lib.hid hsh
          clear hsh h32
          go_wp2_with (go_at_call 31; ((with_reducible refine (shown_any s[k] _ false hshH).mono ?_); rintro e w' ⟨rfl, rfl⟩))
          go_ret
          exact ⟨by rw [hR.out]; rfl, rfl⟩
        | true =>
          have hshH := Lib.hid hsh
          cases hsg : signC s[k] with
          | true =>
            have hR : Hid (b = false) := Lib.hid (by rw [← hb.out]; exact plain_hit hlt (by rw [bare_of, hsg]; simp))
            have hsgH := Lib.hid hsg
            clear hsh hsg h32
            go_wp2_with (first
              | (go_at_call 31; ((with_reducible refine (shown_any s[k] _ true hshH).mono ?_); rintro e w' ⟨rfl, rfl⟩))
              | (go_at_call 28; ((with_reducible refine (idx_sign s[k] _ hsgH).mono ?_); rintro e w' ⟨⟨x, rfl, hx⟩, rfl⟩)))
            go_ret
            exact ⟨by rw [hR.out]; rfl, rfl⟩
          | false =>
            have hsgH := Lib.hid hsg
            have hA2 := Lib.hid (all_more hA.out hlt (by rw [bare_of, hsh, hsg]; simp [h32]))
            clear hsh hsg h32
            go_wp2_with (first
              | (go_at_call 31; ((with_reducible refine (shown_any s[k] _ true hshH).mono ?_); rintro e w' ⟨rfl, rfl⟩))
              | (go_at_call 28; ((with_reducible refine (idx_nosign s[k] _ hsgH).mono ?_); rintro e w' ⟨rfl, rfl⟩)))
            go_round
            case rel => exact ⟨k + 1, by go_num, by omega, hA2⟩
            case measure => simp [intOf]; omega
    · have hR : Hid (b = !s.data.toList.isEmpty) := Lib.hid (by
        have e : k = s.size := by omega
        rw [← hb.out, plain_end (by rw [← e]; exact hA.out)])
      by_cases hem : s.data.toList = []
      · have he : s.toList = [] := by rw [Lib.toList_data]; exact hem
        have hRR : Hid (b = false) := Lib.hid (by rw [hR.out, hem]; rfl)
        clear hem
        go_wp2_with fail
        go_ret
        exact ⟨by rw [hRR.out]; simp, rfl⟩
      · have he : ¬ s.toList = [] := by rw [Lib.toList_data]; exact hem
        have hRR : Hid (b = true) := Lib.hid (by rw [hR.out]; simpa using hem)
        clear hem
        go_wp2_with fail
        go_ret
        exact ⟨by rw [hRR.out]; simp [he], rfl⟩
end Go.Proofs.YtkghdnifgoeljaaDoor
