/-
  The walks of the document's own quoting, of its plain pattern, and of what goes over rows of texts. A premise: texts no longer than 65536 bytes.
-/
import Derived.Test.YtadihlmpkckakaaDoorWalksH
import Derived.Test.YtadihlmpkckakaaDoorWalksK
import Derived.Test.YtadihlmpkckakaaDoorWalksD
namespace Go.Proofs.YtadihlmpkckakaaDoor
open Go.RowKit Gl

theorem special_of {c : UInt8} (h : (c.toNat : Int) = 42 ∨ (c.toNat : Int) = 63 ∨ (c.toNat : Int) = 91 ∨ (c.toNat : Int) = 92) : special c = true := by
  rcases h with h | h | h | h
  · rw [byte_of (c := c) (n := 42) (by decide) h]; rfl
  · rw [byte_of (c := c) (n := 63) (by decide) h]; rfl
  · rw [byte_of (c := c) (n := 91) (by decide) h]; rfl
  · rw [byte_of (c := c) (n := 92) (by decide) h]; rfl
theorem special_not {c : UInt8} (h1 : ¬ (c.toNat : Int) = 42) (h2 : ¬ (c.toNat : Int) = 63) (h3 : ¬ (c.toNat : Int) = 91) (h4 : ¬ (c.toNat : Int) = 92) : special c = false := by
  unfold special
  have e1 : c ≠ 42 := fun e => h1 (by rw [e]; rfl)
  have e2 : c ≠ 63 := fun e => h2 (by rw [e]; rfl)
  have e3 : c ≠ 91 := fun e => h3 (by rw [e]; rfl)
  have e4 : c ≠ 92 := fun e => h4 (by rw [e]; rfl)
  simp [e1, e2, e3, e4]
theorem one_byte {s : ByteArray} {k : Nat} (hk : k < s.size) : (s.extract k (k + 1)).data.toList = [s[k]] := by
  rw [Lib.extract_data, cons1 s k hk, show k + 1 - k = 1 by omega]
  rfl
theorem bytes_of_list {a : ByteArray} {l : List UInt8} (h : a.data.toList = l) : a = ⟨l.toArray⟩ := by rw [← h]
theorem take_k {s : ByteArray} {k : Nat} (hk : k < s.size) : s.data.toList.take (k + 1) = s.data.toList.take k ++ [s[k]] := by
  rw [List.take_succ_eq_append_getElem (by simpa using hk)]; rfl
theorem rq_yes {s o : ByteArray} {k : Nat} (hk : k < s.size) (h : special s[k] = true) (ho : o = ⟨(quote (s.data.toList.take k)).toArray⟩) : o ++ ⟨#[92]⟩ ++ s.extract k (k + 1) = ⟨(quote (s.data.toList.take (k + 1))).toArray⟩ := by
  apply bytes_of_list
  rw [ByteArray.data_append, Array.toList_append, one_byte hk, ByteArray.data_append, Array.toList_append, ho, take_k hk, quote_append]
  simp [quote, h]
theorem rq_no {s o : ByteArray} {k : Nat} (hk : k < s.size) (h : special s[k] = false) (ho : o = ⟨(quote (s.data.toList.take k)).toArray⟩) : o ++ s.extract k (k + 1) = ⟨(quote (s.data.toList.take (k + 1))).toArray⟩ := by
  apply bytes_of_list
  rw [ByteArray.data_append, Array.toList_append, one_byte hk, ho, take_k hk, quote_append]
  simp [quote, h]
theorem rq_size {s o : ByteArray} {k : Nat} (h : k < s.size ∧ o.size ≤ 2 * k) : (o ++ ⟨#[92]⟩ ++ s.extract k (k + 1)).size ≤ 2 * (k + 1) := by
  have e : (⟨#[92]⟩ : ByteArray).size = 1 := rfl
  rw [ByteArray.size_append, ByteArray.size_append, e]
  simp
  omega
theorem rq_size1 {s o : ByteArray} {k : Nat} (h : k < s.size ∧ o.size ≤ 2 * k) : (o ++ s.extract k (k + 1)).size ≤ 2 * (k + 1) := by
  rw [ByteArray.size_append]
  simp
  omega
theorem rq_end {s o : ByteArray} {k : Nat} (hk : s.size ≤ k) (ho : o = ⟨(quote (s.data.toList.take k)).toArray⟩) : o = ⟨(quote s.data.toList).toArray⟩ := by
  rwa [List.take_of_length_le (by simpa using hk)] at ho
theorem rq_ret {o p : ByteArray} (h : o = p) : Ending.returned (.string o) = .returned (.string p) := by rw [h]

set_option maxHeartbeats 1000000 in
theorem rquote_any (s : ByteArray) (w : World) (hs : s.size ≤ 65536) :
    Calls Tryd.prog 14 #[.string s] w fun e w' => e = .returned (.string ⟨(quote s.data.toList).toArray⟩) ∧ w = w' := by
  go_enter Tryd.func14, Tryd.ntmps14
  go_wp2_with fail
  go_loop [3, 4] (fun out i => ∃ (k : Nat) (o : ByteArray), k ≤ s.size ∧ i = .int .i64 k ∧ out = .string o ∧ o.size ≤ 2 * k ∧ Hid (o = ⟨(quote (s.data.toList.take k)).toArray⟩)) (fun _ i => s.size - (intOf i).toNat)
  case atStart => exact ⟨0, ⟨#[]⟩, by omega, rfl, rfl, by decide, Lib.hid rfl⟩
  case round =>
    obtain ⟨k, o, hk, rfl, rfl, ho, hH⟩ := hrel
    by_cases hlt : k < s.size
    · by_cases h42 : (s[k].toNat : Int) = 42
      · have hx42 : ((s[k].toNat : Int) == 42) = true := by simpa using h42
        have hQ := Lib.hid (rq_yes hlt (special_of (by omega)) hH.out)
        go_wp2_with fail
        go_round
        case rel => exact ⟨k + 1, _, by omega, by go_num, rfl, rq_size (by omega), hQ⟩
        case measure => simp [intOf]; omega
      · have hx42 : ((s[k].toNat : Int) == 42) = false := by simpa using h42
        by_cases h63 : (s[k].toNat : Int) = 63
        · have hx63 : ((s[k].toNat : Int) == 63) = true := by simpa using h63
          have hQ := Lib.hid (rq_yes hlt (special_of (by omega)) hH.out)
          go_wp2_with fail
          go_round
          case rel => exact ⟨k + 1, _, by omega, by go_num, rfl, rq_size (by omega), hQ⟩
          case measure => simp [intOf]; omega
        · have hx63 : ((s[k].toNat : Int) == 63) = false := by simpa using h63
          by_cases h91 : (s[k].toNat : Int) = 91
          · have hx91 : ((s[k].toNat : Int) == 91) = true := by simpa using h91
            have hQ := Lib.hid (rq_yes hlt (special_of (by omega)) hH.out)
            go_wp2_with fail
            go_round
            case rel => exact ⟨k + 1, _, by omega, by go_num, rfl, rq_size (by omega), hQ⟩
            case measure => simp [intOf]; omega
          · have hx91 : ((s[k].toNat : Int) == 91) = false := by simpa using h91
            by_cases h92 : (s[k].toNat : Int) = 92
            · have hx92 : ((s[k].toNat : Int) == 92) = true := by simpa using h92
              have hQ := Lib.hid (rq_yes hlt (special_of (by omega)) hH.out)
              go_wp2_with fail
              go_round
              case rel => exact ⟨k + 1, _, by omega, by go_num, rfl, rq_size (by omega), hQ⟩
              case measure => simp [intOf]; omega
            · have hx92 : ((s[k].toNat : Int) == 92) = false := by simpa using h92
              have hQ := Lib.hid (rq_no hlt (special_not h42 h63 h91 h92) hH.out)
              go_wp2_with fail
              go_round
              case rel => exact ⟨k + 1, _, by omega, by go_num, rfl, rq_size1 (by omega), hQ⟩
              case measure => simp [intOf]; omega
    · have hE := Lib.hid (rq_end (show s.size ≤ k by omega) hH.out)
      go_wp2_with fail
      go_ret
      exact ⟨rq_ret hE.out, rfl⟩

end Go.Proofs.YtadihlmpkckakaaDoor
