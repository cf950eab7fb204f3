/-
  The document's sum: Byte, More, Of. No condition but the lengths that Go's own strings have.
-/
import Derived.Test.YtbbhjhnfjkfklaaDoorA
import Derived.Laws.Bits64
namespace Go.Proofs.YtbbhjhnfjkfklaaDoor
open Go.RowKit

theorem wrap_u32 (n : Int) : IntKind.u32.wrap n = n % 4294967296 := by simp [IntKind.wrap, IntKind.bits, IntKind.signed]
theorem wrap_u8 (n : Int) : IntKind.u8.wrap n = n % 256 := by simp [IntKind.wrap, IntKind.bits, IntKind.signed]
theorem w32_small {n : Nat} (h : n < 4294967296) : IntKind.u32.wrap (n : Int) = (n : Int) := by rw [wrap_u32]; omega
theorem xor_u32 {a b : Nat} (ha : a < 4294967296) (hb : b < 4294967296) : bits .xor .u32 (a : Int) (b : Int) = ((a ^^^ b : Nat) : Int) := by
  have hx : a ^^^ b < 4294967296 := lt_xor ha hb
  have h1 : (BitVec.ofInt 32 (a : Int)).toNat = a := by
    rw [BitVec.ofInt_natCast, BitVec.toNat_ofNat]; exact Nat.mod_eq_of_lt (by omega)
  have h2 : (BitVec.ofInt 32 (b : Int)).toNat = b := by
    rw [BitVec.ofInt_natCast, BitVec.toNat_ofNat]; exact Nat.mod_eq_of_lt (by omega)
  show IntKind.u32.wrap ((BitVec.ofInt 32 (a : Int) ^^^ BitVec.ofInt 32 (b : Int)).toNat : Int) = _
  rw [BitVec.toNat_xor, h1, h2, w32_small hx]
theorem and_one {x : Nat} (h : x < 4294967296) : bits .and .u32 (x : Int) 1 = ((x % 2 : Nat) : Int) := by
  have h1 : (BitVec.ofInt 32 (x : Int)).toNat = x := by
    rw [BitVec.ofInt_natCast, BitVec.toNat_ofNat]; exact Nat.mod_eq_of_lt (by omega)
  have h2 : (BitVec.ofInt 32 (1 : Int)).toNat = 1 := by decide
  show IntKind.u32.wrap ((BitVec.ofInt 32 (x : Int) &&& BitVec.ofInt 32 (1 : Int)).toNat : Int) = _
  rw [BitVec.toNat_and, h1, h2, Nat.and_one_is_mod, w32_small (by omega)]
theorem shs_last : ∀ (k n : Nat), shs (k + 1) n = sh (shs k n)
  | 0, _ => rfl
  | k + 1, n => by rw [shs, shs_last k (sh n), shs]
theorem rbyte_any {n b : Nat} (hn : n < 4294967296) (hb : b < 256) (w : World) : Calls Tryd.prog 10 #[.int .u32 (n : Int), .int .u8 (b : Int)] w fun e w' => e = .returned (.int .u32 (byteN n b : Nat)) ∧ w = w' := by
  have hx0 := xor_u32 hn (b := b) (by omega)
  have hwb := w32_small (n := b) (by omega)
  have hlt : ∀ i, shs i (n ^^^ b) < 4294967296 := fun i => shs_lt i (lt_xor hn (by omega))
  have hst : ∀ i, shs (i + 1) (n ^^^ b) = sh (shs i (n ^^^ b)) := fun i => shs_last i _
  have h8 : byteN n b = shs 8 (n ^^^ b) := rfl
  rw [h8]
  have h0 : shs 0 (n ^^^ b) = n ^^^ b := rfl
  obtain ⟨m, hm⟩ : ∃ m, m = n ^^^ b := ⟨_, rfl⟩
  rw [← hm] at hx0 hlt hst h0 ⊢
  have hltH := Lib.hid hlt
  have hstH := Lib.hid hst
  clear hlt hst hn hb h8 hm
  go_enter Tryd.func10, Tryd.ntmps10
  go_wp2_with fail
  go_loopw [0, 5] (fun s0 s5 wr => ∃ i : Nat, i ≤ 8 ∧ s5 = .int .i64 i ∧ s0 = .int .u32 (shs i m : Nat) ∧ w = wr) (fun _ s5 _ => 8 - (intOf s5).toNat)
  case atStart => exact ⟨0, by omega, rfl, by rw [h0], rfl⟩
  case round =>
    obtain ⟨i, hi, rfl, rfl, rfl⟩ := hrel
    have hl := hltH.out i
    have hs := hstH.out i
    obtain ⟨q, hqe⟩ : ∃ q, q = shs i m := ⟨_, rfl⟩
    rw [← hqe] at hl hs ⊢
    have hqeH := Lib.hid hqe
    clear hqe
    by_cases hil : i < 8
    · have hd : decide ((i : Int) < 8) = true := decide_eq_true (by omega)
      have hwk := wrap_small (x := (i : Int) + 1) (by omega)
      clear hx0 hd
      have hilH := Lib.hid hil
      by_cases h1 : q % 2 = 1
      · have hq : ((q : Int) % 2 == 1) = true := by rw [beq_iff_eq]; omega
        have hd : decide ((i : Int) < 8) = true := decide_eq_true (by omega)
        have hdv : ((q : Int) / 2) = ((q / 2 : Nat) : Int) := by omega
        have hxx : bits .xor .u32 (((q / 2 : Nat) : Int)) 3988292384 = ((sh q : Nat) : Int) := by
          unfold sh
          rw [if_pos h1]
          exact xor_u32 (by omega) (by decide)
        rw [← hs] at hxx
        have hxxH := Lib.hid hxx
        have hdvH := Lib.hid hdv
        clear h1 hs hil hxx hdv
        go_wp2_with fail
        refine ⟨⟨i + 1, by have := hilH.out; omega, by go_num, by rw [hdvH.out, hxxH.out], trivial⟩, by have := hilH.out; simp [intOf]; omega⟩
      · have hq : ((q : Int) % 2 == 1) = false := by rw [beq_eq_false_iff_ne]; omega
        have hd : decide ((i : Int) < 8) = true := decide_eq_true (by omega)
        have hdv : ((q : Int) / 2) = ((sh q : Nat) : Int) := by
          unfold sh
          rw [if_neg h1]
          omega
        rw [← hs] at hdv
        have hdvH := Lib.hid hdv
        clear h1 hs hil hdv
        go_wp2_with fail
        refine ⟨⟨i + 1, by have := hilH.out; omega, by go_num, by rw [hdvH.out], trivial⟩, by have := hilH.out; simp [intOf]; omega⟩
    · have hi8 : i = 8 := by omega
      subst hi8
      rw [hqeH.out]
      go_wp2_with fail
      go_ret
      exact ⟨rfl, rfl⟩
/-- A text's bytes. -/
def bt (s : ByteArray) : List Nat := s.data.toList.map UInt8.toNat
theorem bt_len (s : ByteArray) : (bt s).length = s.size := by unfold bt; rw [List.length_map, Array.length_toList]; rfl
theorem bt_lt (s : ByteArray) : ∀ b ∈ bt s, b < 256 := fun b hb => by
  obtain ⟨x, _, rfl⟩ := List.mem_map.1 hb
  exact x.toNat_lt
theorem bt_at {s : ByteArray} {k : Nat} (h : k < s.size) : (bt s)[k]? = some s[k].toNat := by
  unfold bt
  rw [List.getElem?_map, List.getElem?_eq_getElem (by rw [Array.length_toList]; exact h)]
  rfl
theorem bt_app (s t : ByteArray) : bt (s ++ t) = bt s ++ bt t := by unfold bt; simp
theorem rmore_any {n : Nat} (hn : n < 4294967296) (s : ByteArray) (hs : s.size ≤ maxLen) (w : World) : Calls Tryd.prog 12 #[.int .u32 (n : Int), .string s] w fun e w' => e = .returned (.int .u32 (moreN n (bt s) : Nat)) ∧ w = w' := by
  unfold maxLen at hs
  have hlt := Lib.hid (fun i => moreN_lt (l := (bt s).take i) (fun b hb => bt_lt s b (List.mem_of_mem_take hb)) hn)
  have hst : Hid (∀ i (h : i < s.size), moreN n ((bt s).take (i + 1)) = byteN (moreN n ((bt s).take i)) s[i].toNat) := Lib.hid (fun i h => by
    rw [List.take_add_one, bt_at h]
    exact moreN_snoc _ _ _)
  have hfin : Hid (moreN n ((bt s).take s.size) = moreN n (bt s)) := Lib.hid (by rw [← bt_len, List.take_length])
  obtain ⟨G, hG⟩ : ∃ G, G = moreN n (bt s) := ⟨_, rfl⟩
  rw [← hG] at hfin ⊢
  clear hG
  go_enter Tryd.func12, Tryd.ntmps12
  go_wp2_with fail
  go_loopw [0, 5] (fun s0 s5 wr => ∃ i : Nat, i ≤ s.size ∧ s5 = .int .i64 i ∧ s0 = .int .u32 (moreN n ((bt s).take i) : Nat) ∧ w = wr) (fun _ s5 _ => s.size - (intOf s5).toNat)
  case atStart => exact ⟨0, by omega, rfl, rfl, rfl⟩
  case round =>
    obtain ⟨i, hi, rfl, rfl, rfl⟩ := hrel
    obtain ⟨q, hq⟩ : ∃ q, q = moreN n ((bt s).take i) := ⟨_, rfl⟩
    have hl := hlt.out i
    by_cases hil : i < s.size
    · have hs2 := hst.out i hil
      rw [← hq] at hl hs2 ⊢
      have hB := Lib.hid (rbyte_any hl (b := s[i].toNat) s[i].toNat_lt w)
      have hs2H := Lib.hid hs2
      have hwk := wrap_small (x := (i : Int) + 1) (by omega)
      clear hs2 hq
      go_wp2_with (go_at_call 10; (with_reducible refine (hB.out).mono ?_); rintro e w1 ⟨rfl, rfl⟩)
      go_roundw
      case rel => exact ⟨i + 1, by omega, by go_num, by rw [hs2H.out], trivial⟩
      case measure => simp [intOf]; omega
    · have hin : i = s.size := by omega
      subst hin
      rw [hfin.out]
      clear hq
      go_wp2_with fail
      go_ret
      exact ⟨rfl, rfl⟩
theorem rof_any (s : ByteArray) (hs : s.size ≤ maxLen) (w : World) : Calls Tryd.prog 14 #[.string s] w fun e w' => e = .returned (.int .u32 (ofN (bt s) : Nat)) ∧ w = w' := by
  have hM : Hid (Calls Tryd.prog 12 #[.int .u32 4294967295, .string s] w fun e w' => e = .returned (.int .u32 (moreN full (bt s) : Nat)) ∧ w = w') := Lib.hid (rmore_any (n := full) (by decide) s hs w)
  have hx : bits .xor .u32 (moreN full (bt s) : Nat) 4294967295 = ((ofN (bt s) : Nat) : Int) := xor_u32 (moreN_lt (bt_lt s) (by decide)) (b := full) (by decide)
  clear hs
  generalize ofN (bt s) = q at *
  generalize moreN full (bt s) = m at *
  go_enter Tryd.func14, Tryd.ntmps14
  go_wp2_with (go_at_call 12; (with_reducible refine (hM.out).mono ?_); rintro e w1 ⟨rfl, rfl⟩)
  go_ret
  exact ⟨rfl, rfl⟩
end Go.Proofs.YtbbhjhnfjkfklaaDoor
