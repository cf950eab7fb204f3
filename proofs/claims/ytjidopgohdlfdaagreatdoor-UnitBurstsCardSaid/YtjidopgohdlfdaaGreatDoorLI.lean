/-
  The walks of the reference's hex digit and of what a turned byte is. No condition.
-/
import Derived.Test.YtjidopgohdlfdaaGreatDoorLC
namespace Go.Proofs.YtjidopgohdlfdaaGreatDoor.S4
open Go.RowKit Ln

def lowS : ByteArray := ⟨#[48, 49, 50, 51, 52, 53, 54, 55, 56, 57, 97, 98, 99, 100, 101, 102]⟩
def uppS : ByteArray := ⟨#[48, 49, 50, 51, 52, 53, 54, 55, 56, 57, 65, 66, 67, 68, 69, 70]⟩
theorem digit_hit : ∀ k : Fin 16, hexd (lowS[k.1]'k.2) = k.1 ∧ hexd (uppS[k.1]'k.2) = k.1 := by decide +kernel
theorem digit_miss : ∀ n : Fin 256, (∀ k : Fin 16, lowS[k.1]'k.2 ≠ UInt8.ofNat n.1 ∧ uppS[k.1]'k.2 ≠ UInt8.ofNat n.1) → hexd (UInt8.ofNat n.1) = 16 := by decide +kernel
theorem digit_none {c : UInt8} (h : ∀ k : Fin 16, lowS[k.1]'k.2 ≠ c ∧ uppS[k.1]'k.2 ≠ c) : hexd c = 16 := by
  have e : UInt8.ofNat c.toNat = c := by simp
  have := digit_miss ⟨c.toNat, c.toNat_lt⟩
  rw [e] at this
  exact this h
theorem byte_eq {a b : UInt8} (h : (a.toNat : Int) = (b.toNat : Int)) : a = b := UInt8.toNat_inj.1 (by omega)

set_option maxHeartbeats 2000000 in
set_option maxRecDepth 100000 in
theorem digit_any (c : UInt8) (w : World) : Calls Tryz.prog 79 #[.int .u8 (c.toNat : Int)] w fun e w' => e = .returned (.int .i64 (hexd c : Int)) ∧ w = w' := by
  go_enter Tryz.func79, Tryz.ntmps79
  go_wp2
  go_loop [5] (fun i => ∃ k : Nat, i = .int .i64 k ∧ k ≤ 16 ∧ Hid (∀ j : Fin 16, j.1 < k → lowS[j.1]'j.2 ≠ c ∧ uppS[j.1]'j.2 ≠ c)) (fun i => 16 - (intOf i).toNat)
  case atStart => exact ⟨0, rfl, by omega, Lib.hid (fun j h => by omega)⟩
  case round =>
    obtain ⟨k, rfl, hk, hM⟩ := hrel
    by_cases hlt : k < 16
    · have hd := Lib.hid (digit_hit ⟨k, hlt⟩)
      by_cases q1 : lowS[k]'hlt = c
      · have hR : Hid (hexd c = k) := Lib.hid (by rw [← q1]; exact hd.out.1)
        have hq : (((⟨#[48, 49, 50, 51, 52, 53, 54, 55, 56, 57, 97, 98, 99, 100, 101, 102]⟩ : ByteArray)[k]'hlt).toNat : Int) = (c.toNat : Int) := by rw [← q1]; rfl
        have hq' : ((((⟨#[48, 49, 50, 51, 52, 53, 54, 55, 56, 57, 97, 98, 99, 100, 101, 102]⟩ : ByteArray)[k]'hlt).toNat : Int) == (c.toNat : Int)) = true := by rw [hq]; simp
        clear q1 hq
        go_wp2
        go_ret
        exact ⟨by rw [hR.out]; rfl, rfl⟩
      · have hq' : ((((⟨#[48, 49, 50, 51, 52, 53, 54, 55, 56, 57, 97, 98, 99, 100, 101, 102]⟩ : ByteArray)[k]'hlt).toNat : Int) == (c.toNat : Int)) = false := beq_eq_false_iff_ne.2 (fun h => q1 (byte_eq h))
        by_cases q2 : uppS[k]'hlt = c
        · have hR : Hid (hexd c = k) := Lib.hid (by rw [← q2]; exact hd.out.2)
          have hq2 : ((((⟨#[48, 49, 50, 51, 52, 53, 54, 55, 56, 57, 65, 66, 67, 68, 69, 70]⟩ : ByteArray)[k]'hlt).toNat : Int) == (c.toNat : Int)) = true := by rw [← q2]; simp [uppS]
          clear q1 q2
          go_wp2
          go_ret
          exact ⟨by rw [hR.out]; rfl, rfl⟩
        · have hq2 : ((((⟨#[48, 49, 50, 51, 52, 53, 54, 55, 56, 57, 65, 66, 67, 68, 69, 70]⟩ : ByteArray)[k]'hlt).toNat : Int) == (c.toNat : Int)) = false := beq_eq_false_iff_ne.2 (fun h => q2 (byte_eq h))
          have hM2 : Hid (∀ j : Fin 16, j.1 < k + 1 → lowS[j.1]'j.2 ≠ c ∧ uppS[j.1]'j.2 ≠ c) := Lib.hid (fun j hj => by
            by_cases e : j.1 = k
            · obtain rfl : j = ⟨k, hlt⟩ := Fin.ext e
              exact ⟨q1, q2⟩
            · exact hM.out j (by omega))
          clear q1 q2
          go_wp2
          go_round
          case rel => exact ⟨k + 1, by go_num, by omega, hM2⟩
          case measure => simp [intOf]; omega
    · have hR : Hid (hexd c = 16) := Lib.hid (digit_none fun j => hM.out j (by have := j.2; omega))
      go_wp2
      go_ret
      exact ⟨by rw [hR.out]; rfl, rfl⟩

def fromS : ByteArray := ⟨#[110, 114, 116, 98, 97]⟩
def toS : ByteArray := ⟨#[10, 13, 9, 8, 7]⟩
theorem turned_hit : ∀ k : Fin 5, turned (fromS[k.1]'k.2) = toS[k.1]'k.2 := by decide +kernel
theorem turned_none {c : UInt8} (h : ∀ k : Fin 5, fromS[k.1]'k.2 ≠ c) : turned c = c := by
  unfold turned
  rw [if_neg (fun e => h ⟨0, by decide⟩ e.symm), if_neg (fun e => h ⟨1, by decide⟩ e.symm), if_neg (fun e => h ⟨2, by decide⟩ e.symm), if_neg (fun e => h ⟨3, by decide⟩ e.symm), if_neg (fun e => h ⟨4, by decide⟩ e.symm)]
set_option maxHeartbeats 2000000 in
set_option maxRecDepth 100000 in
theorem turned_any (c : UInt8) (w : World) : Calls Tryz.prog 80 #[.int .u8 (c.toNat : Int)] w fun e w' => e = .returned (.int .u8 ((turned c).toNat : Int)) ∧ w = w' := by
  go_enter Tryz.func80, Tryz.ntmps80
  go_wp2
  go_loop [5] (fun i => ∃ k : Nat, i = .int .i64 k ∧ k ≤ 5 ∧ Hid (∀ j : Fin 5, j.1 < k → fromS[j.1]'j.2 ≠ c)) (fun i => 5 - (intOf i).toNat)
  case atStart => exact ⟨0, rfl, by omega, Lib.hid (fun j h => by omega)⟩
  case round =>
    obtain ⟨k, rfl, hk, hM⟩ := hrel
    by_cases hlt : k < 5
    · have hd := Lib.hid (turned_hit ⟨k, hlt⟩)
      by_cases q1 : fromS[k]'hlt = c
      · have hR : Hid (turned c = toS[k]'hlt) := Lib.hid (by rw [← q1]; exact hd.out)
        have hq' : ((((⟨#[110, 114, 116, 98, 97]⟩ : ByteArray)[k]'hlt).toNat : Int) == (c.toNat : Int)) = true := by rw [← q1]; simp [fromS]
        clear q1
        go_wp2
        go_ret
        exact ⟨by rw [hR.out]; rfl, rfl⟩
      · have hq' : ((((⟨#[110, 114, 116, 98, 97]⟩ : ByteArray)[k]'hlt).toNat : Int) == (c.toNat : Int)) = false := beq_eq_false_iff_ne.2 (fun h => q1 (byte_eq h))
        have hM2 : Hid (∀ j : Fin 5, j.1 < k + 1 → fromS[j.1]'j.2 ≠ c) := Lib.hid (fun j hj => by
          by_cases e : j.1 = k
          · obtain rfl : j = ⟨k, hlt⟩ := Fin.ext e
            exact q1
          · exact hM.out j (by omega))
        clear q1
        go_wp2
        go_round
        case rel => exact ⟨k + 1, by go_num, by omega, hM2⟩
        case measure => simp [intOf]; omega
    · have hR : Hid (turned c = c) := Lib.hid (turned_none fun j => hM.out j (by have := j.2; omega))
      go_wp2
      go_ret
      exact ⟨by rw [hR.out]; rfl, rfl⟩
end Go.Proofs.YtjidopgohdlfdaaGreatDoor.S4
