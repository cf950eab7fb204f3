/-
  The walk of the library's reader of a number of base 16, at two bytes. No condition.
-/
import Derived.Test.YtjidopgohdlfdaaGreatDoorLA
import Derived.Lib.ConvBytes
import Derived.Lib.AtoiErrMem
import Derived.Laws.Strings3
import Derived.Laws.Closers25
import Derived.Laws.Closers25b
import Derived.BigCall
import Derived.BigGuard
namespace Go.Proofs.YtjidopgohdlfdaaGreatDoor.S4
open Go.RowKit Ln

/-- The number of hex digits, behind what was read of it. -/
def pu : Nat → List UInt8 → Option Nat
  | acc, [] => some acc
  | acc, c :: t => if hexd c < 16 then pu (acc * 16 + hexd c) t else none
def PuEnd : Option Nat → Ending
  | some n => .returned (.tuple #[.int .u64 n, .nilIface])
  | none => .returned (.tuple #[.int .u64 0, .iface 185 (.int .i64 2)])
theorem pu_no {c : UInt8} {acc : Nat} {t : List UInt8} (h : 2 ≤ kindB c) : pu acc (c :: t) = none := by
  have := (kind_of c).2.1 h
  rw [pu, if_neg (by omega)]
theorem pu_yes {c : UInt8} {acc : Nat} {t : List UInt8} (h : kindB c ≤ 1) : pu acc (c :: t) = pu (acc * 16 + hexd c) t := by
  rw [pu, if_pos ((kind_of c).2.2.1 h)]

set_option maxHeartbeats 8000000 in
set_option maxRecDepth 100000 in
theorem iparse_any (t : ByteArray) (hne : t.size = 2) (w : World) :
    Calls Tryz.prog 137 #[.string t, .int .i64 16, .int .i64 8] w fun e w' => e = PuEnd (pu 0 t.data.toList) ∧ Below w.heap.size w w' := by
  have hemp : t.toList.isEmpty = false := by
    rw [← decide_eq_emptyBytes]
    exact decide_eq_false (fun h => by rw [h] at hne; exact absurd hne (by decide))
  have hcv := Lib.run_convert_string_bytes (P := Tryz.prog) w 9 45 5 t (u := .string) Tryz.underlying9 Tryz.underlying45 Tryz.underlying5
  have hB : ∀ j, j < t.size → (Lib.bytesWorld w 5 t).cell? ⟨w.heap.size, j, none⟩ = some (.int .u8 (t.data.toList.getD j 0).toNat) := fun j hj => Lib.bytesWorld_cell w 5 t j hj
  have hbel : Below w.heap.size w (Lib.bytesWorld w 5 t) := Lib.bytesWorld_below w 5 t
  obtain ⟨W1, hW1⟩ : ∃ W1, W1 = Lib.bytesWorld w 5 t := ⟨_, rfl⟩
  rw [← hW1] at hcv hB hbel
  clear hW1
  have hbelH := Lib.hid hbel
  obtain ⟨bs, hL⟩ : ∃ bs, bs = t.data.toList := ⟨_, rfl⟩
  have hLn : bs.length = 2 := by rw [hL, ← hne, Lib.size_eq]
  rw [← hL] at hB ⊢
  clear hL hbel
  rw [hne] at hB
  have hneH := Lib.hid hne
  have hmv : IntKind.u64.wrap (IntKind.u64.wrap 256 - 1) = 255 := by
    rw [IntKind.wrap_u64, IntKind.wrap_u64]
    decide
  have hlen : (t.size : Int) = 2 := by rw [hne]; rfl
  clear hne
  go_enter Tryz.func137, Tryz.ntmps137
  go_wp2
  go_loop [12, 13, 101] (fun vu vn vi => ∃ (k acc : Nat) (a : Int), vu = .bool false ∧ vn = .int .u64 a ∧ vi = .int .i64 k ∧ k ≤ 2 ∧ Hid (a = (acc : Int) ∧ acc ≤ 255 ∧ (k ≤ 1 → acc ≤ 15) ∧ (k ≤ 0 → acc ≤ 0) ∧ pu 0 bs = pu acc (bs.drop k)))
    (fun _ _ vi => 2 - (intOf vi).toNat)
  case atStart => exact ⟨0, 0, 0, rfl, rfl, rfl, by omega, rfl, by omega, by omega, by omega, rfl⟩
  case round =>
    obtain ⟨k, acc, a, rfl, rfl, rfl, hk, hh⟩ := hrel
    obtain ⟨ha, hacc, hacc1, hacc0, hdec⟩ := hh.out
    clear hh
    have a0 : 0 ≤ a := by omega
    by_cases hkn : k < 2
    · have a1 : a ≤ 15 := by have := hacc1 (by omega); omega
      have hc := hB k hkn
      have hdrop : bs.drop k = bs[k]'(by omega) :: bs.drop (k + 1) := List.drop_eq_getElem_cons (by omega)
      have hget : bs.getD k 0 = bs[k]'(by omega) := by simp [List.getD, List.getElem?_eq_getElem (show k < bs.length by omega)]
      rw [hdrop] at hdec
      rw [hget] at hc
      generalize bs[k]'(by omega) = c at hc hdec
      have hc256 : c.toNat < 256 := c.toNat_lt
      obtain ⟨k1, k2, k3, k4, k5⟩ := kind_of c
      clear hB hdrop hget hacc1
      by_cases hdig : 48 ≤ c.toNat ∧ c.toNat ≤ 57
      · obtain ⟨hd0, hd1⟩ := hdig
        have hkind : kindB c = 0 := by unfold kindB; rw [if_pos ⟨hd0, hd1⟩]
        have hh16 : hexd c = c.toNat - 48 := by unfold hexd; rw [if_pos ⟨hd0, hd1⟩]
        rw [pu_yes (by omega), hh16] at hdec
        have HN : Hid (a * 16 + ((c.toNat : Int) - 48) = ((acc * 16 + (c.toNat - 48) : Nat) : Int) ∧ acc * 16 + (c.toNat - 48) ≤ 255 ∧ (k + 1 ≤ 1 → acc * 16 + (c.toNat - 48) ≤ 15) ∧ (k + 1 ≤ 0 → acc * 16 + (c.toNat - 48) ≤ 0) ∧ pu 0 bs = pu (acc * 16 + (c.toNat - 48)) (bs.drop (k + 1))) := Lib.hid ⟨by omega, by omega, fun h => by have := hacc0 (by omega); omega, fun h => by omega, hdec⟩
        clear hdec ha hh16 hkind hacc0 k1 k2 k3 k4 k5
        go_wp2
        refine ⟨⟨k + 1, acc * 16 + (c.toNat - 48), a * 16 + ((c.toNat : Int) - 48), rfl, (by first | rfl | (congr 1; omega)), (by first | rfl | (congr 1; omega)), by omega, HN⟩, by simp [intOf]; omega⟩
      · have hd95 : ((c.toNat : Int) == 95) = false ∨ c.toNat = 95 := by
          by_cases h : c.toNat = 95
          · exact Or.inr h
          · exact Or.inl (beq_eq_false_iff_ne.2 (by omega))
        by_cases hlet : 97 ≤ low c ∧ low c ≤ 102
        · obtain ⟨hd0, hd1⟩ := hlet
          have hkind : kindB c = 1 := by unfold kindB; rw [if_neg hdig, if_pos ⟨hd0, hd1⟩]
          have hh16 := k1 hkind
          have hh15 := k3 (by omega)
          have h95 : ((c.toNat : Int) == 95) = false := by
            rcases hd95 with h | h
            · exact h
            · exfalso
              have : c = 95 := by apply UInt8.toNat_inj.1; simpa using h
              subst this
              exact absurd hd1 (by decide +kernel)
          have hdig2 : c.toNat < 48 ∨ 57 < c.toNat := by omega
          rw [pu_yes (by omega)] at hdec
          have HN : Hid (a * 16 + (low c - 87) = ((acc * 16 + hexd c : Nat) : Int) ∧ acc * 16 + hexd c ≤ 255 ∧ (k + 1 ≤ 1 → acc * 16 + hexd c ≤ 15) ∧ (k + 1 ≤ 0 → acc * 16 + hexd c ≤ 0) ∧ pu 0 bs = pu (acc * 16 + hexd c) (bs.drop (k + 1))) := Lib.hid ⟨by omega, by omega, fun h => by have := hacc0 (by omega); omega, fun h => by omega, hdec⟩
          clear hdec ha hh16 hkind hacc0 k1 k2 k3 hh15 hdig hd95
          go_wp2_with (go_at_call 139; (with_reducible refine (lower_any c _).mono ?_); rintro e w' ⟨rfl, rfl⟩)
          all_goals first
            | (exfalso; omega)
            | (refine ⟨⟨k + 1, acc * 16 + hexd c, a * 16 + (low c - 87), rfl, (by first | rfl | (congr 1; omega)), (by first | rfl | (congr 1; omega)), by omega, HN⟩, by simp [intOf]; omega⟩)
        · have hkind : 2 ≤ kindB c := by unfold kindB; rw [if_neg hdig, if_neg hlet]; split <;> omega
          rw [pu_no hkind] at hdec
          have hD := Lib.hid hdec
          clear hdec ha hacc0 k1 k2 k3
          rcases hd95 with h95 | h95
          · clear hkind
            go_wp2_with (go_at_call 139; (with_reducible refine (lower_any c _).mono ?_); rintro e w' ⟨rfl, rfl⟩)
            all_goals first
              | (exfalso; omega)
              | (go_ret2; exact ⟨by rw [hD.out]; rfl, hbelH.out⟩)
          · have : c = 95 := by apply UInt8.toNat_inj.1; simpa using h95
            subst this
            have lower95 : ∀ w, Calls Tryz.prog 139 #[.int .u8 95] w fun e w' => e = .returned (.int .u8 127) ∧ w = w' := fun w =>
              (Tryz.internal_strconv_lower 95 w).mono fun _ _ ⟨he, hw⟩ => ⟨he, hw.symm⟩
            clear hkind
            go_wp2_with (go_at_call 139; (with_reducible refine (lower95 _).mono ?_); rintro e w' ⟨rfl, rfl⟩)
            all_goals first
              | (exfalso; omega)
              | (go_ret2; exact ⟨by rw [hD.out]; rfl, hbelH.out⟩)
    · obtain rfl : k = 2 := by omega
      have hn : bs.drop 2 = [] := List.drop_eq_nil_of_le (by omega)
      have hD : Hid (PuEnd (pu 0 bs) = .returned (.tuple #[.int .u64 a, .nilIface])) := Lib.hid (by rw [hdec, hn, ha]; rfl)
      clear hdec ha hacc hacc1 hacc0 hn
      go_wp2
      go_ret2
      exact ⟨hD.out.symm, hbelH.out⟩
end Go.Proofs.YtjidopgohdlfdaaGreatDoor.S4
