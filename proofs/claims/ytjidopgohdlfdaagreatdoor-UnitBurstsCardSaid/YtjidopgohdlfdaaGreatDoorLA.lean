/-
  The walks of the library's reader of a hex byte, and of what cuts off blanks. A premise where an error is made: the library's variable ErrSyntax holds an error, or none.
-/
import Derived.Test.YtjidopgohdlfdaaGreatDoorChecked
import Derived.Test.YtjidopgohdlfdaaGreatDoorLMath
import Derived.Test.YtjidopgohdlfdaaGreatDoorShelf
import Derived.WalkKit
import Derived.WalkSpells
import Derived.WalkLawsBesides
import Derived.Deep.QuietTactic
import Derived.BigQuiet
import Derived.Lib.Hide
import Derived.Lib.Strings
import Derived.Lib.IfaceEq
import Derived.Outline
import Derived.Below
import Derived.Deep.Cut
namespace Go.Proofs.YtjidopgohdlfdaaGreatDoor.S4
open Go.RowKit Ln

theorem ret_bool {a b : Bool} (h : a = b) : Ending.returned (.bool a) = .returned (.bool b) := by rw [h]
theorem set_info : (Tryz.prog.info? 156).map (fun i => (i.zero, i.size)) = some (some (.agg (Array.replicate 256 (.bool false))), 256) := by kernel_rfl
theorem blank_set (l : List UInt8) : Lib.trimLeftS l [32, 9] = l.dropWhile gapC := by
  unfold Lib.trimLeftS
  congr 1
  funext c
  unfold gapC
  simp only [List.contains, List.elem]
  cases c == 32 <;> cases c == 9 <;> rfl
/-- What is left where blanks ahead are cut off. -/
def rst (s : ByteArray) : ByteArray := ⟨(s.data.toList.dropWhile gapC).toArray⟩
theorem trim_any (s : ByteArray) (w : World) : Calls Tryz.prog 105 #[.string s, .string ⟨#[32, 9]⟩] w fun e w' => e = .returned (.string (rst s)) ∧ Below w.heap.size w w' := by
  refine (Any.strings_TrimLeft_laid Tryz.lays161 set_info s ⟨#[32, 9]⟩ w (by decide) ?_).mono fun _ _ ⟨he, hw⟩ => ⟨?_, hw⟩
  · intro j b hb
    match j, hb with
    | 0, hb => simp at hb; subst hb; decide
    | 1, hb => simp at hb; subst hb; decide
    | j + 2, hb => simp at hb
  · rw [he]
    show Ending.returned (.string ⟨(Lib.trimLeftS s.data.toList [32, 9]).toArray⟩) = _
    rw [blank_set]
    rfl

/-- What the library's variable ErrSyntax holds. -/
def ErrAt (w : World) : Prop := ∃ ev, w.cell? ⟨7, 0, none⟩ = some ev ∧ (ev = .nilIface ∨ ∃ te pe, ev = .iface te pe)
theorem ErrAt.on {w w' : World} (h : ErrAt w) (hb : Below w.heap.size w w') : ErrAt w' := by
  obtain ⟨ev, h1, h2⟩ := h
  exact ⟨ev, (hb.cell (p := ⟨7, 0, none⟩) (Lib.lt_of_cell h1)).trans h1, h2⟩
def low (c : UInt8) : Int := bits .or .u8 (c.toNat : Int) 32
theorem lower_any (c : UInt8) (w : World) : Calls Tryz.prog 139 #[.int .u8 (c.toNat : Int)] w fun e w' => e = .returned (.int .u8 (low c)) ∧ w = w' :=
  (Tryz.internal_strconv_lower (c.toNat : Int) w).mono fun _ _ ⟨he, hw⟩ => ⟨he, hw.symm⟩
/-- A byte's kind, for the library's reader: a digit, a letter to f, a letter behind f, something else. -/
def kindB (c : UInt8) : Nat := if 48 ≤ c.toNat ∧ c.toNat ≤ 57 then 0 else if 97 ≤ low c ∧ low c ≤ 102 then 1 else if 97 ≤ low c ∧ low c ≤ 122 then 2 else 3
theorem kind_all : ∀ n : Fin 256, (kindB (UInt8.ofNat n.1) = 1 → (hexd (UInt8.ofNat n.1) : Int) = low (UInt8.ofNat n.1) - 87) ∧ (2 ≤ kindB (UInt8.ofNat n.1) → hexd (UInt8.ofNat n.1) = 16) ∧ (kindB (UInt8.ofNat n.1) ≤ 1 → hexd (UInt8.ofNat n.1) < 16) ∧ 0 ≤ low (UInt8.ofNat n.1) ∧ low (UInt8.ofNat n.1) ≤ 255 := by decide +kernel
theorem kind_of (c : UInt8) : (kindB c = 1 → (hexd c : Int) = low c - 87) ∧ (2 ≤ kindB c → hexd c = 16) ∧ (kindB c ≤ 1 → hexd c < 16) ∧ 0 ≤ low c ∧ low c ≤ 255 := by
  have h := kind_all ⟨c.toNat, c.toNat_lt⟩
  have e : UInt8.ofNat c.toNat = c := by simp
  rw [e] at h
  exact h
end Go.Proofs.YtjidopgohdlfdaaGreatDoor.S4
