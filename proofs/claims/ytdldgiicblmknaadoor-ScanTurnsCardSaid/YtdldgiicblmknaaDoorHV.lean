/-
  The walk of the laws' far. No condition but a length.
-/
import Derived.Test.YtdldgiicblmknaaDoorHU
namespace Go.Proofs.YtdldgiicblmknaaDoor
open Go.RowKit

/-- A call: its kind, its key, its number. -/
abbrev Op3 := Int × ByteArray × Int
/-- A row of calls that is read. -/
def OpsAt (w : World) (B : Nat) (A : Option Addr) (l : List Op3) : Prop := ∀ i x, l[i]? = some x → ∃ a, A = some a ∧ a.block < B ∧ w.cell? (a.add (i * 3)) = some (.int .i64 x.1) ∧ w.cell? ⟨(a.add (i * 3)).block, (a.add (i * 3)).off + 1, none⟩ = some (.string x.2.1) ∧ w.cell? ⟨(a.add (i * 3)).block, (a.add (i * 3)).off + 2, none⟩ = some (.int .i64 x.2.2)
theorem add_block (a : Addr) (j : Nat) : (a.add j).block = a.block := by unfold Addr.add; split <;> rfl
theorem OpsAt.on {w w' : World} {A : Option Addr} {l : List Op3} {B : Nat} (h : OpsAt w B A l) (hb : Below B w w') : OpsAt w' B A l := by
  intro i x hx
  obtain ⟨a, rfl, h1, h2, h3, h4⟩ := h i x hx
  have hab : ∀ j, (a.add j).block < B := fun j => by rw [add_block]; exact h1
  exact ⟨a, rfl, h1, (hb.cell (hab _)).trans h2, (hb.cell (p := ⟨(a.add (i * 3)).block, _, none⟩) (hab _)).trans h3, (hb.cell (p := ⟨(a.add (i * 3)).block, _, none⟩) (hab _)).trans h4⟩

/-- Whether calls are too many, or keys too long. -/
def farO (l : List Op3) : Bool := l.any (fun o => decide (200 < o.2.1.size)) || decide (300 < l.length)

set_option maxHeartbeats 2000000 in
theorem far_any (A : Option Addr) (c : Nat) (l : List Op3) (w : World) (hr : OpsAt w w.heap.size A l) (hl : l.length ≤ 140737488355328) :
    Calls Tryd.prog 7 #[.slice A l.length c] w fun e w' => e = .returned (.bool (farO l)) ∧ Below w.heap.size w w' := by
  have hrH := Lib.hid hr
  clear hr
  go_enter Tryd.func7, Tryd.ntmps7
  go_wp2_with fail
  go_loopw [4, 7] (fun n i wr => ∃ k : Nat, i = .int .i64 k ∧ k ≤ l.length ∧ Hid (∀ x ∈ l.take k, ¬ 200 < x.2.1.size) ∧ Hid (Below w.heap.size w wr)) (fun _ i _ => l.length - (intOf i).toNat)
  case atStart => exact ⟨0, rfl, by omega, Lib.hid (by simp), Lib.hid (Below.refl _ _)⟩
  case round =>
    obtain ⟨k, rfl, hk, hT, hB⟩ := hrel
    by_cases hlt : k < l.length
    · obtain ⟨x, hx⟩ : ∃ x, l[k]? = some x := ⟨_, List.getElem?_eq_getElem hlt⟩
      obtain ⟨a, rfl, ha, h1, h2, h3⟩ := hrH.out.on hB.out k x hx
      have hxm := Lib.hid (List.mem_of_getElem? hx)
      have htk := Lib.hid (show l.take (k + 1) = l.take k ++ [x] by rw [List.take_add_one, hx]; rfl)
      clear hx
      by_cases h200 : 200 < x.2.1.size
      · have hF := Lib.hid (show farO l = true by unfold farO; rw [Bool.or_eq_true]; left; rw [List.any_eq_true]; exact ⟨x, hxm.out, by simpa using h200⟩)
        have hd : decide (200 < x.2.1.size) = true := by simpa using h200
        go_wp2_with fail
        go_ret
        exact ⟨by rw [hF.out]; rfl, hB.out.alloc hB.out.size _⟩
      · have hnH := Lib.hid h200
        go_wp2_with fail
        all_goals first
          | (exfalso; omega)
          | skip
        go_roundw
        case rel => exact ⟨k + 1, by go_num, by omega, Lib.hid (by rw [htk.out]; intro y hy; exact (List.mem_append.1 hy).elim (fun hy => hT.out y hy) (fun hy => by simp at hy; rw [hy]; exact hnH.out)), Lib.hid (hB.out.alloc hB.out.size _)⟩
        case measure => simp [intOf]; omega
    · have hk2 : k = l.length := by omega
      subst hk2
      have hF := Lib.hid (show farO l = decide (300 < l.length) by
        have hT2 := hT.out
        rw [List.take_length] at hT2
        unfold farO
        have : l.any (fun o => decide (200 < o.2.1.size)) = false := by
          rw [List.any_eq_false]
          intro x hx
          have := hT2 x hx
          simpa using this
        rw [this, Bool.false_or])
      go_wp2_with fail
      go_ret
      have hdd : decide ((300 : Int) < (l.length : Int)) = decide (300 < l.length) := decide_eq_decide.2 (by omega)
      exact ⟨by rw [hF.out, ← hdd]; rfl, hB.out⟩

end Go.Proofs.YtdldgiicblmknaaDoor
