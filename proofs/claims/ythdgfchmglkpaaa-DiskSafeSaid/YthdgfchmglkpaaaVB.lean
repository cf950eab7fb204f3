/-
  slices.IndexFunc with the program's function literals: the first place at which one says yes, or -1; the program's place. Premises: the row lies in memory, what is captured does.
-/
import Derived.Test.YthdgfchmglkpaaaChecked
import Derived.Test.YthdgfchmglkpaaaMath
import Derived.Test.YthdgfchmglkpaaaA
import Derived.Test.YthdgfchmglkpaaaB
import Derived.Test.YthdgfchmglkpaaaC
import Derived.Test.YthdgfchmglkpaaaD
import Derived.Test.YthdgfchmglkpaaaVA
import Derived.WalkKit
import Derived.WalkSpells
import Derived.WalkLawsBesides
import Derived.Deep.QuietTactic
import Derived.BigQuiet
import Derived.Lib.Hide
import Derived.Lib.SmallJoins
import Derived.Outline
import Derived.OwnWalk
import Derived.Deep.CutBlock
import Derived.BigRegion
import Derived.StillTailTactics
import Derived.Laws.AppendOwnNone
import Derived.Maps.AppendAt
import Derived.Deep.RegionLaw
import Derived.Deep.RegionHeld3
import Derived.Lib.BufferRead
import Derived.Deep.AppendLies
namespace Go.Proofs.Ythdgfchmglkpaaa
open Go.RowKit
/-- The first place of a row at which p holds, or -1. -/
def IdxOf {α : Type} (p : α → Prop) (L : List α) (r : Int) : Prop := (r = -1 ∧ ∀ f ∈ L, ¬ p f) ∨ ∃ (i : Nat) (f : α), r = (i : Int) ∧ L[i]? = some f ∧ p f ∧ ∀ g ∈ L.take i, ¬ p g
theorem take_more {α : Type} {p : α → Prop} {L : List α} {i : Nat} {f : α} (h : L[i]? = some f) (h0 : ∀ g ∈ L.take i, ¬ p g) (hf : ¬ p f) : ∀ g ∈ L.take (i + 1), ¬ p g := by
  intro g hg
  rw [List.take_add_one, h] at hg
  rcases List.mem_append.1 hg with h1 | h1
  · exact h0 g h1
  · simp at h1; subst h1; exact hf
set_option maxHeartbeats 2000000 in
theorem index_place_any {w : World} {A : Option Addr} {c : Nat} {L : List Fl} (k : ByteArray) (b : Nat) (hb : w.cell? ⟨b, 0, none⟩ = some (.string k)) (h : FilesAt w A L) (hl : L.length ≤ 140737488355328) :
    Calls Try.prog 47 #[.slice A L.length c, .func (.func 48) #[] #[.pointer (some ⟨b, 0, none⟩)]] w fun e w' => (∃ r, e = .returned (.int .i64 r) ∧ IdxOf (fun f => f.1 = k) L r) ∧ Below w.heap.size w w' := by
  have hHH := Lib.hid h
  have hbH := Lib.hid hb
  have hbl := Lib.hid (cell_lt hb)
  clear hb
  have hget : Hid (∀ i, i < L.length → ∃ f, L[i]? = some f) := Lib.hid (fun i hi => ⟨_, List.getElem?_eq_getElem hi⟩)
  have htm : Hid (∀ i f, L[i]? = some f → (∀ g ∈ L.take i, ¬ (g.1 = k)) → ¬ (f.1 = k) → ∀ g ∈ L.take (i + 1), ¬ (g.1 = k)) := Lib.hid (fun i f hf h0 h1 => take_more (p := fun f => f.1 = k) hf h0 h1)
  have hno : Hid ((∀ g ∈ L.take L.length, ¬ (g.1 = k)) → IdxOf (fun f => f.1 = k) L (-1)) := Lib.hid (fun h0 => Or.inl ⟨rfl, by rw [List.take_length] at h0; exact h0⟩)
  have hyes : Hid (∀ i f, L[i]? = some f → (∀ g ∈ L.take i, ¬ (g.1 = k)) → (f.1 = k) → IdxOf (fun f => f.1 = k) L (i : Int)) := Lib.hid (fun i f hf h0 h1 => Or.inr ⟨i, f, rfl, hf, h1, h0⟩)
  clear h
  generalize L.length = n at *
  go_enter Try.func47, Try.ntmps47
  go_wp2_with fail
  go_loopw [8] (fun s8 wr => ∃ i : Nat, i ≤ n ∧ s8 = .int .i64 i ∧ Hid (∀ g ∈ L.take i, ¬ (g.1 = k)) ∧ Hid (Below w.heap.size w wr)) (fun s8 _ => n - (intOf s8).toNat)
  case atStart => exact ⟨0, by omega, rfl, Lib.hid (fun g hg => by simp at hg), Lib.hid (Below.refl _ _)⟩
  case round =>
    obtain ⟨i, hi, rfl, h0, hW⟩ := hrel
    by_cases hil : i < n
    · obtain ⟨f, hf⟩ := hget.out i hil
      obtain ⟨a, rfl, ha, y0, y1, y2⟩ := hHH.out.on hW.out i f hf
      have hix := run_ixF a i n c hil
      have hb1 : wr.cell? ⟨b, 0, none⟩ = some (.string k) := (hW.out.cell (p := ⟨b, 0, none⟩) hbl.out).trans hbH.out
      have hilH := Lib.hid hil
      have dk : decide ((i : Int) < (n : Int)) = true := decide_eq_true (by omega)
      have dk2 : decide (i < n) = true := decide_eq_true hil
      have hwk := wrap_small (x := (i : Int) + 1) (by omega)
      have hC := Lib.hid (place1_any f k b wr (hb1))
      by_cases hp : f.1 = k
      · rw [decide_eq_true hp] at hC
        have hY := Lib.hid (hyes.out i f hf h0.out hp)
        clear hil hf hp
        go_wp2_with (go_at_call 48; (with_reducible refine (hC.out).mono ?_); rintro e w3 ⟨rfl, hb3⟩)
        go_ret
        exact ⟨⟨_, rfl, hY.out⟩, hW.out.trans (hb3.mono hW.out.size)⟩
      · rw [decide_eq_false hp] at hC
        have hN := Lib.hid (htm.out i f hf h0.out hp)
        clear hil hf hp
        go_wp2_with (go_at_call 48; (with_reducible refine (hC.out).mono ?_); rintro e w3 ⟨rfl, hb3⟩)
        go_roundw
        case rel => exact ⟨i + 1, by have := hilH.out; omega, by go_num, hN, Lib.hid (hW.out.trans (hb3.mono hW.out.size))⟩
        case measure => have := hilH.out; simp [intOf]; omega
    · have hin : n = i := by omega
      subst hin
      have dk : decide ((n : Int) < (n : Int)) = false := decide_eq_false (by omega)
      have dk2 : decide (n < n) = false := decide_eq_false (by omega)
      have hY := Lib.hid (hno.out h0.out)
      clear hil
      go_wp2_with fail
      go_ret
      exact ⟨⟨_, rfl, hY.out⟩, hW.out⟩
set_option maxHeartbeats 2000000 in
theorem index_meet_any {w : World} {A : Option Addr} {c : Nat} {L : List Ft} (k : ByteArray) (kd : Int) (b c2 : Nat) (hb : w.cell? ⟨b, 0, none⟩ = some (.string k)) (hc : w.cell? ⟨c2, 0, none⟩ = some (.int .i64 kd)) (h : FaultsAt w A L) (hl : L.length ≤ 140737488355328) :
    Calls Try.prog 55 #[.slice A L.length c, .func (.func 56) #[] #[.pointer (some ⟨c2, 0, none⟩), .pointer (some ⟨b, 0, none⟩)]] w fun e w' => (∃ r, e = .returned (.int .i64 r) ∧ IdxOf (fun f => f.1 = k ∧ f.2.1 = kd) L r) ∧ Below w.heap.size w w' := by
  have hHH := Lib.hid h
  have hbH := Lib.hid hb
  have hbl := Lib.hid (cell_lt hb)
  have hcH := Lib.hid hc
  have hcl := Lib.hid (cell_lt hc)
  clear hb hc
  have hget : Hid (∀ i, i < L.length → ∃ f, L[i]? = some f) := Lib.hid (fun i hi => ⟨_, List.getElem?_eq_getElem hi⟩)
  have htm : Hid (∀ i f, L[i]? = some f → (∀ g ∈ L.take i, ¬ (g.1 = k ∧ g.2.1 = kd)) → ¬ (f.1 = k ∧ f.2.1 = kd) → ∀ g ∈ L.take (i + 1), ¬ (g.1 = k ∧ g.2.1 = kd)) := Lib.hid (fun i f hf h0 h1 => take_more (p := fun f => f.1 = k ∧ f.2.1 = kd) hf h0 h1)
  have hno : Hid ((∀ g ∈ L.take L.length, ¬ (g.1 = k ∧ g.2.1 = kd)) → IdxOf (fun f => f.1 = k ∧ f.2.1 = kd) L (-1)) := Lib.hid (fun h0 => Or.inl ⟨rfl, by rw [List.take_length] at h0; exact h0⟩)
  have hyes : Hid (∀ i f, L[i]? = some f → (∀ g ∈ L.take i, ¬ (g.1 = k ∧ g.2.1 = kd)) → (f.1 = k ∧ f.2.1 = kd) → IdxOf (fun f => f.1 = k ∧ f.2.1 = kd) L (i : Int)) := Lib.hid (fun i f hf h0 h1 => Or.inr ⟨i, f, rfl, hf, h1, h0⟩)
  clear h
  generalize L.length = n at *
  go_enter Try.func55, Try.ntmps55
  go_wp2_with fail
  go_loopw [8] (fun s8 wr => ∃ i : Nat, i ≤ n ∧ s8 = .int .i64 i ∧ Hid (∀ g ∈ L.take i, ¬ (g.1 = k ∧ g.2.1 = kd)) ∧ Hid (Below w.heap.size w wr)) (fun s8 _ => n - (intOf s8).toNat)
  case atStart => exact ⟨0, by omega, rfl, Lib.hid (fun g hg => by simp at hg), Lib.hid (Below.refl _ _)⟩
  case round =>
    obtain ⟨i, hi, rfl, h0, hW⟩ := hrel
    by_cases hil : i < n
    · obtain ⟨f, hf⟩ := hget.out i hil
      obtain ⟨a, rfl, ha, y0, y1, y2⟩ := hHH.out.on hW.out i f hf
      have hix := run_ixT a i n c hil
      have hb1 : wr.cell? ⟨b, 0, none⟩ = some (.string k) := (hW.out.cell (p := ⟨b, 0, none⟩) hbl.out).trans hbH.out
      have hc1 : wr.cell? ⟨c2, 0, none⟩ = some (.int .i64 kd) := (hW.out.cell (p := ⟨c2, 0, none⟩) hcl.out).trans hcH.out
      have hilH := Lib.hid hil
      have dk : decide ((i : Int) < (n : Int)) = true := decide_eq_true (by omega)
      have dk2 : decide (i < n) = true := decide_eq_true hil
      have hwk := wrap_small (x := (i : Int) + 1) (by omega)
      have hC := Lib.hid (meet1_any f k kd b c2 wr hb1 hc1)
      by_cases hp : f.1 = k ∧ f.2.1 = kd
      · rw [decide_eq_true hp] at hC
        have hY := Lib.hid (hyes.out i f hf h0.out hp)
        clear hil hf hp
        go_wp2_with (go_at_call 56; (with_reducible refine (hC.out).mono ?_); rintro e w3 ⟨rfl, hb3⟩)
        go_ret
        exact ⟨⟨_, rfl, hY.out⟩, hW.out.trans (hb3.mono hW.out.size)⟩
      · rw [decide_eq_false hp] at hC
        have hN := Lib.hid (htm.out i f hf h0.out hp)
        clear hil hf hp
        go_wp2_with (go_at_call 56; (with_reducible refine (hC.out).mono ?_); rintro e w3 ⟨rfl, hb3⟩)
        go_roundw
        case rel => exact ⟨i + 1, by have := hilH.out; omega, by go_num, hN, Lib.hid (hW.out.trans (hb3.mono hW.out.size))⟩
        case measure => have := hilH.out; simp [intOf]; omega
    · have hin : n = i := by omega
      subst hin
      have dk : decide ((n : Int) < (n : Int)) = false := decide_eq_false (by omega)
      have dk2 : decide (n < n) = false := decide_eq_false (by omega)
      have hY := Lib.hid (hno.out h0.out)
      clear hil
      go_wp2_with fail
      go_ret
      exact ⟨⟨_, rfl, hY.out⟩, hW.out⟩
theorem place_any {w : World} {A : Option Addr} {c : Nat} {L : List Fl} (k : ByteArray) (h : FilesAt w A L) (hl : L.length ≤ 140737488355328) :
    Calls Try.prog 31 #[.slice A L.length c, .string k] w fun e w' => (∃ r, e = .returned (.int .i64 r) ∧ IdxOf (fun f => f.1 = k) L r) ∧ Below w.heap.size w w' := by
  have hmf : ∀ (fn : Fn) (first cap : Array Value) (w : World), (Instr.makeFunc fn first cap).run Try.prog w = .ok (.func fn first cap) w := fun _ _ _ _ => rfl
  have hI := Lib.hid (index_place_any (c := c) k w.heap.size (Lib.cell_of_heap (heap_alloc_new w (.cells #[.string k] 9)) 0) (h.on (W' := w.alloc (.cells #[.string k] 9)) box_below) hl)
  clear h
  go_enter Try.func31, Try.ntmps31
  go_wp2_with (go_at_call 47; (with_reducible refine (hI.out).mono ?_); rintro e w3 ⟨⟨r, rfl, hr⟩, hb3⟩)
  go_ret
  exact ⟨⟨_, rfl, hr⟩, box_below.trans (hb3.mono (by simp))⟩
end Go.Proofs.Ythdgfchmglkpaaa
