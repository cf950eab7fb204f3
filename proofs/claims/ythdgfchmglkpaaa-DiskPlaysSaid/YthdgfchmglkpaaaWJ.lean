/-
  The library's Index and Contains for texts; the literal of the program's without: whether a file's name is among those that were told. Premise: the row of names lies in memory, its length is one that Go's own rows have.
-/
import Derived.Test.YthdgfchmglkpaaaChecked
import Derived.Test.YthdgfchmglkpaaaMath
import Derived.Test.YthdgfchmglkpaaaA
import Derived.Test.YthdgfchmglkpaaaB
import Derived.Test.YthdgfchmglkpaaaC
import Derived.Test.YthdgfchmglkpaaaD
import Derived.Test.YthdgfchmglkpaaaE
import Derived.Test.YthdgfchmglkpaaaF
import Derived.Test.YthdgfchmglkpaaaU
import Derived.Test.YthdgfchmglkpaaaVA
import Derived.Test.YthdgfchmglkpaaaVB
import Derived.WalkKit
import Derived.WalkSpells
import Derived.WalkLawsBesides
import Derived.Deep.QuietTactic
import Derived.BigQuiet
import Derived.Lib.Hide
import Derived.Lib.SmallJoins
import Derived.Outline
import Derived.OwnWalk
import Derived.Deep.CutBlock
import Derived.BigRegion
import Derived.StillTailTactics
import Derived.Laws.AppendOwnNone
import Derived.Maps.AppendAt
import Derived.Deep.RegionLaw
import Derived.Deep.RegionHeld3
import Derived.Lib.BufferRead
import Derived.Deep.AppendLies
namespace Go.Proofs.Ythdgfchmglkpaaa
open Go.RowKit
set_option maxRecDepth 100000 in
set_option maxHeartbeats 4000000 in
theorem index_str_any {w : World} {A : Option Addr} {c : Nat} {ss : List ByteArray} (k : ByteArray) (h : StrsAt w A ss) (hl : ss.length ≤ 140737488355328) :
    Calls Try.prog 64 #[.slice A ss.length c, .string k] w fun e w' => (∃ r, e = .returned (.int .i64 r) ∧ IdxOf (fun x => x = k) ss r) ∧ Below w.heap.size w w' := by
  have hHH := Lib.hid h
  have hget : Hid (∀ i, i < ss.length → ∃ f, ss[i]? = some f) := Lib.hid (fun i hi => ⟨_, List.getElem?_eq_getElem hi⟩)
  have htm : Hid (∀ i f, ss[i]? = some f → (∀ g ∈ ss.take i, ¬ (g = k)) → ¬ (f = k) → ∀ g ∈ ss.take (i + 1), ¬ (g = k)) := Lib.hid (fun i f hf h0 h1 => take_more (p := fun f => f = k) hf h0 h1)
  have hno : Hid ((∀ g ∈ ss.take ss.length, ¬ (g = k)) → IdxOf (fun f => f = k) ss (-1)) := Lib.hid (fun h0 => Or.inl ⟨rfl, by rw [List.take_length] at h0; exact h0⟩)
  have hyes : Hid (∀ i f, ss[i]? = some f → (∀ g ∈ ss.take i, ¬ (g = k)) → (f = k) → IdxOf (fun f => f = k) ss (i : Int)) := Lib.hid (fun i f hf h0 h1 => Or.inr ⟨i, f, rfl, hf, h1, h0⟩)
  clear h
  generalize ss.length = n at *
  go_enter Try.func64, Try.ntmps64
  go_wp2_with fail
  go_loopw [8] (fun s8 wr => ∃ i : Nat, i ≤ n ∧ s8 = .int .i64 i ∧ Hid (∀ g ∈ ss.take i, ¬ (g = k)) ∧ Hid (Below w.heap.size w wr)) (fun s8 _ => n - (intOf s8).toNat)
  case atStart => exact ⟨0, by omega, rfl, Lib.hid (fun g hg => by simp at hg), Lib.hid (Below.refl _ _)⟩
  case round =>
    obtain ⟨i, hi, rfl, h0, hW⟩ := hrel
    by_cases hil : i < n
    · obtain ⟨x, hx⟩ := hget.out i hil
      obtain ⟨a, rfl, ha, y0⟩ := hHH.out.on hW.out i x hx
      have hix := run_ixS a i n c hil
      have hilH := Lib.hid hil
      have dk : decide ((i : Int) < (n : Int)) = true := decide_eq_true (by omega)
      have dk2 : decide (i < n) = true := decide_eq_true hil
      have hwk := wrap_small (x := (i : Int) + 1) (by omega)
      by_cases hp : x = k
      · have hq : (k.toList == x.toList) = true := by rw [hp]; simp
        have hY := Lib.hid (hyes.out i x hx h0.out hp)
        clear hil hx hp
        go_wp2_with fail
        go_ret
        exact ⟨⟨_, rfl, hY.out⟩, hW.out⟩
      · have hq : (k.toList == x.toList) = false := key_ne (fun e => hp e.symm)
        have hN := Lib.hid (htm.out i x hx h0.out hp)
        clear hil hx hp
        go_wp2_with fail
        go_roundw
        case rel => exact ⟨i + 1, by have := hilH.out; omega, by go_num, hN, hW⟩
        case measure => have := hilH.out; simp [intOf]; omega
    · have hin : n = i := by omega
      subst hin
      have dk : decide ((n : Int) < (n : Int)) = false := decide_eq_false (by omega)
      have dk2 : decide (n < n) = false := decide_eq_false (by omega)
      have hY := Lib.hid (hno.out h0.out)
      clear hil
      go_wp2_with fail
      go_ret
      exact ⟨⟨_, rfl, hY.out⟩, hW.out⟩
instance memB (k : ByteArray) (ss : List ByteArray) : Decidable (k ∈ ss) := decidable_of_iff (ss.any (fun x => decide (x = k)) = true) (by simp)
theorem idx_mem {k : ByteArray} {ss : List ByteArray} {r : Int} (h : IdxOf (fun x => x = k) ss r) : decide (r ≥ 0) = decide (k ∈ ss) := by
  rcases h with ⟨rfl, h⟩ | ⟨i, f, rfl, hf, rfl, -⟩
  · rw [decide_eq_false (by decide), decide_eq_false (fun hk => h k hk rfl)]
  · rw [decide_eq_true (by omega), decide_eq_true (List.mem_of_getElem? hf)]
theorem contains_any {w : World} {A : Option Addr} {c : Nat} {ss : List ByteArray} (k : ByteArray) (h : StrsAt w A ss) (hl : ss.length ≤ 140737488355328) :
    Calls Try.prog 60 #[.slice A ss.length c, .string k] w fun e w' => e = .returned (.bool (decide (k ∈ ss))) ∧ Below w.heap.size w w' := by
  have hI := Lib.hid (index_str_any (c := c) k h hl)
  clear h
  go_enter Try.func60, Try.ntmps60
  go_upto_region 2 with (go_at_call 64; (with_reducible refine (hI.out).mono ?_); rintro e w1 ⟨⟨r, rfl, hr⟩, hb1⟩; have hd := idx_mem hr)
  by_cases hk : k ∈ ss
  · rw [decide_eq_true hk] at hd ⊢
    go_wp2_with fail
    go_ret
    exact ⟨rfl, hb1⟩
  · rw [decide_eq_false hk] at hd ⊢
    go_wp2_with fail
    go_ret
    exact ⟨rfl, hb1⟩
/-- The names that are captured lie in memory. -/
def NmsAt (w : World) (b : Nat) (ks : List ByteArray) : Prop := ks.length ≤ 1000000 ∧ ∃ A c, w.cell? ⟨b, 0, none⟩ = some (.slice A ks.length c) ∧ StrsAt w A ks
theorem NmsAt.on {w w' : World} {b : Nat} {ks : List ByteArray} (h : NmsAt w b ks) (hb : Below w.heap.size w w') : NmsAt w' b ks := by
  obtain ⟨hl, A, c, h1, h2⟩ := h
  exact ⟨hl, A, c, (hb.cell (p := ⟨b, 0, none⟩) (cell_lt h1)).trans h1, h2.on hb⟩
theorem NmsAt.lt {w : World} {b : Nat} {ks : List ByteArray} (h : NmsAt w b ks) : b < w.heap.size := by
  obtain ⟨hl, A, c, h1, h2⟩ := h
  exact cell_lt h1
theorem without1_any (f : Fl) (ks : List ByteArray) (b : Nat) (w : World) (hb : NmsAt w b ks) :
    Calls Try.prog 59 #[.agg #[.string f.1, .string f.2.1, .int .i64 f.2.2], .pointer (some ⟨b, 0, none⟩)] w fun e w' => e = .returned (.bool (decide (f.1 ∈ ks))) ∧ Below w.heap.size w w' := by
  obtain ⟨z0, z1, z2, -, -, -⟩ := three (box1 (w := w) f)
  obtain ⟨hl, A, c, hc, hS⟩ := hb
  have hb2 := cell_past hc (.cells #[.string f.1, .string f.2.1, .int .i64 f.2.2] 39)
  have hC := Lib.hid (contains_any (c := c) f.1 (hS.on (W' := w.alloc (.cells #[.string f.1, .string f.2.1, .int .i64 f.2.2] 39)) box_below) (by omega))
  clear hS hl hc
  go_enter Try.func59, Try.ntmps59
  go_wp2_with (go_at_call 60; (with_reducible refine (hC.out).mono ?_); rintro e w3 ⟨rfl, hb3⟩)
  go_ret
  exact ⟨rfl, box_below.trans (hb3.mono (by simp))⟩
set_option maxHeartbeats 2000000 in
theorem index_without_any {w : World} {A : Option Addr} {c : Nat} {L : List Fl} (ks : List ByteArray) (b : Nat) (hb : NmsAt w b ks) (h : FilesAt w A L) (hl : L.length ≤ 140737488355328) :
    Calls Try.prog 47 #[.slice A L.length c, .func (.func 59) #[] #[.pointer (some ⟨b, 0, none⟩)]] w fun e w' => (∃ r, e = .returned (.int .i64 r) ∧ IdxOf (fun f => f.1 ∈ ks) L r) ∧ Below w.heap.size w w' := by
  have hHH := Lib.hid h
  have hbH := Lib.hid hb
  clear hb
  have hget : Hid (∀ i, i < L.length → ∃ f, L[i]? = some f) := Lib.hid (fun i hi => ⟨_, List.getElem?_eq_getElem hi⟩)
  have htm : Hid (∀ i f, L[i]? = some f → (∀ g ∈ L.take i, ¬ (g.1 ∈ ks)) → ¬ (f.1 ∈ ks) → ∀ g ∈ L.take (i + 1), ¬ (g.1 ∈ ks)) := Lib.hid (fun i f hf h0 h1 => take_more (p := fun f => f.1 ∈ ks) hf h0 h1)
  have hno : Hid ((∀ g ∈ L.take L.length, ¬ (g.1 ∈ ks)) → IdxOf (fun f => f.1 ∈ ks) L (-1)) := Lib.hid (fun h0 => Or.inl ⟨rfl, by rw [List.take_length] at h0; exact h0⟩)
  have hyes : Hid (∀ i f, L[i]? = some f → (∀ g ∈ L.take i, ¬ (g.1 ∈ ks)) → (f.1 ∈ ks) → IdxOf (fun f => f.1 ∈ ks) L (i : Int)) := Lib.hid (fun i f hf h0 h1 => Or.inr ⟨i, f, rfl, hf, h1, h0⟩)
  clear h
  generalize L.length = n at *
  go_enter Try.func47, Try.ntmps47
  go_wp2_with fail
  go_loopw [8] (fun s8 wr => ∃ i : Nat, i ≤ n ∧ s8 = .int .i64 i ∧ Hid (∀ g ∈ L.take i, ¬ (g.1 ∈ ks)) ∧ Hid (Below w.heap.size w wr)) (fun s8 _ => n - (intOf s8).toNat)
  case atStart => exact ⟨0, by omega, rfl, Lib.hid (fun g hg => by simp at hg), Lib.hid (Below.refl _ _)⟩
  case round =>
    obtain ⟨i, hi, rfl, h0, hW⟩ := hrel
    by_cases hil : i < n
    · obtain ⟨f, hf⟩ := hget.out i hil
      obtain ⟨a, rfl, ha, y0, y1, y2⟩ := hHH.out.on hW.out i f hf
      have hix := run_ixF a i n c hil
      have hb1 := hbH.out.on hW.out
      have hilH := Lib.hid hil
      have dk : decide ((i : Int) < (n : Int)) = true := decide_eq_true (by omega)
      have dk2 : decide (i < n) = true := decide_eq_true hil
      have hwk := wrap_small (x := (i : Int) + 1) (by omega)
      have hC := Lib.hid (without1_any f ks b wr hb1)
      by_cases hp : f.1 ∈ ks
      · rw [decide_eq_true hp] at hC
        have hY := Lib.hid (hyes.out i f hf h0.out hp)
        clear hil hf hp
        go_wp2_with (go_at_call 59; (with_reducible refine (hC.out).mono ?_); rintro e w3 ⟨rfl, hb3⟩)
        go_ret
        exact ⟨⟨_, rfl, hY.out⟩, hW.out.trans (hb3.mono hW.out.size)⟩
      · rw [decide_eq_false hp] at hC
        have hN := Lib.hid (htm.out i f hf h0.out hp)
        clear hil hf hp
        go_wp2_with (go_at_call 59; (with_reducible refine (hC.out).mono ?_); rintro e w3 ⟨rfl, hb3⟩)
        go_roundw
        case rel => exact ⟨i + 1, by have := hilH.out; omega, by go_num, hN, Lib.hid (hW.out.trans (hb3.mono hW.out.size))⟩
        case measure => have := hilH.out; simp [intOf]; omega
    · have hin : n = i := by omega
      subst hin
      have dk : decide ((n : Int) < (n : Int)) = false := decide_eq_false (by omega)
      have dk2 : decide (n < n) = false := decide_eq_false (by omega)
      have hY := Lib.hid (hno.out h0.out)
      clear hil
      go_wp2_with fail
      go_ret
      exact ⟨⟨_, rfl, hY.out⟩, hW.out⟩
end Go.Proofs.Ythdgfchmglkpaaa
