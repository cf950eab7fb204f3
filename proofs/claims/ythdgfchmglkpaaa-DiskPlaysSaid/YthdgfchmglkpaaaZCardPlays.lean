/-
  Proved: DiskPlays returns true, whatever its arguments; each argument reads behind the call as it read before. No condition.
-/
import Derived.Test.YthdgfchmglkpaaaChecked
import Derived.Test.YthdgfchmglkpaaaRows
import Derived.WalkKit
import Derived.WalkSpells
import Derived.WalkLawsBesides
import Derived.Deep.QuietTactic
import Derived.BigQuiet
import Derived.Lib.Hide
import Derived.Lib.SmallJoins
import Derived.Outline
import Derived.OwnWalk
import Derived.ProofKit
import Derived.OpenShut
import Derived.Deep.DeepHandedRow
import Derived.Lib.LaidTab
import Derived.LaidMore
import Derived.Deep.Slices
import Derived.Carry
import Derived.Test.YthdgfchmglkpaaaMath
import Derived.Test.YthdgfchmglkpaaaA
import Derived.Test.YthdgfchmglkpaaaB
import Derived.Test.YthdgfchmglkpaaaF
import Derived.Test.YthdgfchmglkpaaaK
import Derived.Test.YthdgfchmglkpaaaM
import Derived.Deep.CutBlock
import Derived.BigRegion
import Derived.StillTailTactics
import Derived.Laws.AppendOwnNone
import Derived.Maps.AppendAt
import Derived.Deep.RegionLaw
import Derived.Deep.RegionHeld3
import Derived.Lib.BufferRead
import Derived.Deep.AppendLies
import Derived.Test.YthdgfchmglkpaaaC
import Derived.Test.YthdgfchmglkpaaaD
import Derived.Test.YthdgfchmglkpaaaE
import Derived.Test.YthdgfchmglkpaaaJ
import Derived.Test.YthdgfchmglkpaaaL
import Derived.Test.YthdgfchmglkpaaaN
import Derived.Test.YthdgfchmglkpaaaO
import Derived.Test.YthdgfchmglkpaaaU
import Derived.Test.YthdgfchmglkpaaaR
import Derived.Test.YthdgfchmglkpaaaS
import Derived.Test.YthdgfchmglkpaaaVS
import Derived.Test.YthdgfchmglkpaaaVF
import Derived.Test.YthdgfchmglkpaaaVD
import Derived.Test.YthdgfchmglkpaaaVQ
import Derived.Test.YthdgfchmglkpaaaVT
import Derived.Test.YthdgfchmglkpaaaVU
import Derived.Test.YthdgfchmglkpaaaVW
import Derived.Test.YthdgfchmglkpaaaVX
import Derived.Test.YthdgfchmglkpaaaWJ
import Derived.Test.YthdgfchmglkpaaaWA
import Derived.Test.YthdgfchmglkpaaaWC
import Derived.Test.YthdgfchmglkpaaaP
import Derived.Test.YthdgfchmglkpaaaQ
import Derived.Lib.SliceRun
import Derived.Laws.CopyOwn
import Derived.Maps.OwnSet
import Derived.StringKeys
import Derived.Lib.AppendZeros
import Derived.ChangeMaps5

namespace Go.Proofs.Ythdgfchmglkpaaa
open Go.ChangeShapes Go.WideShapes Go.ChangeAt Go.RowKit
theorem own_knob : ownKnob Try.prog.godebug = none := by kernel_rfl
theorem laid_met (os : Os) (args : Array Value) : laidMet Try.prog [] ((World.doorLaid Try.prog 400 os).forCall (fun _ _ => 0) ⟨#[], args, []⟩).memory :=
  laidMet_of_run' 8 (by kernel_rfl) (by kernel_rfl)
theorem laidOut : laidOutB Try.prog = true := by kernel_rfl
end Go.Proofs.Ythdgfchmglkpaaa

/-
  How disks, rows of keeps and of ops that are handed over are opened: what is read of them. No condition.
-/
namespace Go.Proofs.Ythdgfchmglkpaaa
open Go.RowKit Go.ChangeShapes Go.WideShapes Go.Deep
set_option maxRecDepth 100000
theorem cellsInt : Try.prog.cellsOf 3 = 1 := by kernel_rfl
theorem cellsStr : Try.prog.cellsOf 9 = 1 := by kernel_rfl
theorem cellsFile : Try.prog.cellsOf 39 = 3 := by kernel_rfl
theorem bytesFile : Try.prog.bytesOf 39 = 40 := by kernel_rfl
theorem cellsFault : Try.prog.cellsOf 70 = 3 := by kernel_rfl
theorem bytesFault : Try.prog.bytesOf 70 = 32 := by kernel_rfl
theorem cellsKeep : Try.prog.cellsOf 56 = 2 := by kernel_rfl
theorem bytesKeep : Try.prog.bytesOf 56 = 24 := by kernel_rfl
theorem cellsOp : Try.prog.cellsOf 30 = 4 := by kernel_rfl
theorem bytesOp : Try.prog.bytesOf 30 = 48 := by kernel_rfl
theorem cellsDisk : Try.prog.cellsOf 25 = 2 := by kernel_rfl
theorem cellsFiles : Try.prog.cellsOf 22 = 1 := by kernel_rfl
theorem cellsFaults : Try.prog.cellsOf 23 = 1 := by kernel_rfl
def inI64 (n : Int) : Prop := -9223372036854775808 ≤ n ∧ n ≤ 9223372036854775807
theorem wf64 {n : Int} (h : (Lit.int .i64 n).wf = true) : inI64 n := by
  simp [Lit.wf, IntKind.min, IntKind.max, IntKind.signed, IntKind.bits] at h
  unfold inI64
  omega
theorem add_far {p : Addr} {j : Nat} (hj : 0 < j) : p.add j = ⟨p.block, p.off + j, none⟩ := by unfold Addr.add; rw [if_neg (by omega)]
theorem list_of {α : Type} {Q : Nat → α → Prop} : ∀ (n : Nat), (∀ i, i < n → ∃ y, Q i y) → ∃ l : List α, l.length = n ∧ ∀ i y, l[i]? = some y → Q i y
  | 0, _ => ⟨[], rfl, fun i y h => by simp at h⟩
  | n + 1, h => by
    obtain ⟨l, hl, hq⟩ := list_of n fun i hi => h i (by omega)
    obtain ⟨y, hy⟩ := h n (by omega)
    refine ⟨l ++ [y], by simp [hl], fun i z hz => ?_⟩
    by_cases hi : i < n
    · rw [List.getElem?_append_left (by omega)] at hz
      exact hq i z hz
    · rw [List.getElem?_append_right (by omega), hl] at hz
      have hin : i = n := by
        rcases Nat.lt_or_ge n i with hlt | hge
        · rw [List.getElem?_eq_none (by simp; omega)] at hz; cases hz
        · omega
      subst hin
      simp at hz
      subst hz
      exact hy
/-- A row whose elements have so many cells each. -/
theorem rowN_of {H α : Type} {enc : TypeId × Value → H} {W : World} {t e : TypeId} {N : Nat} {Q : Addr → α → Prop} (ht : Try.prog.underlying t = some (.slice e)) (hc : Try.prog.cellsOf e = N) (hb : 16 ≤ Try.prog.bytesOf e)
    (each : ∀ (fuel : Nat) (a : Addr) (cs : List Value) (y : DataW H × List MemPlace), W.cells? 0 a N = some cs → DataW.trod enc Try.prog W 0 (fun _ => true) true fuel e cs = some y → ∃ z, Q a z)
    {v : Value} {fuel : Nat} {x : DataW H × List MemPlace} (h : DataW.trod enc Try.prog W 0 (fun _ => true) true fuel t [v] = some x) (hw : ∀ n ∈ x.1.weights Try.prog t, n ≤ reachBytes) :
    ∃ (l : List α) (A : Option Addr) (c : Nat), v = .slice A l.length c ∧ (∀ i z, l[i]? = some z → ∃ a, A = some a ∧ Q (a.add (i * N)) z) ∧ l.length ≤ 140737488355328 ∧ (A = none → c = 0) := by
  rcases open_slice ht h with ⟨hcs, hx⟩ | ⟨a, len, cap, m, n, D, Pl, hcs, _, hl, hm, hs, hx, he⟩
  · simp at hcs
    exact ⟨[], none, 0, hcs, fun i z h => by simp at h, Nat.zero_le _, fun _ => rfl⟩
  · simp at hcs
    subst hcs
    simp only [if_true] at hs
    rw [hc] at he
    have hx1 : x.1 = .slice ((List.range len).map D) ((List.range (m - len)).map fun j => D (len + j)) := congrArg Prod.fst hx
    rw [hx1] at hw
    have hwl := hw ((((List.range len).map D).length + ((List.range (m - len)).map fun j => D (len + j)).length) * Try.prog.bytesOf e) (by simp [DataW.weights, ht])
    have hll : len ≤ 140737488355328 := by
      simp only [List.length_map, List.length_range] at hwl
      unfold reachBytes at hwl
      have h1 : len * 16 ≤ (len + (m - len)) * Try.prog.bytesOf e := Nat.mul_le_mul (by omega) hb
      omega
    obtain ⟨l, hlen, hq⟩ := list_of (Q := fun i z => Q (a.add (i * N)) z) len (fun i hi => by
      obtain ⟨cs, h3, h4⟩ := he i (by omega)
      exact each _ _ _ _ h3 h4)
    exact ⟨l, some a, cap, by rw [hlen], fun i z hz => ⟨a, rfl, hq i z hz⟩, by rw [hlen]; exact hll, fun e => by cases e⟩
theorem file_at {H : Type} {enc : TypeId × Value → H} {W : World} (fuel : Nat) (a : Addr) (cs : List Value) (x : DataW H × List MemPlace) (hc : W.cells? 0 a 3 = some cs) (h : DataW.trod enc Try.prog W 0 (fun _ => true) true fuel 39 cs = some x) :
    ∃ f : Fl, a.block < W.heap.size ∧ W.cell? a = some (.string f.1) ∧ W.cell? ⟨a.block, a.off + 1, none⟩ = some (.string f.2.1) ∧ W.cell? ⟨a.block, a.off + 2, none⟩ = some (.int .i64 f.2.2) ∧ f.1.size ≤ maxLen ∧ f.2.1.size ≤ maxLen := by
  obtain ⟨xs, m, hm, rfl, hl, hlen, hf⟩ := DataW.trod_struct Try.underlying39 h
  rw [cellsFile] at hl
  match cs, hl with
  | [c0, c1, c2], _ =>
  match xs, hlen with
  | [y0, y1, y2], _ =>
  have g0 : DataW.trod enc Try.prog W 0 (fun _ => true) true m 9 [c0] = some y0 := by simpa [cellsStr] using hf 0 _ rfl
  have g1 : DataW.trod enc Try.prog W 0 (fun _ => true) true m 9 [c1] = some y1 := by simpa [cellsStr] using hf 1 _ rfl
  have g2 : DataW.trod enc Try.prog W 0 (fun _ => true) true m 3 [c2] = some y2 := by simpa [cellsInt] using hf 2 _ rfl
  clear hf h
  obtain ⟨b, b1, rfl, b3⟩ := DataW.trod_string Try.underlying9 g0
  obtain ⟨s, s1, rfl, s3⟩ := DataW.trod_string Try.underlying9 g1
  obtain ⟨i, i1, rfl, i3⟩ := DataW.trod_int Try.underlying3 g2
  simp only [List.cons.injEq, and_true] at b1 s1 i1
  subst b1 s1 i1
  obtain ⟨_, _, h7⟩ := World.cells?_some hc
  have z0 : W.cell? a = some (.string b) := by simpa [Addr.add] using h7 0 (by omega)
  have z1 := h7 1 (by omega)
  have z2 := h7 2 (by omega)
  rw [add_far (by omega)] at z1 z2
  exact ⟨(b, s, i), block_lt_of_cell z0, z0, z1, z2, b3, s3⟩
theorem fault_at {H : Type} {enc : TypeId × Value → H} {W : World} (fuel : Nat) (a : Addr) (cs : List Value) (x : DataW H × List MemPlace) (hc : W.cells? 0 a 3 = some cs) (h : DataW.trod enc Try.prog W 0 (fun _ => true) true fuel 70 cs = some x) :
    ∃ f : Ft, a.block < W.heap.size ∧ W.cell? a = some (.string f.1) ∧ W.cell? ⟨a.block, a.off + 1, none⟩ = some (.int .i64 f.2.1) ∧ W.cell? ⟨a.block, a.off + 2, none⟩ = some (.int .i64 f.2.2) := by
  obtain ⟨xs, m, hm, rfl, hl, hlen, hf⟩ := DataW.trod_struct Try.underlying70 h
  rw [cellsFault] at hl
  match cs, hl with
  | [c0, c1, c2], _ =>
  match xs, hlen with
  | [y0, y1, y2], _ =>
  have g0 : DataW.trod enc Try.prog W 0 (fun _ => true) true m 9 [c0] = some y0 := by simpa [cellsStr] using hf 0 _ rfl
  have g1 : DataW.trod enc Try.prog W 0 (fun _ => true) true m 3 [c1] = some y1 := by simpa [cellsInt] using hf 1 _ rfl
  have g2 : DataW.trod enc Try.prog W 0 (fun _ => true) true m 3 [c2] = some y2 := by simpa [cellsInt] using hf 2 _ rfl
  clear hf h
  obtain ⟨b, b1, rfl, b3⟩ := DataW.trod_string Try.underlying9 g0
  obtain ⟨s, s1, rfl, s3⟩ := DataW.trod_int Try.underlying3 g1
  obtain ⟨i, i1, rfl, i3⟩ := DataW.trod_int Try.underlying3 g2
  simp only [List.cons.injEq, and_true] at b1 s1 i1
  subst b1 s1 i1
  obtain ⟨_, _, h7⟩ := World.cells?_some hc
  have z0 : W.cell? a = some (.string b) := by simpa [Addr.add] using h7 0 (by omega)
  have z1 := h7 1 (by omega)
  have z2 := h7 2 (by omega)
  rw [add_far (by omega)] at z1 z2
  exact ⟨(b, s, i), block_lt_of_cell z0, z0, z1, z2⟩
theorem keep_at {H : Type} {enc : TypeId × Value → H} {W : World} (fuel : Nat) (a : Addr) (cs : List Value) (x : DataW H × List MemPlace) (hc : W.cells? 0 a 2 = some cs) (h : DataW.trod enc Try.prog W 0 (fun _ => true) true fuel 56 cs = some x) :
    ∃ f : Kp, a.block < W.heap.size ∧ W.cell? a = some (.string f.1) ∧ W.cell? ⟨a.block, a.off + 1, none⟩ = some (.int .i64 f.2) ∧ inI64 f.2 ∧ f.1.size ≤ maxLen := by
  obtain ⟨xs, m, hm, rfl, hl, hlen, hf⟩ := DataW.trod_struct Try.underlying56 h
  rw [cellsKeep] at hl
  match cs, hl with
  | [c0, c1], _ =>
  match xs, hlen with
  | [y0, y1], _ =>
  have g0 : DataW.trod enc Try.prog W 0 (fun _ => true) true m 9 [c0] = some y0 := by simpa [cellsStr] using hf 0 _ rfl
  have g1 : DataW.trod enc Try.prog W 0 (fun _ => true) true m 3 [c1] = some y1 := by simpa [cellsInt] using hf 1 _ rfl
  clear hf h
  obtain ⟨b, b1, rfl, b3⟩ := DataW.trod_string Try.underlying9 g0
  obtain ⟨s, s1, rfl, s3⟩ := DataW.trod_int Try.underlying3 g1
  simp only [List.cons.injEq, and_true] at b1 s1
  subst b1 s1
  obtain ⟨_, _, h7⟩ := World.cells?_some hc
  have z0 : W.cell? a = some (.string b) := by simpa [Addr.add] using h7 0 (by omega)
  have z1 := h7 1 (by omega)
  rw [add_far (by omega)] at z1
  exact ⟨(b, s), block_lt_of_cell z0, z0, z1, wf64 s3, b3⟩
theorem op_of {H : Type} {enc : TypeId × Value → H} {W : World} {fuel : Nat} {cs : List Value} {x : DataW H × List MemPlace} (h : DataW.trod enc Try.prog W 0 (fun _ => true) true fuel 30 cs = some x) :
    ∃ o : Od, cs = [.int .i64 o.1, .string o.2.1, .string o.2.2.1, .int .i64 o.2.2.2] ∧ x.2 = [] ∧ o.2.1.size ≤ maxLen ∧ o.2.2.1.size ≤ maxLen ∧ inI64 o.2.2.2 := by
  obtain ⟨xs, m, hm, rfl, hl, hlen, hf⟩ := DataW.trod_struct Try.underlying30 h
  rw [cellsOp] at hl
  match cs, hl with
  | [c0, c1, c2, c3], _ =>
  match xs, hlen with
  | [y0, y1, y2, y3], _ =>
  have g0 : DataW.trod enc Try.prog W 0 (fun _ => true) true m 3 [c0] = some y0 := by simpa [cellsInt] using hf 0 _ rfl
  have g1 : DataW.trod enc Try.prog W 0 (fun _ => true) true m 9 [c1] = some y1 := by simpa [cellsStr] using hf 1 _ rfl
  have g2 : DataW.trod enc Try.prog W 0 (fun _ => true) true m 9 [c2] = some y2 := by simpa [cellsStr] using hf 2 _ rfl
  have g3 : DataW.trod enc Try.prog W 0 (fun _ => true) true m 3 [c3] = some y3 := by simpa [cellsInt] using hf 3 _ rfl
  clear hf h
  obtain ⟨kd, k1, rfl, k3⟩ := DataW.trod_int Try.underlying3 g0
  obtain ⟨b, b1, rfl, b3⟩ := DataW.trod_string Try.underlying9 g1
  obtain ⟨s, s1, rfl, s3⟩ := DataW.trod_string Try.underlying9 g2
  obtain ⟨i, i1, rfl, i3⟩ := DataW.trod_int Try.underlying3 g3
  simp only [List.cons.injEq, and_true] at k1 b1 s1 i1
  subst k1 b1 s1 i1
  exact ⟨(kd, b, s, i), rfl, by simp, b3, s3, wf64 i3⟩
theorem op_at {H : Type} {enc : TypeId × Value → H} {W : World} (fuel : Nat) (a : Addr) (cs : List Value) (x : DataW H × List MemPlace) (hc : W.cells? 0 a 4 = some cs) (h : DataW.trod enc Try.prog W 0 (fun _ => true) true fuel 30 cs = some x) :
    ∃ o : Od, a.block < W.heap.size ∧ OpAt W a o ∧ o.2.1.size ≤ maxLen ∧ o.2.2.1.size ≤ maxLen ∧ inI64 o.2.2.2 := by
  obtain ⟨o, rfl, _, k1, k2, k3⟩ := op_of h
  obtain ⟨_, _, h7⟩ := World.cells?_some hc
  have z0 : W.cell? a = some (.int .i64 o.1) := by simpa [Addr.add] using h7 0 (by omega)
  have z1 := h7 1 (by omega)
  have z2 := h7 2 (by omega)
  have z3 := h7 3 (by omega)
  rw [add_far (by omega)] at z1 z2 z3
  exact ⟨o, block_lt_of_cell z0, ⟨z0, z1, z2, z3⟩, k1, k2, k3⟩
theorem files_read {H : Type} {enc : TypeId × Value → H} {W : World} {v : Value} {fuel : Nat} {x : DataW H × List MemPlace} (h : DataW.trod enc Try.prog W 0 (fun _ => true) true fuel 22 [v] = some x) (hw : ∀ n ∈ x.1.weights Try.prog 22, n ≤ reachBytes) :
    ∃ (l : List Fl) (A : Option Addr) (c : Nat), v = .slice A l.length c ∧ FilesAt W A l ∧ (∀ f ∈ l, f.1.size ≤ maxLen ∧ f.2.1.size ≤ maxLen) ∧ l.length ≤ 140737488355328 := by
  obtain ⟨l, A, c, h1, h2, h3, _⟩ := rowN_of (N := 3) (Q := fun a (f : Fl) => a.block < W.heap.size ∧ W.cell? a = some (.string f.1) ∧ W.cell? ⟨a.block, a.off + 1, none⟩ = some (.string f.2.1) ∧ W.cell? ⟨a.block, a.off + 2, none⟩ = some (.int .i64 f.2.2) ∧ f.1.size ≤ maxLen ∧ f.2.1.size ≤ maxLen) Try.underlying22 cellsFile (by rw [bytesFile]; decide) (fun fuel a cs y hc h => file_at fuel a cs y hc h) h hw
  refine ⟨l, A, c, h1, fun i f hf => ?_, fun f hf => ?_, h3⟩
  · obtain ⟨a, k1, k2, k3, k4, k5, _⟩ := h2 i f hf
    rw [add_block] at k2
    exact ⟨a, k1, k2, k3, k4, k5⟩
  · obtain ⟨i, hi⟩ := List.getElem?_of_mem hf
    obtain ⟨a, k1, _, _, _, _, k6⟩ := h2 i f hi
    exact k6
theorem faults_read {H : Type} {enc : TypeId × Value → H} {W : World} {v : Value} {fuel : Nat} {x : DataW H × List MemPlace} (h : DataW.trod enc Try.prog W 0 (fun _ => true) true fuel 23 [v] = some x) (hw : ∀ n ∈ x.1.weights Try.prog 23, n ≤ reachBytes) :
    ∃ (l : List Ft) (A : Option Addr) (c : Nat), v = .slice A l.length c ∧ FaultsAt W A l := by
  obtain ⟨l, A, c, h1, h2, h3, _⟩ := rowN_of (N := 3) (Q := fun a (f : Ft) => a.block < W.heap.size ∧ W.cell? a = some (.string f.1) ∧ W.cell? ⟨a.block, a.off + 1, none⟩ = some (.int .i64 f.2.1) ∧ W.cell? ⟨a.block, a.off + 2, none⟩ = some (.int .i64 f.2.2)) Try.underlying23 cellsFault (by rw [bytesFault]; decide) (fun fuel a cs y hc h => fault_at fuel a cs y hc h) h hw
  refine ⟨l, A, c, h1, fun i f hf => ?_⟩
  obtain ⟨a, k1, k2, k3, k4, k5⟩ := h2 i f hf
  rw [add_block] at k2
  exact ⟨a, k1, k2, k3, k4, k5⟩
theorem keeps_read {H : Type} {enc : TypeId × Value → H} {W : World} {v : Value} {fuel : Nat} {x : DataW H × List MemPlace} (h : DataW.trod enc Try.prog W 0 (fun _ => true) true fuel 47 [v] = some x) (hw : ∀ n ∈ x.1.weights Try.prog 47, n ≤ reachBytes) :
    ∃ (l : List Kp) (A : Option Addr) (c : Nat), v = .slice A l.length c ∧ KeepsAt W A l ∧ (∀ f ∈ l, inI64 f.2 ∧ f.1.size ≤ maxLen) ∧ l.length ≤ 140737488355328 ∧ (A = none → c = 0) := by
  obtain ⟨l, A, c, h1, h2, h3, h4⟩ := rowN_of (N := 2) (Q := fun a (f : Kp) => a.block < W.heap.size ∧ W.cell? a = some (.string f.1) ∧ W.cell? ⟨a.block, a.off + 1, none⟩ = some (.int .i64 f.2) ∧ inI64 f.2 ∧ f.1.size ≤ maxLen) Try.underlying47 cellsKeep (by rw [bytesKeep]; decide) (fun fuel a cs y hc h => keep_at fuel a cs y hc h) h hw
  refine ⟨l, A, c, h1, fun i f hf => ?_, fun f hf => ?_, h3, h4⟩
  · obtain ⟨a, k1, k2, k3, k4, _⟩ := h2 i f hf
    rw [add_block] at k2
    exact ⟨a, k1, k2, k3, k4⟩
  · obtain ⟨i, hi⟩ := List.getElem?_of_mem hf
    obtain ⟨a, _, _, _, _, k5⟩ := h2 i f hi
    exact k5
theorem ops_read {H : Type} {enc : TypeId × Value → H} {W : World} {v : Value} {fuel : Nat} {x : DataW H × List MemPlace} (h : DataW.trod enc Try.prog W 0 (fun _ => true) true fuel 26 [v] = some x) (hw : ∀ n ∈ x.1.weights Try.prog 26, n ≤ reachBytes) :
    ∃ (l : List Od) (A : Option Addr) (c : Nat), v = .slice A l.length c ∧ OpsAt W W.heap.size A l ∧ (∀ o ∈ l, (o.2.1.size ≤ maxLen ∧ o.2.2.1.size ≤ maxLen) ∧ inI64 o.2.2.2) ∧ l.length ≤ 140737488355328 := by
  obtain ⟨l, A, c, h1, h2, h3, _⟩ := rowN_of (N := 4) (Q := fun a (o : Od) => a.block < W.heap.size ∧ OpAt W a o ∧ o.2.1.size ≤ maxLen ∧ o.2.2.1.size ≤ maxLen ∧ inI64 o.2.2.2) Try.underlying26 cellsOp (by rw [bytesOp]; decide) (fun fuel a cs y hc h => op_at fuel a cs y hc h) h hw
  refine ⟨l, A, c, h1, fun i f hf => ?_, fun f hf => ?_, h3⟩
  · obtain ⟨a, k1, k2, k3, _⟩ := h2 i f hf
    rw [add_block] at k2
    exact ⟨a, k1, k2, k3⟩
  · obtain ⟨i, hi⟩ := List.getElem?_of_mem hf
    obtain ⟨a, _, _, _, k4, k5, k6⟩ := h2 i f hi
    exact ⟨⟨k4, k5⟩, k6⟩
/-- A call by value. -/
theorem op_value {H : Type} {enc : TypeId × Value → H} {W : World} {r : Reach} {b : Nat} {v : Value} {d : DataW H} {p : List MemPlace} (hv : Value.okWide Try.prog W r b 30 v) (h : DataW.Trod enc Try.prog W 0 (fun _ => true) true 30 v d p) :
    ∃ o : Od, v = .agg #[.int .i64 o.1, .string o.2.1, .string o.2.2.1, .int .i64 o.2.2.2] ∧ p = [] ∧ (o.2.1.size ≤ maxLen ∧ o.2.2.1.size ≤ maxLen) ∧ inI64 o.2.2.2 := by
  obtain ⟨cs, rfl, hsz⟩ := okWide_struct Try.underlying30 hv
  obtain ⟨fuel, hf⟩ := h
  obtain ⟨o, h1, h2, h3, h4, h5⟩ := op_of hf
  refine ⟨o, ?_, h2, ⟨h3, h4⟩, h5⟩
  congr 1
  apply Array.toList_inj.1
  simpa [Value.cells] using h1
set_option maxRecDepth 100000 in
theorem disk_value {H : Type} {enc : TypeId × Value → H} {W : World} {fuel : Nat} {cs : Array Value} {x : DataW H × List MemPlace} (h : DataW.trod enc Try.prog W 0 (fun _ => true) true fuel 25 cs.toList = some x) (hw : ∀ n ∈ x.1.weights Try.prog 25, n ≤ reachBytes) :
    ∃ (D : Dk) (A B : Option Addr) (c d : Nat), cs = #[.slice A D.1.length c, .slice B D.2.length d] ∧ FilesAt W A D.1 ∧ FaultsAt W B D.2 ∧ D.1.length ≤ 140737488355328 ∧ (∀ f ∈ D.1, f.1.size ≤ maxLen ∧ f.2.1.size ≤ maxLen) := by
  obtain ⟨cs⟩ := cs
  obtain ⟨xs, m, hm, hxe, hl, hlen, hf⟩ := DataW.trod_struct Try.underlying25 h
  rw [cellsDisk] at hl
  match cs, hl with
  | [c0, c1], _ =>
  match xs, hlen with
  | [y0, y1], _ =>
  have g0 : DataW.trod enc Try.prog W 0 (fun _ => true) true m 22 [c0] = some y0 := by simpa [cellsFiles] using hf 0 _ rfl
  have g1 : DataW.trod enc Try.prog W 0 (fun _ => true) true m 23 [c1] = some y1 := by simpa [cellsFiles, cellsFaults] using hf 1 _ rfl
  subst hxe
  obtain ⟨L, A, c, k1, k2, k3, k4⟩ := files_read g0 (fun n hn => hw n (by simp [DataW.weights, Try.underlying25, DataW.weightsEach, hn]))
  obtain ⟨T, B, d, j1, j2⟩ := faults_read g1 (fun n hn => hw n (by simp [DataW.weights, Try.underlying25, DataW.weightsEach, hn]))
  exact ⟨(L, T), A, B, c, d, by rw [k1, j1], k2, j2, k4, k3⟩
end Go.Proofs.Ythdgfchmglkpaaa

/-
  The law Plays: whatever befalls a disk, call by call. The program's contracts.
-/
namespace Go.Proofs.Ythdgfchmglkpaaa
open Go.RowKit
/-- A disk in a variable's block. -/
def DkIn (X : World) (g : Nat) (D : Dk) : Prop := ∃ A c B d, X.heap[g]? = some (.cells #[.slice A D.1.length c, .slice B D.2.length d] 25 (0, 0)) ∧ DkAt X (.agg #[.slice A D.1.length c, .slice B D.2.length d]) D
theorem DkIn.on {X Y : World} {g : Nat} {D : Dk} (h : DkIn X g D) (hb : Below X.heap.size X Y) : DkIn Y g D := by
  obtain ⟨A, c, B, d, h1, h2⟩ := h
  exact ⟨A, c, B, d, (hb.block g (some_lt h1)).trans h1, h2.on hb⟩
/-- What a name is found to be, in two disks that are the same. -/
theorem found_any {P R : Dk} (h : Eqv P R) (k : ByteArray) : ∃ (xn xd : ByteArray) (q : Nat) (e : Int) (th : Bool), fileV (findF R.1 k) = .agg #[.string xn, .string xd, .int .i64 (q : Int)] ∧ (findF R.1 k).isSome = th ∧ readF P k = (xd, e) ∧ safeF P k = xd.extract 0 q ∧ q ≤ xd.size ∧ ((th = true ∧ e = 0) ∨ (th = false ∧ e = 8)) := by
  unfold readF safeF
  rw [h.1]
  cases hf : findF R.1 k with
  | none => exact ⟨⟨#[]⟩, ⟨#[]⟩, 0, 8, false, rfl, rfl, rfl, rfl, Nat.le_refl _, Or.inr ⟨rfl, rfl⟩⟩
  | some x =>
    have hn := find_norm hf
    have hb : betw x.2.2 x.2.1.size = x.2.2 := congrArg (fun f : Fl => f.2.2) hn
    have h0 := betw_le (n := x.2.2) (m := (x.2.1.size : Int)) (by omega)
    rw [hb] at h0
    obtain ⟨q, hq⟩ : ∃ q : Nat, x.2.2 = (q : Int) := ⟨x.2.2.toNat, by omega⟩
    refine ⟨x.1, x.2.1, q, 0, true, ?_, rfl, rfl, ?_, by omega, Or.inl ⟨rfl, rfl⟩⟩
    · show Value.agg #[.string x.1, .string x.2.1, .int .i64 x.2.2] = _
      rw [hq]
    · show x.2.1.extract 0 x.2.2.toNat = _
      rw [hq]
      rfl
theorem add_nil (a : Addr) : a.add 0 = a := by unfold Addr.add; split <;> simp_all
theorem op_box (w : World) (o : Od) : (w.alloc (.cells #[.int .i64 o.1, .string o.2.1, .string o.2.2.1, .int .i64 o.2.2.2] 30)).heap[w.heap.size]? = some (.cells #[.int .i64 o.1, .string o.2.1, .string o.2.2.1, .int .i64 o.2.2.2] 30 (0, 0)) := heap_alloc_new w _
set_option warningAsError false in
set_option maxRecDepth 100000 in
set_option maxHeartbeats 8000000 in
theorem plays_any {w : World} {A B E : Option Addr} {c d c' : Nat} {D : Dk} {l : List Od} (hA : FilesAt w A D.1) (hB : FaultsAt w B D.2) (hl : D.1.length ≤ 140737488355328) (hs : ∀ f ∈ D.1, f.1.size ≤ maxLen ∧ f.2.1.size ≤ maxLen) (ho : OpsAt w w.heap.size E l) (hol : l.length ≤ 140737488355328) (hos : ∀ o ∈ l, o.2.1.size ≤ maxLen ∧ o.2.2.1.size ≤ maxLen) (hrg : ∀ o ∈ l, -9223372036854775808 ≤ o.2.2.2 ∧ o.2.2.2 ≤ 9223372036854775807) :
    Calls Try.prog 3 #[.agg #[.slice A D.1.length c, .slice B D.2.length d], .slice E l.length c'] w fun e w' => e = .returned (.bool true) ∧ Below w.heap.size w w' := by
  have hF0 := far_any (c := c) (d := d) (c' := c') (w := w.alloc (.cells #[.slice A D.1.length c, .slice B D.2.length d] 25)) (m := D.2.length) (B := B) (hA.on box_below) hl hs (show OpsAt _ _ E l from fun i x hi => by
    obtain ⟨a, h1, h2, h3⟩ := (ho.on (B := w.heap.size) box_below) i x hi
    exact ⟨a, h1, by simp; omega, h3⟩) hol hos
  have hD0 : DkAt (w.alloc (.cells #[.slice A D.1.length c, .slice B D.2.length d] 25)) (.agg #[.slice A D.1.length c, .slice B D.2.length d]) D := ⟨A, c, B, d, rfl, hA.on box_below, hB.on box_below⟩
  have hb0 := box_below (w := w) (cs := #[.slice A D.1.length c, .slice B D.2.length d]) (t := 25)
  have hk0 := heap_alloc_new w (.cells #[.slice A D.1.length c, .slice B D.2.length d] 25)
  have hoH := Lib.hid ho
  have hrgH := Lib.hid hrg
  clear hA hB hl hs ho hol hos hrg
  go_enter Try.func3, Try.ntmps3
  go_upto_region 1 with fail
  generalize (w.alloc (.cells #[.slice A D.1.length c, .slice B D.2.length d] 25)) = W0 at hF0 hD0 hb0 hk0 ⊢
  obtain ⟨x0, x1, -, -⟩ := two hk0
  have hF := Lib.hid hF0
  have hb0H := Lib.hid hb0
  have hk0H := Lib.hid hk0
  have hD0H := Lib.hid hD0
  have hAl := Lib.hid (fun X => alive_any X)
  clear hF0 hD0 hb0 hk0
  go_upto_region 3 with fail
  refine hF.out.mono ?_
  rintro r w1 ⟨⟨fb, rfl, hfar⟩, hb1⟩
  cases fb with
  | true =>
    clear hfar
    go_wp2_with (go_at_call 7; ((with_reducible refine (hAl.out _).mono ?_); rintro r w2 ⟨rfl, hb2⟩))
    go_ret
    exact ⟨rfl, hb0H.out.trans ((hb1.mono hb0H.out.size).trans (hb2.mono (Nat.le_trans hb0H.out.size hb1.size)))⟩
  | false =>
    obtain ⟨hfl, hft, hfo⟩ := hfar rfl
    clear hfar
    have hb1H := Lib.hid (hb0H.out.trans (hb1.mono hb0H.out.size))
    have hD1 := hD0H.out.on hb1
    have k1 := (hb1.block w.heap.size (some_lt hk0H.out)).trans hk0H.out
    obtain ⟨y0, y1, -, -⟩ := two k1
    have hgh : w.heap.size < w1.heap.size := Nat.lt_of_lt_of_le (some_lt hk0H.out) hb1.size
    clear hb1
    go_upto_region 4 with fail
    have hP0 : DkIn (w1.alloc (.cells #[.slice A D.1.length c, .slice B D.2.length d] 25)) w.heap.size D := ⟨A, c, B, d, (box_below.block w.heap.size hgh).trans k1, hD1.on box_below⟩
    have hR0 : DkIn (w1.alloc (.cells #[.slice A D.1.length c, .slice B D.2.length d] 25)) w1.heap.size D := ⟨A, c, B, d, heap_alloc_new w1 _, hD1.on box_below⟩
    have hbW : Below w.heap.size w (w1.alloc (.cells #[.slice A D.1.length c, .slice B D.2.length d] 25)) := hb1H.out.alloc hb1H.out.size _
    generalize (w1.alloc (.cells #[.slice A D.1.length c, .slice B D.2.length d] 25)) = W2 at hP0 hR0 hbW ⊢
    have hP0H := Lib.hid hP0
    have hR0H := Lib.hid hR0
    have hbWH := Lib.hid hbW
    have hLm : Hid (Lim 100 5000 D) := Lib.hid ⟨by have := hfl.1; omega, hft, fun f hf => (hfl.2 f hf).2⟩
    have hN0 : Hid (Nm D) := Lib.hid (fun f hf => by have := (hfl.2 f hf).1; unfold maxLen; omega)
    have hl100 := hfo.1
    have hfoH := Lib.hid hfo.2
    generalize w1.heap.size = gh at hgh hR0H ⊢
    clear hP0 hR0 hbW hfl hft hfo hD1 k1 y0 y1 x0 x1 hk0H hD0H hF hb1H
    go_wp2_with fail
    go_loopw [30] (fun i wr => ∃ (k : Nat) (P R : Dk), i = .int .i64 k ∧ k ≤ l.length ∧ Hid (DkIn wr w.heap.size P) ∧ Hid (DkIn wr gh R) ∧ Hid (Eqv P R) ∧ Hid (Lim (100 + k) (5000 + 5000 * k) P) ∧ Hid (Lim (100 + k) (5000 + 5000 * k) R) ∧ Hid (Nm R) ∧ Hid (Below w.heap.size w wr)) (fun i _ => l.length - (intOf i).toNat)
    case atStart => exact ⟨0, D, D, rfl, by omega, hP0H, hR0H, Lib.hid (Eqv.refl _), hLm, hLm, hN0, hbWH⟩
    case round =>
      clear hP0H hR0H hLm hbWH hN0
      obtain ⟨k, P, R, rfl, hk, hP, hR, hE, hLP, hLR, hNR, hbr⟩ := hrel
      by_cases hlt : k < l.length
      · obtain ⟨o, hx⟩ : ∃ x, l[k]? = some x := ⟨_, List.getElem?_eq_getElem hlt⟩
        obtain ⟨a, rfl, hab, hop⟩ := hoH.out k o hx
        have hor := hrgH.out o (List.mem_of_getElem? hx)
        have hof := hfoH.out o (List.mem_of_getElem? hx)
        have hopr : ∀ (j : Nat) (z : Value), w.cell? ⟨(a.add (k * 4)).block, (a.add (k * 4)).off + j, none⟩ = some z → wr.cell? ⟨(a.add (k * 4)).block, (a.add (k * 4)).off + j, none⟩ = some z := fun j z hz => (hbr.out.cell (p := ⟨(a.add (k * 4)).block, (a.add (k * 4)).off + j, none⟩) (by rw [add_block]; exact hab)).trans hz
        obtain ⟨p0, p1, p2, p3⟩ := hop
        have r0 : wr.cell? (a.add (k * 4)) = some (.int .i64 o.1) := (hbr.out.cell (p := a.add (k * 4)) (by rw [add_block]; exact hab)).trans p0
        have r1 := hopr 1 _ p1
        have r2 := hopr 2 _ p2
        have r3 := hopr 3 _ p3
        have hix := run_ixO a k l.length c' hlt
        have hltH := Lib.hid hlt
        have dk : decide ((k : Int) < (l.length : Int)) = true := decide_eq_true (by omega)
        have dk2 : decide (k < l.length) = true := decide_eq_true hlt
        clear hx hlt p0 p1 p2 p3 hopr
        go_upto_region 7 with fail
        have k6 := op_box wr o
        have hP6 := hP.out.on (Y := wr.alloc (.cells #[.int .i64 o.1, .string o.2.1, .string o.2.2.1, .int .i64 o.2.2.2] 30)) box_below
        have hR6 := hR.out.on (Y := wr.alloc (.cells #[.int .i64 o.1, .string o.2.1, .string o.2.2.1, .int .i64 o.2.2.2] 30)) box_below
        have hb6 := hbr.out.alloc hbr.out.size (.cells #[.int .i64 o.1, .string o.2.1, .string o.2.2.1, .int .i64 o.2.2.2] 30)
        have hgo : gh < wr.heap.size := by obtain ⟨_, _, _, _, h1, _⟩ := hR.out; exact some_lt h1
        generalize (wr.alloc (.cells #[.int .i64 o.1, .string o.2.1, .string o.2.2.1, .int .i64 o.2.2.2] 30)) = W6 at k6 hP6 hR6 hb6 ⊢
        generalize wr.heap.size = go at k6 hgo ⊢
        obtain ⟨A6, c6, B6, d6, k6g, hD6⟩ := hP6
        obtain ⟨t0, t1, -, -⟩ := two k6g
        have u0 : W6.cell? ⟨go, 0, none⟩ = some (.int .i64 o.1) := Lib.cell_of_heap k6 0
        have u1 : W6.cell? ⟨go, 1, none⟩ = some (.string o.2.1) := Lib.cell_of_heap k6 1
        have u2 : W6.cell? ⟨go, 2, none⟩ = some (.string o.2.2.1) := Lib.cell_of_heap k6 2
        have u3 : W6.cell? ⟨go, 3, none⟩ = some (.int .i64 o.2.2.2) := Lib.cell_of_heap k6 3
        have hdoes := Lib.hid (does_any o hD6 (hLP.out.mono (by omega) (by omega)) (Nm.eqv hE.out.1 hNR.out) (by have := hof.1; unfold maxLen; omega) (by omega) hor)
        have hNn := Lib.hid (nm_did (o := o) hNR.out (by have := hof.1; unfold maxLen; omega) (by have := hof.2; unfold maxLen; omega))
        have hdid := Lib.hid (fun X v (hv : DkAt X v R) => did_any o hv ⟨by have := hLR.out.fl; omega, by have := hLR.out.ft; omega⟩ (fun f hf => by have := hLR.out.sz f hf; omega) (by omega))
        have hq := did_eqv hE.out o
        have hq1 := Lib.hid hq.1
        have hRlim := (did_lim hLR.out o hof.2).mono (n' := 100 + (k + 1)) (m' := 5000 + 5000 * (k + 1)) (by omega) (by omega)
        obtain ⟨Rn, hRn⟩ : ∃ Rn, Rn = (didF R o).1 := ⟨_, rfl⟩
        obtain ⟨n0, hn0⟩ : ∃ n0, n0 = (didF P o).2.1 := ⟨_, rfl⟩
        obtain ⟨e0, he0⟩ : ∃ e0, e0 = (didF P o).2.2 := ⟨_, rfl⟩
        rw [← hn0, ← he0] at hdoes
        rw [← hq.2, ← hn0, ← he0, ← hRn] at hdid
        rw [← hRn] at hq1 hRlim hNn
        have hLP2 := Lib.hid (fun (P' : Dk) (h : ∀ n m, Lim n m P → Lim (n + 1) (m + o.2.2.1.size) P') => (h _ _ hLP.out).mono (n' := 100 + (k + 1)) (m' := 5000 + 5000 * (k + 1)) (by omega) (by omega))
        have hLR2 := Lib.hid hRlim
        have hk6 := Lib.hid k6
        have hk6g := Lib.hid k6g
        have hR6H := Lib.hid hR6
        have hb6H := Lib.hid hb6
        clear hRn hRlim hn0 he0 hq hP hR hE hLP hLR hNR hbr r0 r1 r2 r3 hix k6 k6g hD6 hR6 hb6 hof hor
        unfold opV at hdoes hdid
        go_upto_region 8 with (go_at_call 8; ((with_reducible refine hdoes.out.mono ?_); rintro r w7 ⟨⟨v7, rfl, P', ⟨A7, c7, B7, d7, rfl, hA7, hB7⟩, hE7, hL7⟩, hb7⟩))
        have hE7H := Lib.hid (hE7.trans hq1.out)
        have hL7H := Lib.hid (hLP2.out P' hL7)
        have k7 := heap_alloc_new w7 (.cells #[.slice A7 P'.1.length c7, .slice B7 P'.2.length d7] 25)
        have hD7 : DkAt (w7.alloc (.cells #[.slice A7 P'.1.length c7, .slice B7 P'.2.length d7] 25)) (.agg #[.slice A7 P'.1.length c7, .slice B7 P'.2.length d7]) P' := ⟨A7, c7, B7, d7, rfl, hA7.on box_below, hB7.on box_below⟩
        have hb67 : Below W6.heap.size W6 (w7.alloc (.cells #[.slice A7 P'.1.length c7, .slice B7 P'.2.length d7] 25)) := hb7.alloc hb7.size _
        have hg7 := Nat.lt_of_lt_of_le (some_lt hk6.out) hb7.size
        generalize (w7.alloc (.cells #[.slice A7 P'.1.length c7, .slice B7 P'.2.length d7] 25)) = W8 at k7 hD7 hb67 ⊢
        generalize w7.heap.size = g8 at k7 hg7 ⊢
        obtain ⟨A8, c8, B8, d8, k8h, hD8⟩ := hR6H.out.on hb67
        have k8o := (hb67.block go (some_lt hk6.out)).trans hk6.out
        have k8g := (hb67.block w.heap.size (some_lt hk6g.out)).trans hk6g.out
        have hb8H := Lib.hid (hb6H.out.trans (hb67.mono hb6H.out.size))
        obtain ⟨s0, s1, -, -⟩ := two k8h
        clear t0 t1 u0 u1 u2 u3
        have u0 : W8.cell? ⟨go, 0, none⟩ = some (.int .i64 o.1) := Lib.cell_of_heap k8o 0
        have u1 : W8.cell? ⟨go, 1, none⟩ = some (.string o.2.1) := Lib.cell_of_heap k8o 1
        have u2 : W8.cell? ⟨go, 2, none⟩ = some (.string o.2.2.1) := Lib.cell_of_heap k8o 2
        have u3 : W8.cell? ⟨go, 3, none⟩ = some (.int .i64 o.2.2.2) := Lib.cell_of_heap k8o 3
        have hdid8 := Lib.hid (hdid.out W8 _ hD8)
        have k7H := Lib.hid k7
        have hD7H := Lib.hid hD7
        have k8hH := Lib.hid k8h
        have k8oH := Lib.hid k8o
        have k8gH := Lib.hid k8g
        clear hdoes hdid hLP2 hA7 hB7 hE7 hL7 hb7 hb67 k7 hD7 k8h k8o k8g hD8 hR6H hk6 hk6g hb6H hq1
        go_upto_region 9 with (go_at_call 9; ((with_reducible refine hdid8.out.mono ?_); rintro r w9 ⟨⟨v9, rfl, ⟨A9, c9, B9, d9, rfl, hA9, hB9⟩⟩, hb9⟩))
        have k9 := heap_alloc_new w9 (.cells #[.slice A9 Rn.1.length c9, .slice B9 Rn.2.length d9] 25)
        have hb9' : Below W8.heap.size W8 (w9.alloc (.cells #[.slice A9 Rn.1.length c9, .slice B9 Rn.2.length d9] 25)) := hb9.alloc hb9.size _
        have hD9 : DkAt (w9.alloc (.cells #[.slice A9 Rn.1.length c9, .slice B9 Rn.2.length d9] 25)) (.agg #[.slice A9 Rn.1.length c9, .slice B9 Rn.2.length d9]) Rn := ⟨A9, c9, B9, d9, rfl, hA9.on box_below, hB9.on box_below⟩
        have hg9 := Nat.lt_of_lt_of_le (some_lt k7H.out) hb9.size
        generalize (w9.alloc (.cells #[.slice A9 Rn.1.length c9, .slice B9 Rn.2.length d9] 25)) = W10 at k9 hb9' hD9 ⊢
        generalize w9.heap.size = g9 at k9 hg9 ⊢
        have m8 := (hb9'.block g8 (some_lt k7H.out)).trans k7H.out
        have mg := (hb9'.block w.heap.size (some_lt k8gH.out)).trans k8gH.out
        have mh := (hb9'.block gh (some_lt k8hH.out)).trans k8hH.out
        have mo := Lib.hid ((hb9'.block go (some_lt k8oH.out)).trans k8oH.out)
        have hD7' := Lib.hid (hD7H.out.on hb9')
        have hD9' := Lib.hid hD9
        have hb10H := Lib.hid (hb8H.out.trans (hb9'.mono hb8H.out.size))
        have mgH := Lib.hid mg
        have mhH := Lib.hid mh
        clear s0 s1 u0 u1 u2 u3
        obtain ⟨a0, a1, -, -⟩ := two m8
        obtain ⟨b0, b1, -, -⟩ := two k9
        obtain ⟨f0, f1, f2, f3⟩ := two mg
        obtain ⟨h0, h1, h2, h3⟩ := two mh
        clear m8 mg mh k9 hb9 hb9' hD9 hdid8 hA9 hB9 k7H k8hH k8oH k8gH hD7H hb8H
        go_region
        obtain ⟨Y, hY, hPY, hRY, hOY, hbY⟩ : ∃ Y, Y = ((((W10.setCell ⟨w.heap.size, 0, none⟩ (.slice A7 P'.1.length c7)).setCell ⟨w.heap.size, 1, none⟩ (.slice B7 P'.2.length d7)).setCell ⟨gh, 0, none⟩ (.slice A9 Rn.1.length c9)).setCell ⟨gh, 1, none⟩ (.slice B9 Rn.2.length d9)).drew ∧ DkIn Y w.heap.size P' ∧ DkIn Y gh Rn ∧ Y.heap[go]? = some (.cells #[.int .i64 o.1, .string o.2.1, .string o.2.2.1, .int .i64 o.2.2.2] 30 (0, 0)) ∧ Below w.heap.size w Y := by
          have hX1P := hD7'.out.assign mgH.out (.slice A7 P'.1.length c7) (.slice B7 P'.2.length d7)
          have hX1R := hD9'.out.assign mgH.out (.slice A7 P'.1.length c7) (.slice B7 P'.2.length d7)
          have e1g := store2 mgH.out (.slice A7 P'.1.length c7) (.slice B7 P'.2.length d7)
          have e1h := set2_other mhH.out (g := w.heap.size) (by omega) (.slice A7 P'.1.length c7) (.slice B7 P'.2.length d7)
          have e1o := set2_other mo.out (g := w.heap.size) (by omega) (.slice A7 P'.1.length c7) (.slice B7 P'.2.length d7)
          have hbX1 := below_set2 hb10H.out (b := w.heap.size) (Nat.le_refl _) (.slice A7 P'.1.length c7) (.slice B7 P'.2.length d7)
          generalize (W10.setCell ⟨w.heap.size, 0, none⟩ (.slice A7 P'.1.length c7)).setCell ⟨w.heap.size, 1, none⟩ (.slice B7 P'.2.length d7) = X1 at hX1P hX1R e1g e1h e1o hbX1
          have hX2P := hX1P.assign e1h (.slice A9 Rn.1.length c9) (.slice B9 Rn.2.length d9)
          have hX2R := hX1R.assign e1h (.slice A9 Rn.1.length c9) (.slice B9 Rn.2.length d9)
          have e2h := store2 e1h (.slice A9 Rn.1.length c9) (.slice B9 Rn.2.length d9)
          have e2g := set2_other e1g (g := gh) (by omega) (.slice A9 Rn.1.length c9) (.slice B9 Rn.2.length d9)
          have e2o := set2_other e1o (g := gh) (by omega) (.slice A9 Rn.1.length c9) (.slice B9 Rn.2.length d9)
          have hbX2 := below_set2 hbX1 (b := gh) (by omega) (.slice A9 Rn.1.length c9) (.slice B9 Rn.2.length d9)
          exact ⟨_, rfl, ⟨A7, c7, B7, d7, e2g, hX2P.on (Below.refl _ _).drew⟩, ⟨A9, c9, B9, d9, e2h, hX2R.on (Below.refl _ _).drew⟩, e2o, hbX2.drew⟩
        rw [← hY]
        clear hY hD7' hD9' mgH mhH mo hb10H a0 a1 b0 b1 f0 f1 f2 f3 h0 h1 h2 h3
        obtain ⟨A1, c1, B1, d1, kg, hDg⟩ := hPY
        obtain ⟨A2, c2, B2, d2, kh, hDh⟩ := hRY
        obtain ⟨xn, xd, q, e, th, hfv, hth, hrd, hsf, hqd, hor2⟩ := found_any hE7H.out o.2.1
        have hokP : Okd P' := hL7H.out.mono (by omega) (by omega)
        have hRd := Lib.hid (pread_any o.2.1 hDg hokP)
        have hSf := Lib.hid (fun X (hX : Below Y.heap.size Y X) => psafe_any o.2.1 (hDg.on hX) hokP)
        rw [hrd] at hRd
        rw [hsf] at hSf
        have hFd := Lib.hid (fun X (hX : Below Y.heap.size Y X) => show Calls Try.prog 11 #[.agg #[.slice A2 Rn.1.length c2, .slice B2 Rn.2.length d2], .string o.2.1] X fun r w' => r = .returned (.tuple #[fileV (findF Rn.1 o.2.1), .bool (findF Rn.1 o.2.1).isSome]) ∧ Below X.heap.size X w' from by
          obtain ⟨A', c', B', d', he, hF', _⟩ := hDh.on hX
          obtain ⟨rfl, -, -⟩ : A2 = A' ∧ c2 = c' ∧ True := by
            have := congrArg (fun v => match v with | .agg a => a[0]? | _ => none) he
            simp at this
            exact ⟨this.1, this.2, trivial⟩
          exact rfind_any o.2.1 hF' (by have := hLR2.out.fl; omega))
        rw [hfv, hth] at hFd
        have hSR := Lib.hid (fun X (hX : Below Y.heap.size Y X) => rsame_eqv (hDg.on hX) (hDh.on hX) hokP.few ⟨by have := hLR2.out.fl; omega, by have := hLR2.out.ft; omega⟩ hE7H.out)
        have hSP := Lib.hid (fun X (hX : Below Y.heap.size Y X) => psame_any (hDg.on hX) (hDh.on hX) hokP (hLR2.out.mono (by omega) (by omega)) hE7H.out)
        obtain ⟨a0, a1, -, -⟩ := two kg
        obtain ⟨b0, b1, -, -⟩ := two kh
        have o1' : Y.cell? ⟨go, 1, none⟩ = some (.string o.2.1) := Lib.cell_of_heap hOY 1
        have kgH := Lib.hid kg
        have khH := Lib.hid kh
        have kOH := Lib.hid hOY
        have hDgH := Lib.hid hDg
        have hDhH := Lib.hid hDh
        have hbYH := Lib.hid hbY
        clear kg kh hOY hDg hDh hbY hfv hth hrd hsf hokP
        go_upto_region 11 with (go_at_call 10; ((with_reducible refine hRd.out.mono ?_); rintro r w11 ⟨rfl, hb11⟩))
        have b0' := (hb11.cell (p := ⟨gh, 0, none⟩) (some_lt khH.out)).trans b0
        have b1' := (hb11.cell (p := ⟨gh, 1, none⟩) (some_lt khH.out)).trans b1
        have o1'' := (hb11.cell (p := ⟨go, 1, none⟩) (some_lt kOH.out)).trans o1'
        go_upto_region 12 with (go_at_call 11; ((with_reducible refine (hFd.out _ hb11).mono ?_); rintro r w12 ⟨rfl, hb12⟩))
        have hb12' := Lib.hid ((hb11.trans (hb12.mono hb11.size)).trans ((box_below (w := w12) (cs := #[.string xn, .string xd, .int .i64 (q : Int)]) (t := 39)).mono (Nat.le_trans hb11.size hb12.size)))
        have kf := heap_alloc_new w12 (.cells #[.string xn, .string xd, .int .i64 (q : Int)] 39)
        generalize (w12.alloc (.cells #[.string xn, .string xd, .int .i64 (q : Int)] 39)) = W13 at hb12' kf ⊢
        generalize w12.heap.size = gf at kf ⊢
        have hMk : Hid (∀ X, Below W13.heap.size W13 X → Below W13.heap.size W13 X ∧ X.cell? ⟨w.heap.size, 0, none⟩ = some (.slice A1 P'.1.length c1) ∧ X.cell? ⟨w.heap.size, 1, none⟩ = some (.slice B1 P'.2.length d1) ∧ X.cell? ⟨gh, 0, none⟩ = some (.slice A2 Rn.1.length c2) ∧ X.cell? ⟨gh, 1, none⟩ = some (.slice B2 Rn.2.length d2) ∧ X.cell? ⟨gf, 1, none⟩ = some (.string xd) ∧ X.cell? ⟨gf, 2, none⟩ = some (.int .i64 (q : Int)) ∧ X.cell? ⟨go, 1, none⟩ = some (.string o.2.1)) := Lib.hid (fun X hX => by
          have hYX := hb12'.out.trans (hX.mono hb12'.out.size)
          obtain ⟨q0, q1, -, -⟩ := two ((hYX.block w.heap.size (some_lt kgH.out)).trans kgH.out)
          obtain ⟨q2, q3, -, -⟩ := two ((hYX.block gh (some_lt khH.out)).trans khH.out)
          have q4 := (hX.block gf (some_lt kf)).trans kf
          have q5 := (hYX.block go (some_lt kOH.out)).trans kOH.out
          exact ⟨hX, q0, q1, q2, q3, Lib.cell_of_heap q4 1, Lib.cell_of_heap q4 2, Lib.cell_of_heap q5 1⟩)
        have hSR' := Lib.hid (fun X (hX : Below W13.heap.size W13 X) => hSR.out X (hb12'.out.trans (hX.mono hb12'.out.size)))
        have hSP' := Lib.hid (fun X (hX : Below W13.heap.size W13 X) => hSP.out X (hb12'.out.trans (hX.mono hb12'.out.size)))
        have hSf' := Lib.hid (fun X (hX : Below W13.heap.size W13 X) => hSf.out X (hb12'.out.trans (hX.mono hb12'.out.size)))
        have hK0 := Lib.hid (Below.drew (Below.refl W13.heap.size W13))
        have hOn : Hid (∀ a c, Below a.heap.size a c → Below W13.heap.size W13 a → Below W13.heap.size W13 c) := Lib.hid fun a c k h => h.trans (k.mono h.size)
        have kfH := Lib.hid kf
        clear a0 a1 b0 b1 o1' b0' b1' o1'' hb11 hb12 kf hSR hSP hSf hFd hRd
        have z0 : (0 : Int) ≤ (q : Int) := by omega
        have z1 : (q : Int) ≤ (xd.size : Int) := by omega
        have z2 : (n0 != n0) = false := by simp
        have z3 : (e0 != e0) = false := by simp
        have z4 : (xd.toList != xd.toList) = false := by simp
        have z5 : ((xd.extract 0 q).toList != (xd.extract 0 q).toList) = false := by simp
        go_cut [30, 115] from 30 to 153 (fun s30 s115 wx => s30 = .int .i64 (k : Int) ∧ s115 = .bool false ∧ Hid (Below W13.heap.size W13 wx))
        case first =>
          rcases hor2 with ⟨rfl, rfl⟩ | ⟨rfl, rfl⟩
          case inr =>
            go_region_held3 (fun w' => Below W13.heap.size W13 w' ∧ w'.cell? ⟨w.heap.size, 0, none⟩ = some (.slice A1 P'.1.length c1) ∧ w'.cell? ⟨w.heap.size, 1, none⟩ = some (.slice B1 P'.2.length d1) ∧ w'.cell? ⟨gh, 0, none⟩ = some (.slice A2 Rn.1.length c2) ∧ w'.cell? ⟨gh, 1, none⟩ = some (.slice B2 Rn.2.length d2) ∧ w'.cell? ⟨gf, 1, none⟩ = some (.string xd) ∧ w'.cell? ⟨gf, 2, none⟩ = some (.int .i64 (q : Int)) ∧ w'.cell? ⟨go, 1, none⟩ = some (.string o.2.1))
                (first | exact hMk.out _ hK0.out | exact hMk.out _ (hOn.out _ _ (by assumption) (And.left (by assumption))) | assumption)
                (first
                | (go_at_call 12; ((with_reducible refine (hSR'.out _ (And.left (by assumption))).mono ?_); rintro e' u1 ⟨rfl, bb1⟩))
                | (go_at_call 13; ((with_reducible refine (hSP'.out _ (And.left (by assumption))).mono ?_); rintro e' u2 ⟨rfl, bb2⟩))
                | (go_at_call 14; ((with_reducible refine (hSf'.out _ (And.left (by assumption))).mono ?_); rintro e' u3 ⟨rfl, bb3⟩)))
            all_goals go_wp2_with fail
            all_goals go_meet
            all_goals (case rel => exact ⟨rfl, rfl, Lib.hid (And.left (by assumption))⟩)
          case inl =>
            first
              | go_region_held3 (fun w' => Below W13.heap.size W13 w' ∧ w'.cell? ⟨w.heap.size, 0, none⟩ = some (.slice A1 P'.1.length c1) ∧ w'.cell? ⟨w.heap.size, 1, none⟩ = some (.slice B1 P'.2.length d1) ∧ w'.cell? ⟨gh, 0, none⟩ = some (.slice A2 Rn.1.length c2) ∧ w'.cell? ⟨gh, 1, none⟩ = some (.slice B2 Rn.2.length d2) ∧ w'.cell? ⟨gf, 1, none⟩ = some (.string xd) ∧ w'.cell? ⟨gf, 2, none⟩ = some (.int .i64 (q : Int)) ∧ w'.cell? ⟨go, 1, none⟩ = some (.string o.2.1))
                    (first | exact hMk.out _ hK0.out | exact hMk.out _ (hOn.out _ _ (by assumption) (And.left (by assumption))) | assumption)
                    (first
                    | (go_at_call 12; ((with_reducible refine (hSR'.out _ (And.left (by assumption))).mono ?_); rintro e' u1 ⟨rfl, bb1⟩))
                    | (go_at_call 13; ((with_reducible refine (hSP'.out _ (And.left (by assumption))).mono ?_); rintro e' u2 ⟨rfl, bb2⟩))
                    | (go_at_call 14; ((with_reducible refine (hSf'.out _ (And.left (by assumption))).mono ?_); rintro e' u3 ⟨rfl, bb3⟩)))
              | fail
            all_goals go_wp2_with fail
            all_goals go_meet
            all_goals (case rel => exact ⟨rfl, rfl, Lib.hid (And.left (by assumption))⟩)
        case rest =>
          obtain ⟨rfl, rfl, hcb⟩ := hcut
          have hYc := Lib.hid (hb12'.out.trans (hcb.out.mono hb12'.out.size))
          have hokP : Okd P' := hL7H.out.mono (by omega) (by omega)
          have kgc := (hYc.out.block w.heap.size (some_lt kgH.out)).trans kgH.out
          have khc := (hYc.out.block gh (some_lt khH.out)).trans khH.out
          have hDgc := hDgH.out.on hYc.out
          have hDhc := hDhH.out.on hYc.out
          have hNm := Lib.hid (pnames_any hDgc hokP)
          have hbc := Lib.hid (hbYH.out.trans (hYc.out.mono hbYH.out.size))
          obtain ⟨a0, a1, -, -⟩ := two kgc
          have kgcH := Lib.hid kgc
          have khcH := Lib.hid khc
          have hDgcH := Lib.hid hDgc
          have hDhcH := Lib.hid hDhc
          clear hMk hSR' hSP' hSf' hK0 hOn kfH z0 z1 z2 z3 z4 z5 kgc khc hDgc hDhc hYc hcb hb12' kgH khH kOH hDgH hDhH hbYH hor2 hokP
          go_upto_region 15 with (go_at_call 15; ((with_reducible refine hNm.out.mono ?_); rintro r w14 ⟨⟨ns, An, cn, rfl, hSn, hNs⟩, hb14⟩))
          have hnl : ns.length = (filesF Rn.1).length := hNs.len.trans (eqv_len hE7H.out.1)
          have hnl2 : (filesF Rn.1).length ≤ Rn.1.length := files_len _
          have hnl3 := hLR2.out.fl
          have kh14 := (hb14.block gh (some_lt khcH.out)).trans khcH.out
          obtain ⟨b0, b1, -, -⟩ := two kh14
          have hDh14 := hDhcH.out.on hb14
          have hFs : Hid (Calls Try.prog 16 #[.agg #[.slice A2 Rn.1.length c2, .slice B2 Rn.2.length d2]] w14 fun r w' => (∃ Af cf, r = .returned (.slice Af ns.length cf)) ∧ Below w14.heap.size w14 w') := Lib.hid (by
            obtain ⟨A', c', B', d', he, hF', _⟩ := hDh14
            obtain ⟨rfl, -⟩ : A2 = A' ∧ True := by
              have := congrArg (fun v => match v with | .agg a => a[0]? | _ => none) he
              simp at this
              exact ⟨this.1, trivial⟩
            refine (rfiles_any hF' (by omega)).mono ?_
            rintro r w' ⟨⟨v, rfl, hv⟩, hb⟩
            obtain ⟨Af, cf, rfl, _⟩ := hv.files
            exact ⟨⟨Af, cf, by rw [hnl]⟩, hb⟩)
          have hSnH := Lib.hid hSn
          have hNsH := Lib.hid hNs
          have hb14H := Lib.hid hb14
          have q1 : ((ns.length : Int) != (ns.length : Int)) = false := by simp
          have hn9 : ns.length ≤ 1000000 := by omega
          clear hnl hnl2 hnl3 kh14 hDh14 hSn hNs hb14 a0 a1 hNm
          go_upto_region 17 with (go_at_call 16; ((with_reducible refine hFs.out.mono ?_); rintro r w15 ⟨⟨Af, cf, rfl⟩, hb15⟩))
          have hb15H := Lib.hid (hb14H.out.trans (hb15.mono hb14H.out.size))
          have hSn15 := Lib.hid (hSnH.out.on hb15)
          clear hb15 hFs b0 b1 q1
          go_wp2_with fail
          have hFn : Hid (∀ X nm, Below w15.heap.size w15 X → nm ∈ ns → Calls Try.prog 11 #[.agg #[.slice A2 Rn.1.length c2, .slice B2 Rn.2.length d2], .string nm] X fun r w' => (∃ (yn yd : ByteArray) (ys : Int), r = .returned (.tuple #[.agg #[.string yn, .string yd, .int .i64 ys], .bool true])) ∧ Below X.heap.size X w') := Lib.hid (fun X nm hX hnm => by
            obtain ⟨A', c', B', d', he, hF', _⟩ := hDhcH.out.on (hb15H.out.trans (hX.mono hb15H.out.size))
            obtain ⟨rfl, -⟩ : A2 = A' ∧ True := by
              have := congrArg (fun v => match v with | .agg a => a[0]? | _ => none) he
              simp at this
              exact ⟨this.1, trivial⟩
            have hm := (hNsH.out.mem nm).1 hnm
            obtain ⟨f, hf⟩ := find_mem hm
            rw [hE7H.out.1] at hf
            refine (rfind_any nm hF' (by have := hLR2.out.fl; omega)).mono ?_
            rintro r w' ⟨rfl, hb⟩
            rw [hf]
            exact ⟨⟨_, _, _, rfl⟩, hb⟩)
          have kh15 := Lib.hid ((hb15H.out.block gh (some_lt khcH.out)).trans khcH.out)
          go_loopw [126] (fun i wq => ∃ j : Nat, i = .int .i64 j ∧ j ≤ ns.length ∧ Hid (Below w15.heap.size w15 wq)) (fun i _ => ns.length - (intOf i).toNat)
          case atStart => exact ⟨0, rfl, by omega, Lib.hid (Below.refl _ _)⟩
          case round =>
            obtain ⟨j, rfl, hj, hbq⟩ := hrel
            by_cases hjt : j < ns.length
            · obtain ⟨nm, hx⟩ : ∃ x, ns[j]? = some x := ⟨_, List.getElem?_eq_getElem hjt⟩
              obtain ⟨aa, rfl, _, hc⟩ := hSn15.out.on hbq.out j nm hx
              have hix := run_ixS aa j ns.length cn hjt
              have hFj := Lib.hid (hFn.out wr nm hbq.out (List.mem_of_getElem? hx))
              obtain ⟨b0, b1, -, -⟩ := two ((hbq.out.block gh (some_lt kh15.out)).trans kh15.out)
              have hjtH := Lib.hid hjt
              have dj : decide ((j : Int) < (ns.length : Int)) = true := decide_eq_true (by omega)
              have dj2 : decide (j < ns.length) = true := decide_eq_true hjt
              rcases Nat.eq_zero_or_pos j with hj0 | hj0
              · subst hj0
                have hc0 : wr.cell? aa = some (.string nm) := by rw [add_nil] at hc; exact hc
                clear hx hjt
                go_wp2_with (go_at_call 11; ((with_reducible refine hFj.out.mono ?_); rintro r w16 ⟨⟨yn, yd, ys, rfl⟩, hb16⟩))
                go_roundw
                case rel => exact ⟨1, by go_num, by have := hjtH.out; omega, Lib.hid ((hbq.out.trans (hb16.mono hbq.out.size)).alloc (Nat.le_trans hbq.out.size hb16.size) _)⟩
                case measure => have := hjtH.out; simp [intOf]; omega
              · obtain ⟨pm, hpx⟩ : ∃ x, ns[j - 1]? = some x := ⟨_, List.getElem?_eq_getElem (by omega)⟩
                obtain ⟨aa2, haa, _, hpc⟩ := hSn15.out.on hbq.out (j - 1) pm hpx
                obtain rfl : aa = aa2 := Option.some.inj haa
                obtain ⟨jp, hjp⟩ : ∃ jp, jp = j - 1 := ⟨_, rfl⟩
                have hlt := rise_at hNsH.out.rise hpx (by rw [show j - 1 + 1 = j by omega]; exact hx)
                rw [← hjp] at hpc
                have hix2 := run_ixS aa jp ns.length cn (by omega)
                have hji : (j : Int) - 1 = (jp : Int) := by omega
                have hjw := IntWalk.i64_in ((j : Int) - 1) (by omega)
                have dpos : decide ((0 : Int) < (j : Int)) = true := decide_eq_true (by omega)
                have hpH := Lib.hid hpc
                clear hx hjt hpx haa hjp
                go_upto_region 21 with (go_at_call 11; ((with_reducible refine hFj.out.mono ?_); rintro r w16 ⟨⟨yn, yd, ys, rfl⟩, hb16⟩))
                have hb17 := (hbq.out.trans (hb16.mono hbq.out.size)).alloc (Nat.le_trans hbq.out.size hb16.size) (.cells #[.string yn, .string yd, .int .i64 ys] 39)
                have hp17 : (w16.alloc (.cells #[.string yn, .string yd, .int .i64 ys] 39)).cell? (aa.add jp) = some (.string pm) := ((hb16.alloc hb16.size _).cell (p := aa.add jp) (cell_lt hpH.out)).trans hpH.out
                generalize (w16.alloc (.cells #[.string yn, .string yd, .int .i64 ys] 39)) = W17 at hb17 hp17 ⊢
                have hb17H := Lib.hid hb17
                clear hb17 hb16 hpc hc
                go_wp2_with fail
                go_roundw
                case rel => exact ⟨j + 1, by go_num, by have := hjtH.out; omega, hb17H⟩
                case measure => have := hjtH.out; simp [intOf]; omega
            · have dj : decide ((j : Int) < (ns.length : Int)) = false := decide_eq_false (by omega)
              have dj2 : decide (j < ns.length) = false := decide_eq_false hjt
              clear hjt
              go_wp2_with fail
              go_roundw
              case rel =>
                have hcw := hb15H.out.trans (hbq.out.mono hb15H.out.size)
                exact ⟨k + 1, P', Rn, by go_num, by have := hltH.out; omega, Lib.hid ⟨A1, c1, B1, d1, (hcw.block w.heap.size (some_lt kgcH.out)).trans kgcH.out, hDgcH.out.on hcw⟩, Lib.hid ⟨A2, c2, B2, d2, (hcw.block gh (some_lt khcH.out)).trans khcH.out, hDhcH.out.on hcw⟩, hE7H, hL7H, hLR2, hNn, Lib.hid (hbc.out.trans (hcw.mono hbc.out.size))⟩
              case measure => have := hltH.out; simp [intOf]; omega
      · have dk : decide ((k : Int) < (l.length : Int)) = false := decide_eq_false (by omega)
        have dk2 : decide (k < l.length) = false := decide_eq_false hlt
        clear hlt
        go_wp2_with (go_at_call 7; ((with_reducible refine (hAl.out _).mono ?_); rintro r w2 ⟨rfl, hb2⟩))
        go_ret
        exact ⟨rfl, hbr.out.trans (hb2.mono hbr.out.size)⟩
end Go.Proofs.Ythdgfchmglkpaaa

/-
  Proved: DiskPlays returns true, whatever its arguments; each argument reads behind the call as it read before. No condition.
-/
namespace Go.Proofs.Ythdgfchmglkpaaa.diskPlays
open Go.ChangeShapes Go.WideShapes Go.ChangeAt Go.RowKit
open Go.ChangeMaps (open_string shut_string)
set_option maxRecDepth 100000 in
theorem contract (H : Type) (enc : TypeId × Value → H) (W : World) (base : Nat) (args : Array Value) (ds gs : List (DataW H)) (before : List MemPlace)
    (hval : ∀ (j : Nat) t v, Try.f3.params[j]? = some t → args[j]? = some v → Value.okWide Try.prog W .any base t v)
    (hW : DataW.Whole enc Try.prog Try.f3.params.toList Rows.diskPlaysSpec.vars false W args.toList ds gs before)
    (hz : (DataW.weightsEach Try.prog (Try.f3.params.toList ++ (OpenSpec.ofChange Rows.diskPlaysSpec).bare.plain.varTypes Try.prog) (ds ++ gs)).all (· ≤ reachBytes) = true) :
    Calls Try.prog 3 args W fun e W' => ∃ v, e = .returned v ∧ Rows.diskPlaysSpec.post enc Try.prog Try.f3 false true false false W args v W' := by
  have hW' := hW
  obtain ⟨p, q, hA0, hV, rfl, hfz, hnd⟩ := hW
  have hA : DataW.TrodAll enc Try.prog W 0 (fun _ => true) true Try.f3.params.toList args.toList ds p := hA0
  rw [Try.params3] at hA hval hz
  obtain ⟨v0, vs0, d0, ds0, p0, q0, hargs, rfl, rfl, t0, r0⟩ := trodAll_cons hA
  obtain ⟨v1, vs1, d1, ds1, p1, q1, rfl, rfl, rfl, t1, r1⟩ := trodAll_cons r0
  obtain ⟨rfl, rfl, rfl⟩ := trodAll_nil r1
  obtain rfl : args = #[v0, v1] := by cases args; simp_all
  obtain ⟨rfl, rfl⟩ := trodVars_none hV
  obtain ⟨cs0, rfl, _⟩ := okWide_struct Try.underlying25 (hval 0 25 v0 rfl rfl)
  have t0k := t0
  obtain ⟨fuel0, hf0⟩ := t0
  have hw0 : ∀ n ∈ d0.weights Try.prog 25, n ≤ reachBytes := fun n hn => by
    have := List.all_eq_true.1 hz n (DataW.weights_mem_each (j := 0) (t := 25) (d := d0) rfl rfl n hn)
    simpa using this
  obtain ⟨D0, A0, B0, c0, e0, rfl, hA0, hB0, hdl0, hds0⟩ := disk_value hf0 hw0
  obtain ⟨a1, len1, cap1, rfl⟩ := okWide_slice Try.underlying26 (hval 1 26 v1 rfl rfl)
  have t1k := t1
  obtain ⟨fuel1, hf1⟩ := t1
  have hw1 : ∀ n ∈ d1.weights Try.prog 26, n ≤ reachBytes := fun n hn => by
    have := List.all_eq_true.1 hz n (DataW.weights_mem_each (j := 1) (t := 26) (d := d1) rfl rfl n hn)
    simpa using this
  clear hA0
  simp only [List.append_nil] at hW'
  have hltA : ∀ x ∈ p0 ++ p1, x.block < W.heap.size := fun x hx => by have := hW'.lt x hx; simpa using this
  have hlt0 : ∀ x ∈ p0, x.block < W.heap.size := fun x hx => hltA x (by simp [hx])
  have hlt1 : ∀ x ∈ p1, x.block < W.heap.size := fun x hx => hltA x (by simp [hx])
  have walk : Calls Try.prog 3 #[.agg #[.slice A0 D0.1.length c0, .slice B0 D0.2.length e0], .slice a1 len1 cap1] W fun e w' => e = .returned (.bool true) ∧ Below W.heap.size W w' := by
    obtain ⟨L1, A1, C1, hv1, hops1, hrg1, hll1⟩ := ops_read (v := .slice a1 len1 cap1) hf1 hw1
    rw [hv1]
    exact plays_any hA0 hB0 hdl0 hds0 hops1 hll1 (fun o ho => (hrg1 o ho).1) (fun o ho => (hrg1 o ho).2)
  refine walk.mono fun e W' ⟨he, hb⟩ => ?_
  subst he
  refine ⟨_, rfl, ⟨_, _, _, [] ++ [], p0 ++ p1, [], hW', ?_, ?_, rfl, hb.frame _, fun h => by cases h⟩⟩
  · exact trodAll_cons_mk (shut_bool Try.underlying4 _) trodAll_mk0
  · have h := trodAll_cons_mk (Below.trod laidOut (by kernel_rfl) (of_decide_eq_true (by kernel_rfl)) t0k hb hlt0) (trodAll_cons_mk (Below.trod laidOut (by kernel_rfl) (of_decide_eq_true (by kernel_rfl)) t1k hb hlt1) trodAll_mk0)
    simp only [List.append_nil] at h
    exact h
theorem reads (os : Os) {H : Type} (enc : TypeId × Value → H) : ∃ places, DataW.whole enc Try.prog ((World.doorLaid Try.prog 400 os).forCall (fun _ _ => 0) ⟨#[], #[Value.agg #[Value.slice none 0 0, Value.slice none 0 0], Value.slice none 0 0], []⟩).memory Try.f3.params.toList Rows.diskPlaysSpec.vars false (#[Value.agg #[Value.slice none 0 0, Value.slice none 0 0], Value.slice none 0 0] : Array Value).toList 8 = some ([.agg [.nil, .nil], .nil], [], places) :=
  ⟨[], by kernel_rfl⟩
set_option maxRecDepth 100000 in
theorem lifted (os : Os) (started : os.Started) (H : Type) (enc : TypeId × Value → H) (F : Stop.Interp) :
    ReturnsInHanded {} Try.checked os 3 .any ((OpenSpec.ofChange Rows.diskPlaysSpec).preRow enc Try.prog Try.f3 Rows.diskPlaysRow.domain false Rows.diskPlaysRow.laid) (((OpenSpec.ofChange Rows.diskPlaysSpec).at F).post enc Try.prog Try.f3 false true false false) := by
  obtain ⟨places, hx⟩ := reads os enc
  refine returnsInHanded_of_row (C := Try.checked) (s := OpenSpec.ofChange Rows.diskPlaysSpec) own_knob started (by kernel_rfl) Try.func3
    (witness_row_at (enc := enc) (C := Try.checked) false (World.doorLaid Try.prog 400 os) #[Value.agg #[Value.slice none 0 0, Value.slice none 0 0], Value.slice none 0 0] rfl (by kernel_rfl) (by kernel_rfl) (by kernel_rfl)
      (OpenSpec.preRow_of_cond 8 hx (by kernel_rfl) (fun k hk => by cases hk) (by kernel_rfl) (laid_met os _))) ?_
  intro W base args ds gs before hval hW _ _ hz hL _ _
  exact contract H enc W base args ds gs before hval hW hz
theorem said : Rows.DiskPlaysSaid :=
  OpenClaim.holds_of_cond 3 Try.f3 rfl rfl rfl rfl rfl rfl rfl ⟨rfl, rfl, rfl, rfl, rfl⟩ rfl rfl rfl rfl rfl (by kernel_rfl) Try.func3 (by kernel_rfl)
    (of_decide_eq_true (by kernel_rfl)) (by unfold Func.isWrapper; first | (rw [if_pos (by decide +kernel)]; kernel_rfl) | (rw [if_neg (by decide +kernel)]; exact ⟨rfl, rfl⟩))
    (fun os started H enc _ F => by rw [OpenClaim.pre_eq_preRow]; exact lifted os started H enc F)
end Go.Proofs.Ythdgfchmglkpaaa.diskPlays
