/-
  Proved: DiskApart returns true, whatever its arguments; each argument reads behind the call as it read before. No condition.
-/
import Derived.Test.YthdgfchmglkpaaaChecked
import Derived.Test.YthdgfchmglkpaaaRows
import Derived.WalkKit
import Derived.WalkSpells
import Derived.WalkLawsBesides
import Derived.Deep.QuietTactic
import Derived.BigQuiet
import Derived.Lib.Hide
import Derived.Lib.SmallJoins
import Derived.Outline
import Derived.OwnWalk
import Derived.ProofKit
import Derived.OpenShut
import Derived.Deep.DeepHandedRow
import Derived.Lib.LaidTab
import Derived.LaidMore
import Derived.Deep.Slices
import Derived.Carry
import Derived.Test.YthdgfchmglkpaaaMath
import Derived.Test.YthdgfchmglkpaaaA
import Derived.Test.YthdgfchmglkpaaaB
import Derived.Test.YthdgfchmglkpaaaF
import Derived.Test.YthdgfchmglkpaaaK
import Derived.Test.YthdgfchmglkpaaaM
import Derived.Deep.CutBlock
import Derived.BigRegion
import Derived.StillTailTactics
import Derived.Laws.AppendOwnNone
import Derived.Maps.AppendAt
import Derived.Deep.RegionLaw
import Derived.Deep.RegionHeld3
import Derived.Lib.BufferRead
import Derived.Deep.AppendLies
import Derived.Test.YthdgfchmglkpaaaC
import Derived.Test.YthdgfchmglkpaaaD
import Derived.Test.YthdgfchmglkpaaaE
import Derived.Test.YthdgfchmglkpaaaG
import Derived.Test.YthdgfchmglkpaaaJ
import Derived.Test.YthdgfchmglkpaaaL
import Derived.Test.YthdgfchmglkpaaaN
import Derived.Test.YthdgfchmglkpaaaO
import Derived.Test.YthdgfchmglkpaaaU
import Derived.Test.YthdgfchmglkpaaaR
import Derived.Test.YthdgfchmglkpaaaS
import Derived.Test.YthdgfchmglkpaaaVS
import Derived.Test.YthdgfchmglkpaaaVF
import Derived.Test.YthdgfchmglkpaaaVD
import Derived.Test.YthdgfchmglkpaaaVQ
import Derived.Test.YthdgfchmglkpaaaVT
import Derived.Test.YthdgfchmglkpaaaVW
import Derived.Test.YthdgfchmglkpaaaVX
import Derived.Test.YthdgfchmglkpaaaWJ
import Derived.Test.YthdgfchmglkpaaaWC
import Derived.Test.YthdgfchmglkpaaaP
import Derived.Test.YthdgfchmglkpaaaQ
import Derived.Lib.SliceRun
import Derived.Laws.CopyOwn
import Derived.Maps.OwnSet
import Derived.StringKeys
import Derived.Lib.AppendZeros
import Derived.ChangeMaps5

namespace Go.Proofs.Ythdgfchmglkpaaa
open Go.ChangeShapes Go.WideShapes Go.ChangeAt Go.RowKit
theorem own_knob : ownKnob Try.prog.godebug = none := by kernel_rfl
theorem laid_met (os : Os) (args : Array Value) : laidMet Try.prog [] ((World.doorLaid Try.prog 400 os).forCall (fun _ _ => 0) ⟨#[], args, []⟩).memory :=
  laidMet_of_run' 8 (by kernel_rfl) (by kernel_rfl)
theorem laidOut : laidOutB Try.prog = true := by kernel_rfl
end Go.Proofs.Ythdgfchmglkpaaa

/-
  How disks, rows of keeps and of ops that are handed over are opened: what is read of them. No condition.
-/
namespace Go.Proofs.Ythdgfchmglkpaaa
open Go.RowKit Go.ChangeShapes Go.WideShapes Go.Deep
set_option maxRecDepth 100000
theorem cellsInt : Try.prog.cellsOf 3 = 1 := by kernel_rfl
theorem cellsStr : Try.prog.cellsOf 9 = 1 := by kernel_rfl
theorem cellsFile : Try.prog.cellsOf 39 = 3 := by kernel_rfl
theorem bytesFile : Try.prog.bytesOf 39 = 40 := by kernel_rfl
theorem cellsFault : Try.prog.cellsOf 70 = 3 := by kernel_rfl
theorem bytesFault : Try.prog.bytesOf 70 = 32 := by kernel_rfl
theorem cellsKeep : Try.prog.cellsOf 56 = 2 := by kernel_rfl
theorem bytesKeep : Try.prog.bytesOf 56 = 24 := by kernel_rfl
theorem cellsOp : Try.prog.cellsOf 30 = 4 := by kernel_rfl
theorem bytesOp : Try.prog.bytesOf 30 = 48 := by kernel_rfl
theorem cellsDisk : Try.prog.cellsOf 25 = 2 := by kernel_rfl
theorem cellsFiles : Try.prog.cellsOf 22 = 1 := by kernel_rfl
theorem cellsFaults : Try.prog.cellsOf 23 = 1 := by kernel_rfl
def inI64 (n : Int) : Prop := -9223372036854775808 ≤ n ∧ n ≤ 9223372036854775807
theorem wf64 {n : Int} (h : (Lit.int .i64 n).wf = true) : inI64 n := by
  simp [Lit.wf, IntKind.min, IntKind.max, IntKind.signed, IntKind.bits] at h
  unfold inI64
  omega
theorem add_far {p : Addr} {j : Nat} (hj : 0 < j) : p.add j = ⟨p.block, p.off + j, none⟩ := by unfold Addr.add; rw [if_neg (by omega)]
theorem list_of {α : Type} {Q : Nat → α → Prop} : ∀ (n : Nat), (∀ i, i < n → ∃ y, Q i y) → ∃ l : List α, l.length = n ∧ ∀ i y, l[i]? = some y → Q i y
  | 0, _ => ⟨[], rfl, fun i y h => by simp at h⟩
  | n + 1, h => by
    obtain ⟨l, hl, hq⟩ := list_of n fun i hi => h i (by omega)
    obtain ⟨y, hy⟩ := h n (by omega)
    refine ⟨l ++ [y], by simp [hl], fun i z hz => ?_⟩
    by_cases hi : i < n
    · rw [List.getElem?_append_left (by omega)] at hz
      exact hq i z hz
    · rw [List.getElem?_append_right (by omega), hl] at hz
      have hin : i = n := by
        rcases Nat.lt_or_ge n i with hlt | hge
        · rw [List.getElem?_eq_none (by simp; omega)] at hz; cases hz
        · omega
      subst hin
      simp at hz
      subst hz
      exact hy
/-- A row whose elements have so many cells each. -/
theorem rowN_of {H α : Type} {enc : TypeId × Value → H} {W : World} {t e : TypeId} {N : Nat} {Q : Addr → α → Prop} (ht : Try.prog.underlying t = some (.slice e)) (hc : Try.prog.cellsOf e = N) (hb : 16 ≤ Try.prog.bytesOf e)
    (each : ∀ (fuel : Nat) (a : Addr) (cs : List Value) (y : DataW H × List MemPlace), W.cells? 0 a N = some cs → DataW.trod enc Try.prog W 0 (fun _ => true) true fuel e cs = some y → ∃ z, Q a z)
    {v : Value} {fuel : Nat} {x : DataW H × List MemPlace} (h : DataW.trod enc Try.prog W 0 (fun _ => true) true fuel t [v] = some x) (hw : ∀ n ∈ x.1.weights Try.prog t, n ≤ reachBytes) :
    ∃ (l : List α) (A : Option Addr) (c : Nat), v = .slice A l.length c ∧ (∀ i z, l[i]? = some z → ∃ a, A = some a ∧ Q (a.add (i * N)) z) ∧ l.length ≤ 140737488355328 ∧ (A = none → c = 0) := by
  rcases open_slice ht h with ⟨hcs, hx⟩ | ⟨a, len, cap, m, n, D, Pl, hcs, _, hl, hm, hs, hx, he⟩
  · simp at hcs
    exact ⟨[], none, 0, hcs, fun i z h => by simp at h, Nat.zero_le _, fun _ => rfl⟩
  · simp at hcs
    subst hcs
    simp only [if_true] at hs
    rw [hc] at he
    have hx1 : x.1 = .slice ((List.range len).map D) ((List.range (m - len)).map fun j => D (len + j)) := congrArg Prod.fst hx
    rw [hx1] at hw
    have hwl := hw ((((List.range len).map D).length + ((List.range (m - len)).map fun j => D (len + j)).length) * Try.prog.bytesOf e) (by simp [DataW.weights, ht])
    have hll : len ≤ 140737488355328 := by
      simp only [List.length_map, List.length_range] at hwl
      unfold reachBytes at hwl
      have h1 : len * 16 ≤ (len + (m - len)) * Try.prog.bytesOf e := Nat.mul_le_mul (by omega) hb
      omega
    obtain ⟨l, hlen, hq⟩ := list_of (Q := fun i z => Q (a.add (i * N)) z) len (fun i hi => by
      obtain ⟨cs, h3, h4⟩ := he i (by omega)
      exact each _ _ _ _ h3 h4)
    exact ⟨l, some a, cap, by rw [hlen], fun i z hz => ⟨a, rfl, hq i z hz⟩, by rw [hlen]; exact hll, fun e => by cases e⟩
theorem file_at {H : Type} {enc : TypeId × Value → H} {W : World} (fuel : Nat) (a : Addr) (cs : List Value) (x : DataW H × List MemPlace) (hc : W.cells? 0 a 3 = some cs) (h : DataW.trod enc Try.prog W 0 (fun _ => true) true fuel 39 cs = some x) :
    ∃ f : Fl, a.block < W.heap.size ∧ W.cell? a = some (.string f.1) ∧ W.cell? ⟨a.block, a.off + 1, none⟩ = some (.string f.2.1) ∧ W.cell? ⟨a.block, a.off + 2, none⟩ = some (.int .i64 f.2.2) ∧ f.1.size ≤ maxLen ∧ f.2.1.size ≤ maxLen := by
  obtain ⟨xs, m, hm, rfl, hl, hlen, hf⟩ := DataW.trod_struct Try.underlying39 h
  rw [cellsFile] at hl
  match cs, hl with
  | [c0, c1, c2], _ =>
  match xs, hlen with
  | [y0, y1, y2], _ =>
  have g0 : DataW.trod enc Try.prog W 0 (fun _ => true) true m 9 [c0] = some y0 := by simpa [cellsStr] using hf 0 _ rfl
  have g1 : DataW.trod enc Try.prog W 0 (fun _ => true) true m 9 [c1] = some y1 := by simpa [cellsStr] using hf 1 _ rfl
  have g2 : DataW.trod enc Try.prog W 0 (fun _ => true) true m 3 [c2] = some y2 := by simpa [cellsInt] using hf 2 _ rfl
  clear hf h
  obtain ⟨b, b1, rfl, b3⟩ := DataW.trod_string Try.underlying9 g0
  obtain ⟨s, s1, rfl, s3⟩ := DataW.trod_string Try.underlying9 g1
  obtain ⟨i, i1, rfl, i3⟩ := DataW.trod_int Try.underlying3 g2
  simp only [List.cons.injEq, and_true] at b1 s1 i1
  subst b1 s1 i1
  obtain ⟨_, _, h7⟩ := World.cells?_some hc
  have z0 : W.cell? a = some (.string b) := by simpa [Addr.add] using h7 0 (by omega)
  have z1 := h7 1 (by omega)
  have z2 := h7 2 (by omega)
  rw [add_far (by omega)] at z1 z2
  exact ⟨(b, s, i), block_lt_of_cell z0, z0, z1, z2, b3, s3⟩
theorem fault_at {H : Type} {enc : TypeId × Value → H} {W : World} (fuel : Nat) (a : Addr) (cs : List Value) (x : DataW H × List MemPlace) (hc : W.cells? 0 a 3 = some cs) (h : DataW.trod enc Try.prog W 0 (fun _ => true) true fuel 70 cs = some x) :
    ∃ f : Ft, a.block < W.heap.size ∧ W.cell? a = some (.string f.1) ∧ W.cell? ⟨a.block, a.off + 1, none⟩ = some (.int .i64 f.2.1) ∧ W.cell? ⟨a.block, a.off + 2, none⟩ = some (.int .i64 f.2.2) := by
  obtain ⟨xs, m, hm, rfl, hl, hlen, hf⟩ := DataW.trod_struct Try.underlying70 h
  rw [cellsFault] at hl
  match cs, hl with
  | [c0, c1, c2], _ =>
  match xs, hlen with
  | [y0, y1, y2], _ =>
  have g0 : DataW.trod enc Try.prog W 0 (fun _ => true) true m 9 [c0] = some y0 := by simpa [cellsStr] using hf 0 _ rfl
  have g1 : DataW.trod enc Try.prog W 0 (fun _ => true) true m 3 [c1] = some y1 := by simpa [cellsInt] using hf 1 _ rfl
  have g2 : DataW.trod enc Try.prog W 0 (fun _ => true) true m 3 [c2] = some y2 := by simpa [cellsInt] using hf 2 _ rfl
  clear hf h
  obtain ⟨b, b1, rfl, b3⟩ := DataW.trod_string Try.underlying9 g0
  obtain ⟨s, s1, rfl, s3⟩ := DataW.trod_int Try.underlying3 g1
  obtain ⟨i, i1, rfl, i3⟩ := DataW.trod_int Try.underlying3 g2
  simp only [List.cons.injEq, and_true] at b1 s1 i1
  subst b1 s1 i1
  obtain ⟨_, _, h7⟩ := World.cells?_some hc
  have z0 : W.cell? a = some (.string b) := by simpa [Addr.add] using h7 0 (by omega)
  have z1 := h7 1 (by omega)
  have z2 := h7 2 (by omega)
  rw [add_far (by omega)] at z1 z2
  exact ⟨(b, s, i), block_lt_of_cell z0, z0, z1, z2⟩
theorem keep_at {H : Type} {enc : TypeId × Value → H} {W : World} (fuel : Nat) (a : Addr) (cs : List Value) (x : DataW H × List MemPlace) (hc : W.cells? 0 a 2 = some cs) (h : DataW.trod enc Try.prog W 0 (fun _ => true) true fuel 56 cs = some x) :
    ∃ f : Kp, a.block < W.heap.size ∧ W.cell? a = some (.string f.1) ∧ W.cell? ⟨a.block, a.off + 1, none⟩ = some (.int .i64 f.2) ∧ inI64 f.2 ∧ f.1.size ≤ maxLen := by
  obtain ⟨xs, m, hm, rfl, hl, hlen, hf⟩ := DataW.trod_struct Try.underlying56 h
  rw [cellsKeep] at hl
  match cs, hl with
  | [c0, c1], _ =>
  match xs, hlen with
  | [y0, y1], _ =>
  have g0 : DataW.trod enc Try.prog W 0 (fun _ => true) true m 9 [c0] = some y0 := by simpa [cellsStr] using hf 0 _ rfl
  have g1 : DataW.trod enc Try.prog W 0 (fun _ => true) true m 3 [c1] = some y1 := by simpa [cellsInt] using hf 1 _ rfl
  clear hf h
  obtain ⟨b, b1, rfl, b3⟩ := DataW.trod_string Try.underlying9 g0
  obtain ⟨s, s1, rfl, s3⟩ := DataW.trod_int Try.underlying3 g1
  simp only [List.cons.injEq, and_true] at b1 s1
  subst b1 s1
  obtain ⟨_, _, h7⟩ := World.cells?_some hc
  have z0 : W.cell? a = some (.string b) := by simpa [Addr.add] using h7 0 (by omega)
  have z1 := h7 1 (by omega)
  rw [add_far (by omega)] at z1
  exact ⟨(b, s), block_lt_of_cell z0, z0, z1, wf64 s3, b3⟩
theorem op_of {H : Type} {enc : TypeId × Value → H} {W : World} {fuel : Nat} {cs : List Value} {x : DataW H × List MemPlace} (h : DataW.trod enc Try.prog W 0 (fun _ => true) true fuel 30 cs = some x) :
    ∃ o : Od, cs = [.int .i64 o.1, .string o.2.1, .string o.2.2.1, .int .i64 o.2.2.2] ∧ x.2 = [] ∧ o.2.1.size ≤ maxLen ∧ o.2.2.1.size ≤ maxLen ∧ inI64 o.2.2.2 := by
  obtain ⟨xs, m, hm, rfl, hl, hlen, hf⟩ := DataW.trod_struct Try.underlying30 h
  rw [cellsOp] at hl
  match cs, hl with
  | [c0, c1, c2, c3], _ =>
  match xs, hlen with
  | [y0, y1, y2, y3], _ =>
  have g0 : DataW.trod enc Try.prog W 0 (fun _ => true) true m 3 [c0] = some y0 := by simpa [cellsInt] using hf 0 _ rfl
  have g1 : DataW.trod enc Try.prog W 0 (fun _ => true) true m 9 [c1] = some y1 := by simpa [cellsStr] using hf 1 _ rfl
  have g2 : DataW.trod enc Try.prog W 0 (fun _ => true) true m 9 [c2] = some y2 := by simpa [cellsStr] using hf 2 _ rfl
  have g3 : DataW.trod enc Try.prog W 0 (fun _ => true) true m 3 [c3] = some y3 := by simpa [cellsInt] using hf 3 _ rfl
  clear hf h
  obtain ⟨kd, k1, rfl, k3⟩ := DataW.trod_int Try.underlying3 g0
  obtain ⟨b, b1, rfl, b3⟩ := DataW.trod_string Try.underlying9 g1
  obtain ⟨s, s1, rfl, s3⟩ := DataW.trod_string Try.underlying9 g2
  obtain ⟨i, i1, rfl, i3⟩ := DataW.trod_int Try.underlying3 g3
  simp only [List.cons.injEq, and_true] at k1 b1 s1 i1
  subst k1 b1 s1 i1
  exact ⟨(kd, b, s, i), rfl, by simp, b3, s3, wf64 i3⟩
theorem op_at {H : Type} {enc : TypeId × Value → H} {W : World} (fuel : Nat) (a : Addr) (cs : List Value) (x : DataW H × List MemPlace) (hc : W.cells? 0 a 4 = some cs) (h : DataW.trod enc Try.prog W 0 (fun _ => true) true fuel 30 cs = some x) :
    ∃ o : Od, a.block < W.heap.size ∧ OpAt W a o ∧ o.2.1.size ≤ maxLen ∧ o.2.2.1.size ≤ maxLen ∧ inI64 o.2.2.2 := by
  obtain ⟨o, rfl, _, k1, k2, k3⟩ := op_of h
  obtain ⟨_, _, h7⟩ := World.cells?_some hc
  have z0 : W.cell? a = some (.int .i64 o.1) := by simpa [Addr.add] using h7 0 (by omega)
  have z1 := h7 1 (by omega)
  have z2 := h7 2 (by omega)
  have z3 := h7 3 (by omega)
  rw [add_far (by omega)] at z1 z2 z3
  exact ⟨o, block_lt_of_cell z0, ⟨z0, z1, z2, z3⟩, k1, k2, k3⟩
theorem files_read {H : Type} {enc : TypeId × Value → H} {W : World} {v : Value} {fuel : Nat} {x : DataW H × List MemPlace} (h : DataW.trod enc Try.prog W 0 (fun _ => true) true fuel 22 [v] = some x) (hw : ∀ n ∈ x.1.weights Try.prog 22, n ≤ reachBytes) :
    ∃ (l : List Fl) (A : Option Addr) (c : Nat), v = .slice A l.length c ∧ FilesAt W A l ∧ (∀ f ∈ l, f.1.size ≤ maxLen ∧ f.2.1.size ≤ maxLen) ∧ l.length ≤ 140737488355328 := by
  obtain ⟨l, A, c, h1, h2, h3, _⟩ := rowN_of (N := 3) (Q := fun a (f : Fl) => a.block < W.heap.size ∧ W.cell? a = some (.string f.1) ∧ W.cell? ⟨a.block, a.off + 1, none⟩ = some (.string f.2.1) ∧ W.cell? ⟨a.block, a.off + 2, none⟩ = some (.int .i64 f.2.2) ∧ f.1.size ≤ maxLen ∧ f.2.1.size ≤ maxLen) Try.underlying22 cellsFile (by rw [bytesFile]; decide) (fun fuel a cs y hc h => file_at fuel a cs y hc h) h hw
  refine ⟨l, A, c, h1, fun i f hf => ?_, fun f hf => ?_, h3⟩
  · obtain ⟨a, k1, k2, k3, k4, k5, _⟩ := h2 i f hf
    rw [add_block] at k2
    exact ⟨a, k1, k2, k3, k4, k5⟩
  · obtain ⟨i, hi⟩ := List.getElem?_of_mem hf
    obtain ⟨a, k1, _, _, _, _, k6⟩ := h2 i f hi
    exact k6
theorem faults_read {H : Type} {enc : TypeId × Value → H} {W : World} {v : Value} {fuel : Nat} {x : DataW H × List MemPlace} (h : DataW.trod enc Try.prog W 0 (fun _ => true) true fuel 23 [v] = some x) (hw : ∀ n ∈ x.1.weights Try.prog 23, n ≤ reachBytes) :
    ∃ (l : List Ft) (A : Option Addr) (c : Nat), v = .slice A l.length c ∧ FaultsAt W A l := by
  obtain ⟨l, A, c, h1, h2, h3, _⟩ := rowN_of (N := 3) (Q := fun a (f : Ft) => a.block < W.heap.size ∧ W.cell? a = some (.string f.1) ∧ W.cell? ⟨a.block, a.off + 1, none⟩ = some (.int .i64 f.2.1) ∧ W.cell? ⟨a.block, a.off + 2, none⟩ = some (.int .i64 f.2.2)) Try.underlying23 cellsFault (by rw [bytesFault]; decide) (fun fuel a cs y hc h => fault_at fuel a cs y hc h) h hw
  refine ⟨l, A, c, h1, fun i f hf => ?_⟩
  obtain ⟨a, k1, k2, k3, k4, k5⟩ := h2 i f hf
  rw [add_block] at k2
  exact ⟨a, k1, k2, k3, k4, k5⟩
theorem keeps_read {H : Type} {enc : TypeId × Value → H} {W : World} {v : Value} {fuel : Nat} {x : DataW H × List MemPlace} (h : DataW.trod enc Try.prog W 0 (fun _ => true) true fuel 47 [v] = some x) (hw : ∀ n ∈ x.1.weights Try.prog 47, n ≤ reachBytes) :
    ∃ (l : List Kp) (A : Option Addr) (c : Nat), v = .slice A l.length c ∧ KeepsAt W A l ∧ (∀ f ∈ l, inI64 f.2 ∧ f.1.size ≤ maxLen) ∧ l.length ≤ 140737488355328 ∧ (A = none → c = 0) := by
  obtain ⟨l, A, c, h1, h2, h3, h4⟩ := rowN_of (N := 2) (Q := fun a (f : Kp) => a.block < W.heap.size ∧ W.cell? a = some (.string f.1) ∧ W.cell? ⟨a.block, a.off + 1, none⟩ = some (.int .i64 f.2) ∧ inI64 f.2 ∧ f.1.size ≤ maxLen) Try.underlying47 cellsKeep (by rw [bytesKeep]; decide) (fun fuel a cs y hc h => keep_at fuel a cs y hc h) h hw
  refine ⟨l, A, c, h1, fun i f hf => ?_, fun f hf => ?_, h3, h4⟩
  · obtain ⟨a, k1, k2, k3, k4, _⟩ := h2 i f hf
    rw [add_block] at k2
    exact ⟨a, k1, k2, k3, k4⟩
  · obtain ⟨i, hi⟩ := List.getElem?_of_mem hf
    obtain ⟨a, _, _, _, _, k5⟩ := h2 i f hi
    exact k5
theorem ops_read {H : Type} {enc : TypeId × Value → H} {W : World} {v : Value} {fuel : Nat} {x : DataW H × List MemPlace} (h : DataW.trod enc Try.prog W 0 (fun _ => true) true fuel 26 [v] = some x) (hw : ∀ n ∈ x.1.weights Try.prog 26, n ≤ reachBytes) :
    ∃ (l : List Od) (A : Option Addr) (c : Nat), v = .slice A l.length c ∧ OpsAt W W.heap.size A l ∧ (∀ o ∈ l, (o.2.1.size ≤ maxLen ∧ o.2.2.1.size ≤ maxLen) ∧ inI64 o.2.2.2) ∧ l.length ≤ 140737488355328 := by
  obtain ⟨l, A, c, h1, h2, h3, _⟩ := rowN_of (N := 4) (Q := fun a (o : Od) => a.block < W.heap.size ∧ OpAt W a o ∧ o.2.1.size ≤ maxLen ∧ o.2.2.1.size ≤ maxLen ∧ inI64 o.2.2.2) Try.underlying26 cellsOp (by rw [bytesOp]; decide) (fun fuel a cs y hc h => op_at fuel a cs y hc h) h hw
  refine ⟨l, A, c, h1, fun i f hf => ?_, fun f hf => ?_, h3⟩
  · obtain ⟨a, k1, k2, k3, _⟩ := h2 i f hf
    rw [add_block] at k2
    exact ⟨a, k1, k2, k3⟩
  · obtain ⟨i, hi⟩ := List.getElem?_of_mem hf
    obtain ⟨a, _, _, _, k4, k5, k6⟩ := h2 i f hi
    exact ⟨⟨k4, k5⟩, k6⟩
/-- A call by value. -/
theorem op_value {H : Type} {enc : TypeId × Value → H} {W : World} {r : Reach} {b : Nat} {v : Value} {d : DataW H} {p : List MemPlace} (hv : Value.okWide Try.prog W r b 30 v) (h : DataW.Trod enc Try.prog W 0 (fun _ => true) true 30 v d p) :
    ∃ o : Od, v = .agg #[.int .i64 o.1, .string o.2.1, .string o.2.2.1, .int .i64 o.2.2.2] ∧ p = [] ∧ (o.2.1.size ≤ maxLen ∧ o.2.2.1.size ≤ maxLen) ∧ inI64 o.2.2.2 := by
  obtain ⟨cs, rfl, hsz⟩ := okWide_struct Try.underlying30 hv
  obtain ⟨fuel, hf⟩ := h
  obtain ⟨o, h1, h2, h3, h4, h5⟩ := op_of hf
  refine ⟨o, ?_, h2, ⟨h3, h4⟩, h5⟩
  congr 1
  apply Array.toList_inj.1
  simpa [Value.cells] using h1
set_option maxRecDepth 100000 in
theorem disk_value {H : Type} {enc : TypeId × Value → H} {W : World} {fuel : Nat} {cs : Array Value} {x : DataW H × List MemPlace} (h : DataW.trod enc Try.prog W 0 (fun _ => true) true fuel 25 cs.toList = some x) (hw : ∀ n ∈ x.1.weights Try.prog 25, n ≤ reachBytes) :
    ∃ (D : Dk) (A B : Option Addr) (c d : Nat), cs = #[.slice A D.1.length c, .slice B D.2.length d] ∧ FilesAt W A D.1 ∧ FaultsAt W B D.2 ∧ D.1.length ≤ 140737488355328 ∧ (∀ f ∈ D.1, f.1.size ≤ maxLen ∧ f.2.1.size ≤ maxLen) := by
  obtain ⟨cs⟩ := cs
  obtain ⟨xs, m, hm, hxe, hl, hlen, hf⟩ := DataW.trod_struct Try.underlying25 h
  rw [cellsDisk] at hl
  match cs, hl with
  | [c0, c1], _ =>
  match xs, hlen with
  | [y0, y1], _ =>
  have g0 : DataW.trod enc Try.prog W 0 (fun _ => true) true m 22 [c0] = some y0 := by simpa [cellsFiles] using hf 0 _ rfl
  have g1 : DataW.trod enc Try.prog W 0 (fun _ => true) true m 23 [c1] = some y1 := by simpa [cellsFiles, cellsFaults] using hf 1 _ rfl
  subst hxe
  obtain ⟨L, A, c, k1, k2, k3, k4⟩ := files_read g0 (fun n hn => hw n (by simp [DataW.weights, Try.underlying25, DataW.weightsEach, hn]))
  obtain ⟨T, B, d, j1, j2⟩ := faults_read g1 (fun n hn => hw n (by simp [DataW.weights, Try.underlying25, DataW.weightsEach, hn]))
  exact ⟨(L, T), A, B, c, d, by rw [k1, j1], k2, j2, k4, k3⟩
end Go.Proofs.Ythdgfchmglkpaaa

/-
  The law Apart: no call turns another file. The program's contracts.
-/
namespace Go.Proofs.Ythdgfchmglkpaaa
open Go.RowKit
/-- What is written stands behind what was there. -/
theorem wrote {D P : Dk} {k s : ByteArray} (h : Eqv P (writeF D k s).1) : ∃ (xd : ByteArray) (e : Int) (n : Nat), readF D k = (xd, e) ∧ n = (writeF D k s).2.1 ∧ n ≤ s.size ∧ readF P k = (xd ++ s.extract 0 n, 0) ∧ safeF P k = safeF D k := by
  obtain ⟨cu, hcu⟩ : ∃ cu, cu = cutS s (meetF D.2 k 1).2.2 (meetF D.2 k 1).2.1.2.2 := ⟨_, rfl⟩
  have hpre : s.extract 0 cu.size = cu ∧ cu.size ≤ s.size := by
    rw [hcu]
    unfold cutS
    split
    · have := betw_le (n := (meetF D.2 k 1).2.1.2.2) (m := (s.size : Int)) (by omega)
      obtain ⟨b, hb⟩ : ∃ b : Nat, betw (meetF D.2 k 1).2.1.2.2 (s.size : Int) = (b : Int) := ⟨(betw (meetF D.2 k 1).2.1.2.2 (s.size : Int)).toNat, by omega⟩
      rw [hb] at this ⊢
      have hz : (s.extract 0 (b : Int).toNat).size = b := by simp; omega
      rw [hz]
      exact ⟨rfl, by omega⟩
    · exact ⟨by simp, Nat.le_refl _⟩
  have hf : findF P.1 k = some (normF (k, ((findF D.1 k).getD noF).2.1 ++ cu, ((findF D.1 k).getD noF).2.2)) := by
    rw [h.1]
    simp only [writeF]
    rw [find_with, if_pos rfl, ← hcu]
  have hn : (writeF D k s).2.1 = cu.size := by simp only [writeF]; rw [← hcu]
  have key : ∀ (xd : ByteArray) (q : Nat), ((findF D.1 k).getD noF).2.1 = xd → ((findF D.1 k).getD noF).2.2 = (q : Int) → q ≤ xd.size → readF P k = (xd ++ s.extract 0 cu.size, 0) ∧ safeF P k = xd.extract 0 q := fun xd q h1 h2 h3 => by
    unfold readF safeF
    rw [hf, h1, h2]
    refine ⟨by show (xd ++ cu, (0 : Int)) = _; rw [hpre.1], ?_⟩
    show (xd ++ cu).extract 0 (betw (q : Int) (xd ++ cu).size).toNat = _
    rw [betw_same (by omega) (by rw [ByteArray.size_append]; omega)]
    show (xd ++ cu).extract 0 q = _
    rw [ByteArray.extract_append]
    have e : cu.extract (0 - xd.size) (q - xd.size) = ByteArray.empty := by
      rw [show q - xd.size = 0 by omega]
      simp
    rw [e]
    simp
  cases hd : findF D.1 k with
  | none =>
    rw [hd] at key
    have := key ⟨#[]⟩ 0 rfl rfl (Nat.le_refl _)
    refine ⟨⟨#[]⟩, 8, cu.size, by unfold readF; rw [hd], hn.symm, hpre.2, this.1, ?_⟩
    rw [this.2]
    unfold safeF
    rw [hd]
    rfl
  | some x =>
    rw [hd] at key
    have hxn := find_norm hd
    have hb : betw x.2.2 x.2.1.size = x.2.2 := congrArg (fun f : Fl => f.2.2) hxn
    have h0 := betw_le (n := x.2.2) (m := (x.2.1.size : Int)) (by omega)
    rw [hb] at h0
    obtain ⟨q, hq⟩ : ∃ q : Nat, x.2.2 = (q : Int) := ⟨x.2.2.toNat, by omega⟩
    have := key x.2.1 q rfl hq (by omega)
    refine ⟨x.2.1, 0, cu.size, by unfold readF; rw [hd], hn.symm, hpre.2, this.1, ?_⟩
    rw [this.2]
    unfold safeF
    rw [hd]
    show _ = x.2.1.extract 0 x.2.2.toNat
    rw [hq]
    rfl
theorem read_sz {D : Dk} {m : Nat} (h : ∀ f ∈ D.1, f.2.1.size ≤ m) (k : ByteArray) : (readF D k).1.size ≤ m := by
  unfold readF
  split
  · exact Nat.zero_le _
  · rename_i x hx
    exact found_sz h hx
theorem one_op (w : World) (o : Od) : OpsAt (w.alloc (.cells #[.int .i64 o.1, .string o.2.1, .string o.2.2.1, .int .i64 o.2.2.2] 30)) (w.alloc (.cells #[.int .i64 o.1, .string o.2.1, .string o.2.2.1, .int .i64 o.2.2.2] 30)).heap.size (some ⟨w.heap.size, 0, none⟩) [o] := fun i x hx => by
  have hn := heap_alloc_new w (.cells #[.int .i64 o.1, .string o.2.1, .string o.2.2.1, .int .i64 o.2.2.2] 30)
  match i, hx with
  | 0, hx =>
    cases hx
    exact ⟨_, rfl, by simp, Lib.cell_of_heap hn 0, Lib.cell_of_heap hn 1, Lib.cell_of_heap hn 2, Lib.cell_of_heap hn 3⟩
set_option warningAsError false in
set_option maxRecDepth 100000 in
set_option maxHeartbeats 8000000 in
theorem apart_any {w : World} {A B : Option Addr} {c d : Nat} {D : Dk} {o0 o3 : Int} {o1 o2 : ByteArray} (other : ByteArray) (hA : FilesAt w A D.1) (hB : FaultsAt w B D.2) (hl : D.1.length ≤ 140737488355328) (hs : ∀ f ∈ D.1, f.1.size ≤ maxLen ∧ f.2.1.size ≤ maxLen) (hos : o1.size ≤ maxLen ∧ o2.size ≤ maxLen) (hrg : -9223372036854775808 ≤ o3 ∧ o3 ≤ 9223372036854775807) :
    Calls Try.prog 5 #[.agg #[.slice A D.1.length c, .slice B D.2.length d], .agg #[.int .i64 o0, .string o1, .string o2, .int .i64 o3], .string other] w fun e w' => e = .returned (.bool true) ∧ Below w.heap.size w w' := by
  obtain ⟨W0, hW0, k1, k2, hb0, hs0⟩ := two_boxes w (.cells #[.slice A D.1.length c, .slice B D.2.length d] 25) (.cells #[.int .i64 o0, .string o1, .string o2, .int .i64 o3] 30)
  have hD0 : DkAt W0 (.agg #[.slice A D.1.length c, .slice B D.2.length d]) D := ⟨A, c, B, d, rfl, hA.on hb0, hB.on hb0⟩
  have hF : Hid (Calls Try.prog 6 #[.agg #[.slice A D.1.length c, .slice B D.2.length d], .slice (some ⟨w.heap.size + 2, 0, none⟩) 1 1] (W0.alloc (.cells #[.int .i64 o0, .string o1, .string o2, .int .i64 o3] 30)) fun e w' => FarRes e D.1 D.2.length [(o0, o1, o2, o3)] ∧ Below W0.heap.size W0 w') := Lib.hid (by
    rw [← hs0]
    exact (far_any (c' := 1) ((hA.on hb0).on box_below) hl hs (one_op W0 (o0, o1, o2, o3)) (by simp) (fun o ho => by rw [List.mem_singleton.1 ho]; exact hos)).mono (fun r w' hh => ⟨hh.1, box_below.trans (hh.2.mono box_below.size)⟩))
  obtain ⟨x0, x1, -, -⟩ := two k1
  have y0 : W0.cell? ⟨w.heap.size + 1, 0, none⟩ = some (.int .i64 o0) := Lib.cell_of_heap k2 0
  have y1 : W0.cell? ⟨w.heap.size + 1, 1, none⟩ = some (.string o1) := Lib.cell_of_heap k2 1
  have y2 : W0.cell? ⟨w.heap.size + 1, 2, none⟩ = some (.string o2) := Lib.cell_of_heap k2 2
  have y3 : W0.cell? ⟨w.heap.size + 1, 3, none⟩ = some (.int .i64 o3) := Lib.cell_of_heap k2 3
  have hb0H := Lib.hid hb0
  have k1H := Lib.hid k1
  have k2H := Lib.hid k2
  have hD0H := Lib.hid hD0
  have hAl := Lib.hid (fun X => alive_any X)
  clear hA hB hl hs hos hb0 k1 k2 hD0
  go_enter Try.func5, Try.ntmps5
  go_upto_region 1 with fail
  rw [← hW0]
  clear hW0
  go_upto_region 2 with fail
  refine hF.out.mono ?_
  rintro r w1 ⟨⟨fb, rfl, hfar⟩, hb1⟩
  have hb1H := Lib.hid hb1
  have z0 := (hb1.cell (p := ⟨w.heap.size + 1, 0, none⟩) (some_lt k2H.out)).trans y0
  have z1 := (hb1.cell (p := ⟨w.heap.size + 1, 1, none⟩) (some_lt k2H.out)).trans y1
  have z2 := (hb1.cell (p := ⟨w.heap.size + 1, 2, none⟩) (some_lt k2H.out)).trans y2
  clear hb1 y0 y1 y2 y3 x0 x1 hF
  cases fb with
  | true =>
    clear hfar
    go_wp2_with (go_at_call 7; ((with_reducible refine (hAl.out _).mono ?_); rintro r w2 ⟨rfl, hb2⟩))
    go_ret
    exact ⟨rfl, hb0H.out.trans ((hb1H.out.mono hb0H.out.size).trans (hb2.mono (Nat.le_trans hb0H.out.size hb1H.out.size)))⟩
  | false =>
    obtain ⟨hfl, hft, hfo⟩ := hfar rfl
    have hof := hfo.2 _ (List.mem_singleton.2 rfl)
    clear hfar hfo
    simp only at hof
    by_cases h1000 : 1000 < other.size
    · have d1 : decide ((1000 : Int) < (other.size : Int)) = true := decide_eq_true (by omega)
      have d2 : decide (1000 < other.size) = true := decide_eq_true h1000
      clear h1000
      go_wp2_with (go_at_call 7; ((with_reducible refine (hAl.out _).mono ?_); rintro r w2 ⟨rfl, hb2⟩))
      go_ret
      exact ⟨rfl, hb0H.out.trans ((hb1H.out.mono hb0H.out.size).trans (hb2.mono (Nat.le_trans hb0H.out.size hb1H.out.size)))⟩
    have d1 : decide ((1000 : Int) < (other.size : Int)) = false := decide_eq_false (by omega)
    have d2 : decide (1000 < other.size) = false := decide_eq_false h1000
    by_cases h5 : o0 = 5
    · have d3 : (o0 == (5 : Int)) = true := by rw [h5]; rfl
      clear h1000
      go_wp2_with (go_at_call 7; ((with_reducible refine (hAl.out _).mono ?_); rintro r w2 ⟨rfl, hb2⟩))
      go_ret
      exact ⟨rfl, hb0H.out.trans ((hb1H.out.mono hb0H.out.size).trans (hb2.mono (Nat.le_trans hb0H.out.size hb1H.out.size)))⟩
    have d3 : (o0 == (5 : Int)) = false := beq_false_of_ne h5
    by_cases hk : o1 = other
    · have d4 : (o1.toList == other.toList) = true := by rw [hk]; simp
      clear h1000 h5
      go_wp2_with (go_at_call 7; ((with_reducible refine (hAl.out _).mono ?_); rintro r w2 ⟨rfl, hb2⟩))
      go_ret
      exact ⟨rfl, hb0H.out.trans ((hb1H.out.mono hb0H.out.size).trans (hb2.mono (Nat.le_trans hb0H.out.size hb1H.out.size)))⟩
    have d4 : (o1.toList == other.toList) = false := key_ne hk
    by_cases h2 : o0 = 2 ∧ o2 = other
    · have d5 : (o0 == (2 : Int)) = true := by rw [h2.1]; rfl
      have d6 : (o2.toList == other.toList) = true := by rw [h2.2]; simp
      clear h1000 h5 hk h2
      go_wp2_with (go_at_call 7; ((with_reducible refine (hAl.out _).mono ?_); rintro r w2 ⟨rfl, hb2⟩))
      go_ret
      exact ⟨rfl, hb0H.out.trans ((hb1H.out.mono hb0H.out.size).trans (hb2.mono (Nat.le_trans hb0H.out.size hb1H.out.size)))⟩
    have hap := Lib.hid (did_apart (D := D) (o := (o0, o1, o2, o3)) (k := other) h5 hk h2)
    have hor : ((o0 == (2 : Int)) = true ∧ (o2.toList == other.toList) = false) ∨ (o0 == (2 : Int)) = false := by
      by_cases e : o0 = 2
      · exact Or.inl ⟨by rw [e]; rfl, key_ne (fun e2 => h2 ⟨e, e2⟩)⟩
      · exact Or.inr (beq_false_of_ne e)
    have hLm : Lim 100 5000 D := ⟨by have := hfl.1; omega, hft, fun f hf => (hfl.2 f hf).2⟩
    have hok : Okd D := hLm.mono (by omega) (by omega)
    have hNm : Hid (Nm D) := Lib.hid (fun f hf => by have := (hfl.2 f hf).1; unfold maxLen; omega)
    have hD1 := hD0H.out.on hb1H.out
    have k1' := (hb1H.out.block w.heap.size (some_lt k1H.out)).trans k1H.out
    have k2' := (hb1H.out.block (w.heap.size + 1) (some_lt k2H.out)).trans k2H.out
    have hbw1 := Lib.hid (hb0H.out.trans (hb1H.out.mono hb0H.out.size))
    have z3 : w1.cell? ⟨w.heap.size + 1, 3, none⟩ = some (.int .i64 o3) := Lib.cell_of_heap k2' 3
    have hk1H : True := trivial
    clear h1000 h5 hk h2 hD0H k1H k2H hb0H hb1H
    by_cases e00 : o0 = 0
    case pos =>
      have d5 : (o0 == (2 : Int)) = false := by rw [e00]; rfl
      have d7 : (o0 == (0 : Int)) = true := by rw [e00]; rfl
      have e0H := Lib.hid e00
      clear hor e00
      have hdo := Lib.hid (does_any (o0, o1, o2, o3) hD1 hok hNm.out (by simp only; unfold maxLen; omega) (by simp only; omega) hrg)
      obtain ⟨n0, hn0⟩ : ∃ n0, n0 = (didF D (o0, o1, o2, o3)).2.1 := ⟨_, rfl⟩
      obtain ⟨e0, he0⟩ : ∃ e0, e0 = (didF D (o0, o1, o2, o3)).2.2 := ⟨_, rfl⟩
      rw [← hn0, ← he0] at hdo
      obtain ⟨Rn, hRn⟩ : ∃ Rn, Rn = (didF D (o0, o1, o2, o3)).1 := ⟨_, rfl⟩
      rw [← hRn] at hdo hap
      have hnH := Lib.hid hn0
      have hRnH := Lib.hid hRn
      unfold opV at hdo
      obtain ⟨x0, x1, -, -⟩ := two k1'
      have k1'H := Lib.hid k1'
      have k2'H := Lib.hid k2'
      have hD1H := Lib.hid hD1
      clear hn0 he0 hRn k1' k2' hD1 hk1H
      go_upto_region 4 with (go_at_call 8; ((with_reducible refine hdo.out.mono ?_); rintro r w3 ⟨⟨v3, rfl, P, ⟨A3, c3, B3, d3, rfl, hA3, hB3⟩, hE3, hL3⟩, hb3⟩))
      have kP := heap_alloc_new w3 (.cells #[.slice A3 P.1.length c3, .slice B3 P.2.length d3] 25)
      have hP4 : DkAt (w3.alloc (.cells #[.slice A3 P.1.length c3, .slice B3 P.2.length d3] 25)) (.agg #[.slice A3 P.1.length c3, .slice B3 P.2.length d3]) P := ⟨A3, c3, B3, d3, rfl, hA3.on box_below, hB3.on box_below⟩
      have hb14 : Below w1.heap.size w1 (w3.alloc (.cells #[.slice A3 P.1.length c3, .slice B3 P.2.length d3] 25)) := hb3.alloc hb3.size _
      have hokP : Okd P := (hL3 100 5000 hLm).mono (by omega) (by show 5000 + o2.size ≤ _; omega)
      generalize (w3.alloc (.cells #[.slice A3 P.1.length c3, .slice B3 P.2.length d3] 25)) = W4 at kP hP4 hb14 ⊢
      generalize w3.heap.size = ga at kP ⊢
      have hrP : readF P other = readF D other := by unfold readF; rw [hE3.1, hap.out]
      have hsP : safeF P other = safeF D other := by unfold safeF; rw [hE3.1, hap.out]
      have kg4 := (hb14.block w.heap.size (some_lt k1'H.out)).trans k1'H.out
      have ko4 := (hb14.block (w.heap.size + 1) (some_lt k2'H.out)).trans k2'H.out
      have hD4 := hD1H.out.on hb14
      obtain ⟨xd, xe, hrd⟩ : ∃ xd xe, readF D other = (xd, xe) := ⟨_, _, rfl⟩
      obtain ⟨sf, hsf⟩ : ∃ sf, safeF D other = sf := ⟨_, rfl⟩
      have hRd := Lib.hid (fun X (hX : Below W4.heap.size W4 X) => pread_any other (hD4.on hX) hok)
      have hRa := Lib.hid (fun X (hX : Below W4.heap.size W4 X) => pread_any other (hP4.on hX) hokP)
      have hSd := Lib.hid (fun X (hX : Below W4.heap.size W4 X) => psafe_any other (hD4.on hX) hok)
      have hSa := Lib.hid (fun X (hX : Below W4.heap.size W4 X) => psafe_any other (hP4.on hX) hokP)
      rw [hrd] at hRd
      rw [hrP, hrd] at hRa
      rw [hsf] at hSd
      rw [hsP, hsf] at hSa
      have hb4 := Lib.hid (hbw1.out.trans (hb14.mono hbw1.out.size))
      have hMk : Hid (∀ X, Below W4.heap.size W4 X → Below W4.heap.size W4 X ∧ X.cell? ⟨w.heap.size, 0, none⟩ = some (.slice A D.1.length c) ∧ X.cell? ⟨w.heap.size, 1, none⟩ = some (.slice B D.2.length d) ∧ X.cell? ⟨ga, 0, none⟩ = some (.slice A3 P.1.length c3) ∧ X.cell? ⟨ga, 1, none⟩ = some (.slice B3 P.2.length d3) ∧ X.cell? ⟨w.heap.size + 1, 0, none⟩ = some (.int .i64 o0) ∧ X.cell? ⟨w.heap.size + 1, 1, none⟩ = some (.string o1) ∧ X.cell? ⟨w.heap.size + 1, 2, none⟩ = some (.string o2)) := Lib.hid (fun X hX => by
        obtain ⟨q0, q1, -, -⟩ := two ((hX.block w.heap.size (some_lt kg4)).trans kg4)
        obtain ⟨q2, q3, -, -⟩ := two ((hX.block ga (some_lt kP)).trans kP)
        have q5 := (hX.block (w.heap.size + 1) (some_lt ko4)).trans ko4
        exact ⟨hX, q0, q1, q2, q3, Lib.cell_of_heap q5 0, Lib.cell_of_heap q5 1, Lib.cell_of_heap q5 2⟩)
      have hE3H := Lib.hid hE3
      have hP4H := Lib.hid hP4
      have hD4H := Lib.hid hD4
      have hokPH := Lib.hid hokP
      have hokH := Lib.hid hok
      clear x0 x1 z0 z1 z2 z3 hA3 hB3 hL3 hb3 hb14 kP hP4 hokP hrP hsP kg4 ko4 hD4 hrd hsf hdo hE3 hok hLm
      obtain ⟨-, x0, x1, x2, x3, -, -, -⟩ := hMk.out W4 (Below.refl _ _)
      go_upto_region 5 with (go_at_call 10; ((with_reducible refine (hRd.out _ (Below.refl _ _)).mono ?_); rintro r w5 ⟨rfl, hb5⟩))
      clear x0 x1 x2 x3
      obtain ⟨-, x0, x1, x2, x3, -, -, -⟩ := hMk.out w5 hb5
      go_upto_region 6 with (go_at_call 10; ((with_reducible refine (hRa.out _ hb5).mono ?_); rintro r w6 ⟨rfl, hb6⟩))
      have hb46 := hb5.trans (hb6.mono hb5.size)
      clear x0 x1 x2 x3 hb5 hb6
      have t1 : (xd.toList != xd.toList) = false := by simp
      have t2 : (xe != xe) = false := by simp
      have t3 : (sf.toList != sf.toList) = false := by simp
      have hK0 := Lib.hid ((Below.drew (Below.refl w6.heap.size w6)).mono hb46.size)
      have hK1 := Lib.hid (hb46.trans hK0.out)
      have hOn : Hid (∀ a c, Below a.heap.size a c → Below W4.heap.size W4 a → Below W4.heap.size W4 c) := Lib.hid fun a c k h => h.trans (k.mono h.size)
      go_region_held3 (fun w' => Below W4.heap.size W4 w' ∧ w'.cell? ⟨w.heap.size, 0, none⟩ = some (.slice A D.1.length c) ∧ w'.cell? ⟨w.heap.size, 1, none⟩ = some (.slice B D.2.length d) ∧ w'.cell? ⟨ga, 0, none⟩ = some (.slice A3 P.1.length c3) ∧ w'.cell? ⟨ga, 1, none⟩ = some (.slice B3 P.2.length d3) ∧ w'.cell? ⟨w.heap.size + 1, 0, none⟩ = some (.int .i64 o0) ∧ w'.cell? ⟨w.heap.size + 1, 1, none⟩ = some (.string o1) ∧ w'.cell? ⟨w.heap.size + 1, 2, none⟩ = some (.string o2))
          (first | exact hMk.out _ hK1.out | exact hMk.out _ (hOn.out _ _ (by assumption) (And.left (by assumption))) | assumption)
          (first
          | (go_at_call 14; ((with_reducible refine (hSd.out _ (And.left (by assumption))).mono ?_); rintro e' u1 ⟨rfl, bb1⟩))
          | (go_at_call 14; ((with_reducible refine (hSa.out _ (And.left (by assumption))).mono ?_); rintro e' u2 ⟨rfl, bb2⟩)))
      have hS2 : Below W4.heap.size W4 u2 := And.left (by assumption)
      clear t1 t2 t3 hK0 hK1 hRd hRa hSd hSa
      have hwE : Eqv P (writeF D o1 o2).1 := by
        have h1 := hE3H.out
        rw [hRnH.out] at h1
        unfold didF at h1
        rw [if_pos e0H.out] at h1
        exact h1
      obtain ⟨yd, ye, n, r1, r2, r3, r4, r5⟩ := wrote hwE
      have hn : n0 = (n : Int) := by
        rw [hnH.out, r2]
        unfold didF
        rw [if_pos e0H.out]
      have hyd : yd.size ≤ 1152921504606846976 := by
        have := read_sz hokH.out.sz o1
        rw [r1] at this
        exact this
      obtain ⟨sf2, hsf2⟩ : ∃ sf2, safeF D o1 = sf2 := ⟨_, rfl⟩
      have hRd2 := Lib.hid (fun X (hX : Below W4.heap.size W4 X) => pread_any o1 (hD4H.out.on hX) hokH.out)
      have hRa2 := Lib.hid (fun X (hX : Below W4.heap.size W4 X) => pread_any o1 (hP4H.out.on hX) hokPH.out)
      have hSd2 := Lib.hid (fun X (hX : Below W4.heap.size W4 X) => psafe_any o1 (hD4H.out.on hX) hokH.out)
      have hSa2 := Lib.hid (fun X (hX : Below W4.heap.size W4 X) => psafe_any o1 (hP4H.out.on hX) hokPH.out)
      rw [r1] at hRd2
      rw [r4] at hRa2
      rw [hsf2] at hSd2
      rw [r5, hsf2] at hSa2
      have hex : (o2.extract 0 n).size ≤ o2.size := by simp; omega
      obtain ⟨tt, htt⟩ : ∃ tt, tt = yd ++ o2.extract 0 n := ⟨_, rfl⟩
      rw [← htt] at hRa2
      have httH := Lib.hid htt.symm
      have hnI := Lib.hid hn
      clear r1 r2 r4 r5 hsf2 hwE hnH hRnH htt hn
      rw [hnI.out] at *
      obtain ⟨-, x0, x1, x2, x3, x4, x5, x6⟩ := hMk.out u2 hS2
      go_upto_region 10 with (go_at_call 10; ((with_reducible refine (hRd2.out _ hS2).mono ?_); rintro r w8 ⟨rfl, hb8⟩))
      have hS8 := hS2.trans (hb8.mono hS2.size)
      clear x0 x1 x2 x3 x4 x5 x6
      obtain ⟨-, x0, x1, x2, x3, x4, x5, x6⟩ := hMk.out w8 hS8
      go_upto_region 11 with (go_at_call 10; ((with_reducible refine (hRa2.out _ hS8).mono ?_); rintro r w9 ⟨rfl, hb9⟩))
      have hS9 := hS8.trans (hb9.mono hS8.size)
      have hK3 := Lib.hid (hS9.trans ((Below.drew (Below.refl w9.heap.size w9)).mono hS9.size))
      clear x0 x1 x2 x3 x4 x5 x6 hS2 hb8 hS8 hb9
      have v1 : (0 : Int) ≤ (n : Int) := by omega
      have v2 : (n : Int) ≤ (o2.size : Int) := by omega
      have v3 : decide ((0 : Int) ≤ (n : Int)) = true := decide_eq_true v1
      have v4 : decide ((n : Int) ≤ (o2.size : Int)) = true := decide_eq_true v2
      have v5 : yd.size + (o2.extract 0 n).size ≤ 9223372036854775807 := by omega
      have v5b : yd.size + min n o2.size ≤ 9223372036854775807 := by omega
      have v6 : yd ++ o2.extract 0 n = tt := httH.out
      have v7 : (tt.toList == tt.toList) = true := by simp
      have v8 : (sf2.toList == sf2.toList) = true := by simp
      go_region_held3 (fun w' => Below W4.heap.size W4 w' ∧ w'.cell? ⟨w.heap.size, 0, none⟩ = some (.slice A D.1.length c) ∧ w'.cell? ⟨w.heap.size, 1, none⟩ = some (.slice B D.2.length d) ∧ w'.cell? ⟨ga, 0, none⟩ = some (.slice A3 P.1.length c3) ∧ w'.cell? ⟨ga, 1, none⟩ = some (.slice B3 P.2.length d3) ∧ w'.cell? ⟨w.heap.size + 1, 0, none⟩ = some (.int .i64 o0) ∧ w'.cell? ⟨w.heap.size + 1, 1, none⟩ = some (.string o1) ∧ w'.cell? ⟨w.heap.size + 1, 2, none⟩ = some (.string o2))
          (first | exact hMk.out _ hK3.out | exact hMk.out _ (hOn.out _ _ (by assumption) (And.left (by assumption))) | assumption)
          (first
          | (go_at_call 14; ((with_reducible refine (hSa2.out _ (And.left (by assumption))).mono ?_); rintro e' u3 ⟨rfl, bb3⟩))
          | (go_at_call 14; ((with_reducible refine (hSd2.out _ (And.left (by assumption))).mono ?_); rintro e' u4 ⟨rfl, bb4⟩))
          | (go_at_call 7; ((with_reducible refine (hAl.out _).mono ?_); rintro e' u5 ⟨rfl, bb5⟩)))
      all_goals go_wp2_with fail
      all_goals go_ret
      all_goals (
        have hS := And.left (by assumption)
        exact ⟨rfl, hb4.out.trans (hS.mono hb4.out.size)⟩)
    case neg =>
      have d7 : (o0 == (0 : Int)) = false := beq_false_of_ne e00
      clear e00
      rcases hor with ⟨d5, d6⟩ | d5
      all_goals (
        have hdo := Lib.hid (does_any (o0, o1, o2, o3) hD1 hok hNm.out (by simp only; unfold maxLen; omega) (by simp only; omega) hrg)
        obtain ⟨n0, hn0⟩ : ∃ n0, n0 = (didF D (o0, o1, o2, o3)).2.1 := ⟨_, rfl⟩
        obtain ⟨e0, he0⟩ : ∃ e0, e0 = (didF D (o0, o1, o2, o3)).2.2 := ⟨_, rfl⟩
        rw [← hn0, ← he0] at hdo
        obtain ⟨Rn, hRn⟩ : ∃ Rn, Rn = (didF D (o0, o1, o2, o3)).1 := ⟨_, rfl⟩
        rw [← hRn] at hdo hap
        have hnH := Lib.hid hn0
        have hRnH := Lib.hid hRn
        unfold opV at hdo
        obtain ⟨x0, x1, -, -⟩ := two k1'
        have k1'H := Lib.hid k1'
        have k2'H := Lib.hid k2'
        have hD1H := Lib.hid hD1
        clear hn0 he0 hRn k1' k2' hD1 hk1H
        go_upto_region 4 with (go_at_call 8; ((with_reducible refine hdo.out.mono ?_); rintro r w3 ⟨⟨v3, rfl, P, ⟨A3, c3, B3, d3, rfl, hA3, hB3⟩, hE3, hL3⟩, hb3⟩))
        have kP := heap_alloc_new w3 (.cells #[.slice A3 P.1.length c3, .slice B3 P.2.length d3] 25)
        have hP4 : DkAt (w3.alloc (.cells #[.slice A3 P.1.length c3, .slice B3 P.2.length d3] 25)) (.agg #[.slice A3 P.1.length c3, .slice B3 P.2.length d3]) P := ⟨A3, c3, B3, d3, rfl, hA3.on box_below, hB3.on box_below⟩
        have hb14 : Below w1.heap.size w1 (w3.alloc (.cells #[.slice A3 P.1.length c3, .slice B3 P.2.length d3] 25)) := hb3.alloc hb3.size _
        have hokP : Okd P := (hL3 100 5000 hLm).mono (by omega) (by show 5000 + o2.size ≤ _; omega)
        generalize (w3.alloc (.cells #[.slice A3 P.1.length c3, .slice B3 P.2.length d3] 25)) = W4 at kP hP4 hb14 ⊢
        generalize w3.heap.size = ga at kP ⊢
        have hrP : readF P other = readF D other := by unfold readF; rw [hE3.1, hap.out]
        have hsP : safeF P other = safeF D other := by unfold safeF; rw [hE3.1, hap.out]
        have kg4 := (hb14.block w.heap.size (some_lt k1'H.out)).trans k1'H.out
        have ko4 := (hb14.block (w.heap.size + 1) (some_lt k2'H.out)).trans k2'H.out
        have hD4 := hD1H.out.on hb14
        obtain ⟨xd, xe, hrd⟩ : ∃ xd xe, readF D other = (xd, xe) := ⟨_, _, rfl⟩
        obtain ⟨sf, hsf⟩ : ∃ sf, safeF D other = sf := ⟨_, rfl⟩
        have hRd := Lib.hid (fun X (hX : Below W4.heap.size W4 X) => pread_any other (hD4.on hX) hok)
        have hRa := Lib.hid (fun X (hX : Below W4.heap.size W4 X) => pread_any other (hP4.on hX) hokP)
        have hSd := Lib.hid (fun X (hX : Below W4.heap.size W4 X) => psafe_any other (hD4.on hX) hok)
        have hSa := Lib.hid (fun X (hX : Below W4.heap.size W4 X) => psafe_any other (hP4.on hX) hokP)
        rw [hrd] at hRd
        rw [hrP, hrd] at hRa
        rw [hsf] at hSd
        rw [hsP, hsf] at hSa
        have hb4 := Lib.hid (hbw1.out.trans (hb14.mono hbw1.out.size))
        have hMk : Hid (∀ X, Below W4.heap.size W4 X → Below W4.heap.size W4 X ∧ X.cell? ⟨w.heap.size, 0, none⟩ = some (.slice A D.1.length c) ∧ X.cell? ⟨w.heap.size, 1, none⟩ = some (.slice B D.2.length d) ∧ X.cell? ⟨ga, 0, none⟩ = some (.slice A3 P.1.length c3) ∧ X.cell? ⟨ga, 1, none⟩ = some (.slice B3 P.2.length d3) ∧ X.cell? ⟨w.heap.size + 1, 0, none⟩ = some (.int .i64 o0) ∧ X.cell? ⟨w.heap.size + 1, 1, none⟩ = some (.string o1) ∧ X.cell? ⟨w.heap.size + 1, 2, none⟩ = some (.string o2)) := Lib.hid (fun X hX => by
          obtain ⟨q0, q1, -, -⟩ := two ((hX.block w.heap.size (some_lt kg4)).trans kg4)
          obtain ⟨q2, q3, -, -⟩ := two ((hX.block ga (some_lt kP)).trans kP)
          have q5 := (hX.block (w.heap.size + 1) (some_lt ko4)).trans ko4
          exact ⟨hX, q0, q1, q2, q3, Lib.cell_of_heap q5 0, Lib.cell_of_heap q5 1, Lib.cell_of_heap q5 2⟩)
        have hE3H := Lib.hid hE3
        have hP4H := Lib.hid hP4
        have hD4H := Lib.hid hD4
        have hokPH := Lib.hid hokP
        have hokH := Lib.hid hok
        clear x0 x1 z0 z1 z2 z3 hA3 hB3 hL3 hb3 hb14 kP hP4 hokP hrP hsP kg4 ko4 hD4 hrd hsf hdo hE3 hok hLm
        obtain ⟨-, x0, x1, x2, x3, -, -, -⟩ := hMk.out W4 (Below.refl _ _)
        go_upto_region 5 with (go_at_call 10; ((with_reducible refine (hRd.out _ (Below.refl _ _)).mono ?_); rintro r w5 ⟨rfl, hb5⟩))
        clear x0 x1 x2 x3
        obtain ⟨-, x0, x1, x2, x3, -, -, -⟩ := hMk.out w5 hb5
        go_upto_region 6 with (go_at_call 10; ((with_reducible refine (hRa.out _ hb5).mono ?_); rintro r w6 ⟨rfl, hb6⟩))
        have hb46 := hb5.trans (hb6.mono hb5.size)
        clear x0 x1 x2 x3 hb5 hb6
        have t1 : (xd.toList != xd.toList) = false := by simp
        have t2 : (xe != xe) = false := by simp
        have t3 : (sf.toList != sf.toList) = false := by simp
        have hK0 := Lib.hid ((Below.drew (Below.refl w6.heap.size w6)).mono hb46.size)
        have hK1 := Lib.hid (hb46.trans hK0.out)
        have hOn : Hid (∀ a c, Below a.heap.size a c → Below W4.heap.size W4 a → Below W4.heap.size W4 c) := Lib.hid fun a c k h => h.trans (k.mono h.size)
        go_region_held3 (fun w' => Below W4.heap.size W4 w' ∧ w'.cell? ⟨w.heap.size, 0, none⟩ = some (.slice A D.1.length c) ∧ w'.cell? ⟨w.heap.size, 1, none⟩ = some (.slice B D.2.length d) ∧ w'.cell? ⟨ga, 0, none⟩ = some (.slice A3 P.1.length c3) ∧ w'.cell? ⟨ga, 1, none⟩ = some (.slice B3 P.2.length d3) ∧ w'.cell? ⟨w.heap.size + 1, 0, none⟩ = some (.int .i64 o0) ∧ w'.cell? ⟨w.heap.size + 1, 1, none⟩ = some (.string o1) ∧ w'.cell? ⟨w.heap.size + 1, 2, none⟩ = some (.string o2))
            (first | exact hMk.out _ hK1.out | exact hMk.out _ (hOn.out _ _ (by assumption) (And.left (by assumption))) | assumption)
            (first
            | (go_at_call 14; ((with_reducible refine (hSd.out _ (And.left (by assumption))).mono ?_); rintro e' u1 ⟨rfl, bb1⟩))
            | (go_at_call 14; ((with_reducible refine (hSa.out _ (And.left (by assumption))).mono ?_); rintro e' u2 ⟨rfl, bb2⟩)))
        go_wp2_with (go_at_call 7; ((with_reducible refine (hAl.out _).mono ?_); rintro r w2 ⟨rfl, hb2⟩))
        go_ret
        have hS := And.left (by assumption)
        exact ⟨rfl, hb4.out.trans ((hS.trans (hb2.mono hS.size)).mono hb4.out.size)⟩)
end Go.Proofs.Ythdgfchmglkpaaa

/-
  Proved: DiskApart returns true, whatever its arguments; each argument reads behind the call as it read before. No condition.
-/
namespace Go.Proofs.Ythdgfchmglkpaaa.diskApart
open Go.ChangeShapes Go.WideShapes Go.ChangeAt Go.RowKit
open Go.ChangeMaps (open_string shut_string)
set_option maxRecDepth 100000 in
theorem contract (H : Type) (enc : TypeId × Value → H) (W : World) (base : Nat) (args : Array Value) (ds gs : List (DataW H)) (before : List MemPlace)
    (hval : ∀ (j : Nat) t v, Try.f5.params[j]? = some t → args[j]? = some v → Value.okWide Try.prog W .any base t v)
    (hW : DataW.Whole enc Try.prog Try.f5.params.toList Rows.diskApartSpec.vars false W args.toList ds gs before)
    (hz : (DataW.weightsEach Try.prog (Try.f5.params.toList ++ (OpenSpec.ofChange Rows.diskApartSpec).bare.plain.varTypes Try.prog) (ds ++ gs)).all (· ≤ reachBytes) = true) :
    Calls Try.prog 5 args W fun e W' => ∃ v, e = .returned v ∧ Rows.diskApartSpec.post enc Try.prog Try.f5 false true false false W args v W' := by
  have hW' := hW
  obtain ⟨p, q, hA0, hV, rfl, hfz, hnd⟩ := hW
  have hA : DataW.TrodAll enc Try.prog W 0 (fun _ => true) true Try.f5.params.toList args.toList ds p := hA0
  rw [Try.params5] at hA hval hz
  obtain ⟨v0, vs0, d0, ds0, p0, q0, hargs, rfl, rfl, t0, r0⟩ := trodAll_cons hA
  obtain ⟨v1, vs1, d1, ds1, p1, q1, rfl, rfl, rfl, t1, r1⟩ := trodAll_cons r0
  obtain ⟨v2, vs2, d2, ds2, p2, q2, rfl, rfl, rfl, t2, r2⟩ := trodAll_cons r1
  obtain ⟨rfl, rfl, rfl⟩ := trodAll_nil r2
  obtain rfl : args = #[v0, v1, v2] := by cases args; simp_all
  obtain ⟨rfl, rfl⟩ := trodVars_none hV
  obtain ⟨cs0, rfl, _⟩ := okWide_struct Try.underlying25 (hval 0 25 v0 rfl rfl)
  have t0k := t0
  obtain ⟨fuel0, hf0⟩ := t0
  have hw0 : ∀ n ∈ d0.weights Try.prog 25, n ≤ reachBytes := fun n hn => by
    have := List.all_eq_true.1 hz n (DataW.weights_mem_each (j := 0) (t := 25) (d := d0) rfl rfl n hn)
    simpa using this
  obtain ⟨D0, A0, B0, c0, e0, rfl, hA0, hB0, hdl0, hds0⟩ := disk_value hf0 hw0
  obtain ⟨o1, rfl, _, hs1, hi1⟩ := op_value (hval 1 30 v1 rfl rfl) t1
  obtain ⟨x2, rfl, rfl, rfl, h2⟩ := open_string Try.underlying9 (hval 2 9 v2 rfl rfl) t2
  clear hA0
  simp only [List.append_nil] at hW'
  have hltA : ∀ x ∈ p0 ++ p1, x.block < W.heap.size := fun x hx => by have := hW'.lt x hx; simpa using this
  have hlt0 : ∀ x ∈ p0, x.block < W.heap.size := fun x hx => hltA x (by simp [hx])
  have hlt1 : ∀ x ∈ p1, x.block < W.heap.size := fun x hx => hltA x (by simp [hx])
  have walk : Calls Try.prog 5 #[.agg #[.slice A0 D0.1.length c0, .slice B0 D0.2.length e0], .agg #[.int .i64 o1.1, .string o1.2.1, .string o1.2.2.1, .int .i64 o1.2.2.2], .string x2] W fun e w' => e = .returned (.bool true) ∧ Below W.heap.size W w' := by
    exact apart_any x2 hA0 hB0 hdl0 hds0 hs1 hi1
  refine walk.mono fun e W' ⟨he, hb⟩ => ?_
  subst he
  refine ⟨_, rfl, ⟨_, _, _, [] ++ [], p0 ++ p1, [], hW', ?_, ?_, rfl, hb.frame _, fun h => by cases h⟩⟩
  · exact trodAll_cons_mk (shut_bool Try.underlying4 _) trodAll_mk0
  · have h := trodAll_cons_mk (Below.trod laidOut (by kernel_rfl) (of_decide_eq_true (by kernel_rfl)) t0k hb hlt0) (trodAll_cons_mk (Below.trod laidOut (by kernel_rfl) (of_decide_eq_true (by kernel_rfl)) t1 hb hlt1) (trodAll_cons_mk (shut_string (enc := enc) (P := Try.prog) (w := W') (base := 0) (sp := fun b => decide (b < W.heap.size)) (held := true) Try.underlying9 h2) trodAll_mk0))
    simp only [List.append_nil] at h
    exact h
theorem reads (os : Os) {H : Type} (enc : TypeId × Value → H) : ∃ places, DataW.whole enc Try.prog ((World.doorLaid Try.prog 400 os).forCall (fun _ _ => 0) ⟨#[], #[Value.agg #[Value.slice none 0 0, Value.slice none 0 0], Value.agg #[.int .i64 0, .string ⟨#[]⟩, .string ⟨#[]⟩, .int .i64 0], Value.string ⟨#[]⟩], []⟩).memory Try.f5.params.toList Rows.diskApartSpec.vars false (#[Value.agg #[Value.slice none 0 0, Value.slice none 0 0], Value.agg #[.int .i64 0, .string ⟨#[]⟩, .string ⟨#[]⟩, .int .i64 0], Value.string ⟨#[]⟩] : Array Value).toList 8 = some ([.agg [.nil, .nil], .agg [.lit (.int .i64 0), .lit (.string []), .lit (.string []), .lit (.int .i64 0)], .lit (.string [])], [], places) :=
  ⟨[], by kernel_rfl⟩
set_option maxRecDepth 100000 in
theorem lifted (os : Os) (started : os.Started) (H : Type) (enc : TypeId × Value → H) (F : Stop.Interp) :
    ReturnsInHanded {} Try.checked os 5 .any ((OpenSpec.ofChange Rows.diskApartSpec).preRow enc Try.prog Try.f5 Rows.diskApartRow.domain false Rows.diskApartRow.laid) (((OpenSpec.ofChange Rows.diskApartSpec).at F).post enc Try.prog Try.f5 false true false false) := by
  obtain ⟨places, hx⟩ := reads os enc
  refine returnsInHanded_of_row (C := Try.checked) (s := OpenSpec.ofChange Rows.diskApartSpec) own_knob started (by kernel_rfl) Try.func5
    (witness_row_at (enc := enc) (C := Try.checked) false (World.doorLaid Try.prog 400 os) #[Value.agg #[Value.slice none 0 0, Value.slice none 0 0], Value.agg #[.int .i64 0, .string ⟨#[]⟩, .string ⟨#[]⟩, .int .i64 0], Value.string ⟨#[]⟩] rfl (by kernel_rfl) (by kernel_rfl) (by kernel_rfl)
      (OpenSpec.preRow_of_cond 8 hx (by kernel_rfl) (fun k hk => by cases hk) (by kernel_rfl) (laid_met os _))) ?_
  intro W base args ds gs before hval hW _ _ hz hL _ _
  exact contract H enc W base args ds gs before hval hW hz
theorem said : Rows.DiskApartSaid :=
  OpenClaim.holds_of_cond 5 Try.f5 rfl rfl rfl rfl rfl rfl rfl ⟨rfl, rfl, rfl, rfl, rfl⟩ rfl rfl rfl rfl rfl (by kernel_rfl) Try.func5 (by kernel_rfl)
    (of_decide_eq_true (by kernel_rfl)) (by unfold Func.isWrapper; first | (rw [if_pos (by decide +kernel)]; kernel_rfl) | (rw [if_neg (by decide +kernel)]; exact ⟨rfl, rfl⟩))
    (fun os started H enc _ F => by rw [OpenClaim.pre_eq_preRow]; exact lifted os started H enc F)
end Go.Proofs.Ythdgfchmglkpaaa.diskApart
