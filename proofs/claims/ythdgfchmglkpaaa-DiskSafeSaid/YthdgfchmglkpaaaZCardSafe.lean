/-
  Proved: DiskSafe returns true, whatever its arguments; each argument reads behind the call as it read before. No condition.
-/
import Derived.Test.YthdgfchmglkpaaaChecked
import Derived.Test.YthdgfchmglkpaaaRows
import Derived.WalkKit
import Derived.WalkSpells
import Derived.WalkLawsBesides
import Derived.Deep.QuietTactic
import Derived.BigQuiet
import Derived.Lib.Hide
import Derived.Lib.SmallJoins
import Derived.Outline
import Derived.OwnWalk
import Derived.ProofKit
import Derived.OpenShut
import Derived.Deep.DeepHandedRow
import Derived.Lib.LaidTab
import Derived.LaidMore
import Derived.Deep.Slices
import Derived.Carry
import Derived.Test.YthdgfchmglkpaaaMath
import Derived.Test.YthdgfchmglkpaaaA
import Derived.Test.YthdgfchmglkpaaaB
import Derived.Test.YthdgfchmglkpaaaF
import Derived.Test.YthdgfchmglkpaaaK
import Derived.Test.YthdgfchmglkpaaaM
import Derived.Deep.CutBlock
import Derived.BigRegion
import Derived.StillTailTactics
import Derived.Laws.AppendOwnNone
import Derived.Maps.AppendAt
import Derived.Deep.RegionLaw
import Derived.Deep.RegionHeld3
import Derived.Lib.BufferRead
import Derived.Deep.AppendLies
import Derived.Test.YthdgfchmglkpaaaC
import Derived.Test.YthdgfchmglkpaaaD
import Derived.Test.YthdgfchmglkpaaaE
import Derived.Test.YthdgfchmglkpaaaJ
import Derived.Test.YthdgfchmglkpaaaL
import Derived.Test.YthdgfchmglkpaaaU
import Derived.Test.YthdgfchmglkpaaaR
import Derived.Test.YthdgfchmglkpaaaS
import Derived.Test.YthdgfchmglkpaaaVS
import Derived.Test.YthdgfchmglkpaaaVF
import Derived.Test.YthdgfchmglkpaaaVO
import Derived.Test.YthdgfchmglkpaaaVD
import Derived.Test.YthdgfchmglkpaaaVQ
import Derived.Test.YthdgfchmglkpaaaVT
import Derived.Test.YthdgfchmglkpaaaVU
import Derived.Test.YthdgfchmglkpaaaVW
import Derived.Test.YthdgfchmglkpaaaVX
import Derived.Test.YthdgfchmglkpaaaWJ
import Derived.Test.YthdgfchmglkpaaaWC
import Derived.Test.YthdgfchmglkpaaaP
import Derived.Test.YthdgfchmglkpaaaQ
import Derived.Lib.SliceRun
import Derived.Laws.CopyOwn
import Derived.Maps.OwnSet
import Derived.StringKeys
import Derived.Lib.AppendZeros
import Derived.ChangeMaps5

namespace Go.Proofs.Ythdgfchmglkpaaa
open Go.ChangeShapes Go.WideShapes Go.ChangeAt Go.RowKit
theorem own_knob : ownKnob Try.prog.godebug = none := by kernel_rfl
theorem laid_met (os : Os) (args : Array Value) : laidMet Try.prog [] ((World.doorLaid Try.prog 400 os).forCall (fun _ _ => 0) ⟨#[], args, []⟩).memory :=
  laidMet_of_run' 8 (by kernel_rfl) (by kernel_rfl)
theorem laidOut : laidOutB Try.prog = true := by kernel_rfl
end Go.Proofs.Ythdgfchmglkpaaa

/-
  How disks, rows of keeps and of ops that are handed over are opened: what is read of them. No condition.
-/
namespace Go.Proofs.Ythdgfchmglkpaaa
open Go.RowKit Go.ChangeShapes Go.WideShapes Go.Deep
set_option maxRecDepth 100000
theorem cellsInt : Try.prog.cellsOf 3 = 1 := by kernel_rfl
theorem cellsStr : Try.prog.cellsOf 9 = 1 := by kernel_rfl
theorem cellsFile : Try.prog.cellsOf 39 = 3 := by kernel_rfl
theorem bytesFile : Try.prog.bytesOf 39 = 40 := by kernel_rfl
theorem cellsFault : Try.prog.cellsOf 70 = 3 := by kernel_rfl
theorem bytesFault : Try.prog.bytesOf 70 = 32 := by kernel_rfl
theorem cellsKeep : Try.prog.cellsOf 56 = 2 := by kernel_rfl
theorem bytesKeep : Try.prog.bytesOf 56 = 24 := by kernel_rfl
theorem cellsOp : Try.prog.cellsOf 30 = 4 := by kernel_rfl
theorem bytesOp : Try.prog.bytesOf 30 = 48 := by kernel_rfl
theorem cellsDisk : Try.prog.cellsOf 25 = 2 := by kernel_rfl
theorem cellsFiles : Try.prog.cellsOf 22 = 1 := by kernel_rfl
theorem cellsFaults : Try.prog.cellsOf 23 = 1 := by kernel_rfl
def inI64 (n : Int) : Prop := -9223372036854775808 ≤ n ∧ n ≤ 9223372036854775807
theorem wf64 {n : Int} (h : (Lit.int .i64 n).wf = true) : inI64 n := by
  simp [Lit.wf, IntKind.min, IntKind.max, IntKind.signed, IntKind.bits] at h
  unfold inI64
  omega
theorem add_far {p : Addr} {j : Nat} (hj : 0 < j) : p.add j = ⟨p.block, p.off + j, none⟩ := by unfold Addr.add; rw [if_neg (by omega)]
theorem list_of {α : Type} {Q : Nat → α → Prop} : ∀ (n : Nat), (∀ i, i < n → ∃ y, Q i y) → ∃ l : List α, l.length = n ∧ ∀ i y, l[i]? = some y → Q i y
  | 0, _ => ⟨[], rfl, fun i y h => by simp at h⟩
  | n + 1, h => by
    obtain ⟨l, hl, hq⟩ := list_of n fun i hi => h i (by omega)
    obtain ⟨y, hy⟩ := h n (by omega)
    refine ⟨l ++ [y], by simp [hl], fun i z hz => ?_⟩
    by_cases hi : i < n
    · rw [List.getElem?_append_left (by omega)] at hz
      exact hq i z hz
    · rw [List.getElem?_append_right (by omega), hl] at hz
      have hin : i = n := by
        rcases Nat.lt_or_ge n i with hlt | hge
        · rw [List.getElem?_eq_none (by simp; omega)] at hz; cases hz
        · omega
      subst hin
      simp at hz
      subst hz
      exact hy
/-- A row whose elements have so many cells each. -/
theorem rowN_of {H α : Type} {enc : TypeId × Value → H} {W : World} {t e : TypeId} {N : Nat} {Q : Addr → α → Prop} (ht : Try.prog.underlying t = some (.slice e)) (hc : Try.prog.cellsOf e = N) (hb : 16 ≤ Try.prog.bytesOf e)
    (each : ∀ (fuel : Nat) (a : Addr) (cs : List Value) (y : DataW H × List MemPlace), W.cells? 0 a N = some cs → DataW.trod enc Try.prog W 0 (fun _ => true) true fuel e cs = some y → ∃ z, Q a z)
    {v : Value} {fuel : Nat} {x : DataW H × List MemPlace} (h : DataW.trod enc Try.prog W 0 (fun _ => true) true fuel t [v] = some x) (hw : ∀ n ∈ x.1.weights Try.prog t, n ≤ reachBytes) :
    ∃ (l : List α) (A : Option Addr) (c : Nat), v = .slice A l.length c ∧ (∀ i z, l[i]? = some z → ∃ a, A = some a ∧ Q (a.add (i * N)) z) ∧ l.length ≤ 140737488355328 ∧ (A = none → c = 0) := by
  rcases open_slice ht h with ⟨hcs, hx⟩ | ⟨a, len, cap, m, n, D, Pl, hcs, _, hl, hm, hs, hx, he⟩
  · simp at hcs
    exact ⟨[], none, 0, hcs, fun i z h => by simp at h, Nat.zero_le _, fun _ => rfl⟩
  · simp at hcs
    subst hcs
    simp only [if_true] at hs
    rw [hc] at he
    have hx1 : x.1 = .slice ((List.range len).map D) ((List.range (m - len)).map fun j => D (len + j)) := congrArg Prod.fst hx
    rw [hx1] at hw
    have hwl := hw ((((List.range len).map D).length + ((List.range (m - len)).map fun j => D (len + j)).length) * Try.prog.bytesOf e) (by simp [DataW.weights, ht])
    have hll : len ≤ 140737488355328 := by
      simp only [List.length_map, List.length_range] at hwl
      unfold reachBytes at hwl
      have h1 : len * 16 ≤ (len + (m - len)) * Try.prog.bytesOf e := Nat.mul_le_mul (by omega) hb
      omega
    obtain ⟨l, hlen, hq⟩ := list_of (Q := fun i z => Q (a.add (i * N)) z) len (fun i hi => by
      obtain ⟨cs, h3, h4⟩ := he i (by omega)
      exact each _ _ _ _ h3 h4)
    exact ⟨l, some a, cap, by rw [hlen], fun i z hz => ⟨a, rfl, hq i z hz⟩, by rw [hlen]; exact hll, fun e => by cases e⟩
theorem file_at {H : Type} {enc : TypeId × Value → H} {W : World} (fuel : Nat) (a : Addr) (cs : List Value) (x : DataW H × List MemPlace) (hc : W.cells? 0 a 3 = some cs) (h : DataW.trod enc Try.prog W 0 (fun _ => true) true fuel 39 cs = some x) :
    ∃ f : Fl, a.block < W.heap.size ∧ W.cell? a = some (.string f.1) ∧ W.cell? ⟨a.block, a.off + 1, none⟩ = some (.string f.2.1) ∧ W.cell? ⟨a.block, a.off + 2, none⟩ = some (.int .i64 f.2.2) ∧ f.1.size ≤ maxLen ∧ f.2.1.size ≤ maxLen := by
  obtain ⟨xs, m, hm, rfl, hl, hlen, hf⟩ := DataW.trod_struct Try.underlying39 h
  rw [cellsFile] at hl
  match cs, hl with
  | [c0, c1, c2], _ =>
  match xs, hlen with
  | [y0, y1, y2], _ =>
  have g0 : DataW.trod enc Try.prog W 0 (fun _ => true) true m 9 [c0] = some y0 := by simpa [cellsStr] using hf 0 _ rfl
  have g1 : DataW.trod enc Try.prog W 0 (fun _ => true) true m 9 [c1] = some y1 := by simpa [cellsStr] using hf 1 _ rfl
  have g2 : DataW.trod enc Try.prog W 0 (fun _ => true) true m 3 [c2] = some y2 := by simpa [cellsInt] using hf 2 _ rfl
  clear hf h
  obtain ⟨b, b1, rfl, b3⟩ := DataW.trod_string Try.underlying9 g0
  obtain ⟨s, s1, rfl, s3⟩ := DataW.trod_string Try.underlying9 g1
  obtain ⟨i, i1, rfl, i3⟩ := DataW.trod_int Try.underlying3 g2
  simp only [List.cons.injEq, and_true] at b1 s1 i1
  subst b1 s1 i1
  obtain ⟨_, _, h7⟩ := World.cells?_some hc
  have z0 : W.cell? a = some (.string b) := by simpa [Addr.add] using h7 0 (by omega)
  have z1 := h7 1 (by omega)
  have z2 := h7 2 (by omega)
  rw [add_far (by omega)] at z1 z2
  exact ⟨(b, s, i), block_lt_of_cell z0, z0, z1, z2, b3, s3⟩
theorem fault_at {H : Type} {enc : TypeId × Value → H} {W : World} (fuel : Nat) (a : Addr) (cs : List Value) (x : DataW H × List MemPlace) (hc : W.cells? 0 a 3 = some cs) (h : DataW.trod enc Try.prog W 0 (fun _ => true) true fuel 70 cs = some x) :
    ∃ f : Ft, a.block < W.heap.size ∧ W.cell? a = some (.string f.1) ∧ W.cell? ⟨a.block, a.off + 1, none⟩ = some (.int .i64 f.2.1) ∧ W.cell? ⟨a.block, a.off + 2, none⟩ = some (.int .i64 f.2.2) := by
  obtain ⟨xs, m, hm, rfl, hl, hlen, hf⟩ := DataW.trod_struct Try.underlying70 h
  rw [cellsFault] at hl
  match cs, hl with
  | [c0, c1, c2], _ =>
  match xs, hlen with
  | [y0, y1, y2], _ =>
  have g0 : DataW.trod enc Try.prog W 0 (fun _ => true) true m 9 [c0] = some y0 := by simpa [cellsStr] using hf 0 _ rfl
  have g1 : DataW.trod enc Try.prog W 0 (fun _ => true) true m 3 [c1] = some y1 := by simpa [cellsInt] using hf 1 _ rfl
  have g2 : DataW.trod enc Try.prog W 0 (fun _ => true) true m 3 [c2] = some y2 := by simpa [cellsInt] using hf 2 _ rfl
  clear hf h
  obtain ⟨b, b1, rfl, b3⟩ := DataW.trod_string Try.underlying9 g0
  obtain ⟨s, s1, rfl, s3⟩ := DataW.trod_int Try.underlying3 g1
  obtain ⟨i, i1, rfl, i3⟩ := DataW.trod_int Try.underlying3 g2
  simp only [List.cons.injEq, and_true] at b1 s1 i1
  subst b1 s1 i1
  obtain ⟨_, _, h7⟩ := World.cells?_some hc
  have z0 : W.cell? a = some (.string b) := by simpa [Addr.add] using h7 0 (by omega)
  have z1 := h7 1 (by omega)
  have z2 := h7 2 (by omega)
  rw [add_far (by omega)] at z1 z2
  exact ⟨(b, s, i), block_lt_of_cell z0, z0, z1, z2⟩
theorem keep_at {H : Type} {enc : TypeId × Value → H} {W : World} (fuel : Nat) (a : Addr) (cs : List Value) (x : DataW H × List MemPlace) (hc : W.cells? 0 a 2 = some cs) (h : DataW.trod enc Try.prog W 0 (fun _ => true) true fuel 56 cs = some x) :
    ∃ f : Kp, a.block < W.heap.size ∧ W.cell? a = some (.string f.1) ∧ W.cell? ⟨a.block, a.off + 1, none⟩ = some (.int .i64 f.2) ∧ inI64 f.2 ∧ f.1.size ≤ maxLen := by
  obtain ⟨xs, m, hm, rfl, hl, hlen, hf⟩ := DataW.trod_struct Try.underlying56 h
  rw [cellsKeep] at hl
  match cs, hl with
  | [c0, c1], _ =>
  match xs, hlen with
  | [y0, y1], _ =>
  have g0 : DataW.trod enc Try.prog W 0 (fun _ => true) true m 9 [c0] = some y0 := by simpa [cellsStr] using hf 0 _ rfl
  have g1 : DataW.trod enc Try.prog W 0 (fun _ => true) true m 3 [c1] = some y1 := by simpa [cellsInt] using hf 1 _ rfl
  clear hf h
  obtain ⟨b, b1, rfl, b3⟩ := DataW.trod_string Try.underlying9 g0
  obtain ⟨s, s1, rfl, s3⟩ := DataW.trod_int Try.underlying3 g1
  simp only [List.cons.injEq, and_true] at b1 s1
  subst b1 s1
  obtain ⟨_, _, h7⟩ := World.cells?_some hc
  have z0 : W.cell? a = some (.string b) := by simpa [Addr.add] using h7 0 (by omega)
  have z1 := h7 1 (by omega)
  rw [add_far (by omega)] at z1
  exact ⟨(b, s), block_lt_of_cell z0, z0, z1, wf64 s3, b3⟩
theorem op_of {H : Type} {enc : TypeId × Value → H} {W : World} {fuel : Nat} {cs : List Value} {x : DataW H × List MemPlace} (h : DataW.trod enc Try.prog W 0 (fun _ => true) true fuel 30 cs = some x) :
    ∃ o : Od, cs = [.int .i64 o.1, .string o.2.1, .string o.2.2.1, .int .i64 o.2.2.2] ∧ x.2 = [] ∧ o.2.1.size ≤ maxLen ∧ o.2.2.1.size ≤ maxLen ∧ inI64 o.2.2.2 := by
  obtain ⟨xs, m, hm, rfl, hl, hlen, hf⟩ := DataW.trod_struct Try.underlying30 h
  rw [cellsOp] at hl
  match cs, hl with
  | [c0, c1, c2, c3], _ =>
  match xs, hlen with
  | [y0, y1, y2, y3], _ =>
  have g0 : DataW.trod enc Try.prog W 0 (fun _ => true) true m 3 [c0] = some y0 := by simpa [cellsInt] using hf 0 _ rfl
  have g1 : DataW.trod enc Try.prog W 0 (fun _ => true) true m 9 [c1] = some y1 := by simpa [cellsStr] using hf 1 _ rfl
  have g2 : DataW.trod enc Try.prog W 0 (fun _ => true) true m 9 [c2] = some y2 := by simpa [cellsStr] using hf 2 _ rfl
  have g3 : DataW.trod enc Try.prog W 0 (fun _ => true) true m 3 [c3] = some y3 := by simpa [cellsInt] using hf 3 _ rfl
  clear hf h
  obtain ⟨kd, k1, rfl, k3⟩ := DataW.trod_int Try.underlying3 g0
  obtain ⟨b, b1, rfl, b3⟩ := DataW.trod_string Try.underlying9 g1
  obtain ⟨s, s1, rfl, s3⟩ := DataW.trod_string Try.underlying9 g2
  obtain ⟨i, i1, rfl, i3⟩ := DataW.trod_int Try.underlying3 g3
  simp only [List.cons.injEq, and_true] at k1 b1 s1 i1
  subst k1 b1 s1 i1
  exact ⟨(kd, b, s, i), rfl, by simp, b3, s3, wf64 i3⟩
theorem op_at {H : Type} {enc : TypeId × Value → H} {W : World} (fuel : Nat) (a : Addr) (cs : List Value) (x : DataW H × List MemPlace) (hc : W.cells? 0 a 4 = some cs) (h : DataW.trod enc Try.prog W 0 (fun _ => true) true fuel 30 cs = some x) :
    ∃ o : Od, a.block < W.heap.size ∧ OpAt W a o ∧ o.2.1.size ≤ maxLen ∧ o.2.2.1.size ≤ maxLen ∧ inI64 o.2.2.2 := by
  obtain ⟨o, rfl, _, k1, k2, k3⟩ := op_of h
  obtain ⟨_, _, h7⟩ := World.cells?_some hc
  have z0 : W.cell? a = some (.int .i64 o.1) := by simpa [Addr.add] using h7 0 (by omega)
  have z1 := h7 1 (by omega)
  have z2 := h7 2 (by omega)
  have z3 := h7 3 (by omega)
  rw [add_far (by omega)] at z1 z2 z3
  exact ⟨o, block_lt_of_cell z0, ⟨z0, z1, z2, z3⟩, k1, k2, k3⟩
theorem files_read {H : Type} {enc : TypeId × Value → H} {W : World} {v : Value} {fuel : Nat} {x : DataW H × List MemPlace} (h : DataW.trod enc Try.prog W 0 (fun _ => true) true fuel 22 [v] = some x) (hw : ∀ n ∈ x.1.weights Try.prog 22, n ≤ reachBytes) :
    ∃ (l : List Fl) (A : Option Addr) (c : Nat), v = .slice A l.length c ∧ FilesAt W A l ∧ (∀ f ∈ l, f.1.size ≤ maxLen ∧ f.2.1.size ≤ maxLen) ∧ l.length ≤ 140737488355328 := by
  obtain ⟨l, A, c, h1, h2, h3, _⟩ := rowN_of (N := 3) (Q := fun a (f : Fl) => a.block < W.heap.size ∧ W.cell? a = some (.string f.1) ∧ W.cell? ⟨a.block, a.off + 1, none⟩ = some (.string f.2.1) ∧ W.cell? ⟨a.block, a.off + 2, none⟩ = some (.int .i64 f.2.2) ∧ f.1.size ≤ maxLen ∧ f.2.1.size ≤ maxLen) Try.underlying22 cellsFile (by rw [bytesFile]; decide) (fun fuel a cs y hc h => file_at fuel a cs y hc h) h hw
  refine ⟨l, A, c, h1, fun i f hf => ?_, fun f hf => ?_, h3⟩
  · obtain ⟨a, k1, k2, k3, k4, k5, _⟩ := h2 i f hf
    rw [add_block] at k2
    exact ⟨a, k1, k2, k3, k4, k5⟩
  · obtain ⟨i, hi⟩ := List.getElem?_of_mem hf
    obtain ⟨a, k1, _, _, _, _, k6⟩ := h2 i f hi
    exact k6
theorem faults_read {H : Type} {enc : TypeId × Value → H} {W : World} {v : Value} {fuel : Nat} {x : DataW H × List MemPlace} (h : DataW.trod enc Try.prog W 0 (fun _ => true) true fuel 23 [v] = some x) (hw : ∀ n ∈ x.1.weights Try.prog 23, n ≤ reachBytes) :
    ∃ (l : List Ft) (A : Option Addr) (c : Nat), v = .slice A l.length c ∧ FaultsAt W A l := by
  obtain ⟨l, A, c, h1, h2, h3, _⟩ := rowN_of (N := 3) (Q := fun a (f : Ft) => a.block < W.heap.size ∧ W.cell? a = some (.string f.1) ∧ W.cell? ⟨a.block, a.off + 1, none⟩ = some (.int .i64 f.2.1) ∧ W.cell? ⟨a.block, a.off + 2, none⟩ = some (.int .i64 f.2.2)) Try.underlying23 cellsFault (by rw [bytesFault]; decide) (fun fuel a cs y hc h => fault_at fuel a cs y hc h) h hw
  refine ⟨l, A, c, h1, fun i f hf => ?_⟩
  obtain ⟨a, k1, k2, k3, k4, k5⟩ := h2 i f hf
  rw [add_block] at k2
  exact ⟨a, k1, k2, k3, k4, k5⟩
theorem keeps_read {H : Type} {enc : TypeId × Value → H} {W : World} {v : Value} {fuel : Nat} {x : DataW H × List MemPlace} (h : DataW.trod enc Try.prog W 0 (fun _ => true) true fuel 47 [v] = some x) (hw : ∀ n ∈ x.1.weights Try.prog 47, n ≤ reachBytes) :
    ∃ (l : List Kp) (A : Option Addr) (c : Nat), v = .slice A l.length c ∧ KeepsAt W A l ∧ (∀ f ∈ l, inI64 f.2 ∧ f.1.size ≤ maxLen) ∧ l.length ≤ 140737488355328 ∧ (A = none → c = 0) := by
  obtain ⟨l, A, c, h1, h2, h3, h4⟩ := rowN_of (N := 2) (Q := fun a (f : Kp) => a.block < W.heap.size ∧ W.cell? a = some (.string f.1) ∧ W.cell? ⟨a.block, a.off + 1, none⟩ = some (.int .i64 f.2) ∧ inI64 f.2 ∧ f.1.size ≤ maxLen) Try.underlying47 cellsKeep (by rw [bytesKeep]; decide) (fun fuel a cs y hc h => keep_at fuel a cs y hc h) h hw
  refine ⟨l, A, c, h1, fun i f hf => ?_, fun f hf => ?_, h3, h4⟩
  · obtain ⟨a, k1, k2, k3, k4, _⟩ := h2 i f hf
    rw [add_block] at k2
    exact ⟨a, k1, k2, k3, k4⟩
  · obtain ⟨i, hi⟩ := List.getElem?_of_mem hf
    obtain ⟨a, _, _, _, _, k5⟩ := h2 i f hi
    exact k5
theorem ops_read {H : Type} {enc : TypeId × Value → H} {W : World} {v : Value} {fuel : Nat} {x : DataW H × List MemPlace} (h : DataW.trod enc Try.prog W 0 (fun _ => true) true fuel 26 [v] = some x) (hw : ∀ n ∈ x.1.weights Try.prog 26, n ≤ reachBytes) :
    ∃ (l : List Od) (A : Option Addr) (c : Nat), v = .slice A l.length c ∧ OpsAt W W.heap.size A l ∧ (∀ o ∈ l, (o.2.1.size ≤ maxLen ∧ o.2.2.1.size ≤ maxLen) ∧ inI64 o.2.2.2) ∧ l.length ≤ 140737488355328 := by
  obtain ⟨l, A, c, h1, h2, h3, _⟩ := rowN_of (N := 4) (Q := fun a (o : Od) => a.block < W.heap.size ∧ OpAt W a o ∧ o.2.1.size ≤ maxLen ∧ o.2.2.1.size ≤ maxLen ∧ inI64 o.2.2.2) Try.underlying26 cellsOp (by rw [bytesOp]; decide) (fun fuel a cs y hc h => op_at fuel a cs y hc h) h hw
  refine ⟨l, A, c, h1, fun i f hf => ?_, fun f hf => ?_, h3⟩
  · obtain ⟨a, k1, k2, k3, _⟩ := h2 i f hf
    rw [add_block] at k2
    exact ⟨a, k1, k2, k3⟩
  · obtain ⟨i, hi⟩ := List.getElem?_of_mem hf
    obtain ⟨a, _, _, _, k4, k5, k6⟩ := h2 i f hi
    exact ⟨⟨k4, k5⟩, k6⟩
/-- A call by value. -/
theorem op_value {H : Type} {enc : TypeId × Value → H} {W : World} {r : Reach} {b : Nat} {v : Value} {d : DataW H} {p : List MemPlace} (hv : Value.okWide Try.prog W r b 30 v) (h : DataW.Trod enc Try.prog W 0 (fun _ => true) true 30 v d p) :
    ∃ o : Od, v = .agg #[.int .i64 o.1, .string o.2.1, .string o.2.2.1, .int .i64 o.2.2.2] ∧ p = [] ∧ (o.2.1.size ≤ maxLen ∧ o.2.2.1.size ≤ maxLen) ∧ inI64 o.2.2.2 := by
  obtain ⟨cs, rfl, hsz⟩ := okWide_struct Try.underlying30 hv
  obtain ⟨fuel, hf⟩ := h
  obtain ⟨o, h1, h2, h3, h4, h5⟩ := op_of hf
  refine ⟨o, ?_, h2, ⟨h3, h4⟩, h5⟩
  congr 1
  apply Array.toList_inj.1
  simpa [Value.cells] using h1
set_option maxRecDepth 100000 in
theorem disk_value {H : Type} {enc : TypeId × Value → H} {W : World} {fuel : Nat} {cs : Array Value} {x : DataW H × List MemPlace} (h : DataW.trod enc Try.prog W 0 (fun _ => true) true fuel 25 cs.toList = some x) (hw : ∀ n ∈ x.1.weights Try.prog 25, n ≤ reachBytes) :
    ∃ (D : Dk) (A B : Option Addr) (c d : Nat), cs = #[.slice A D.1.length c, .slice B D.2.length d] ∧ FilesAt W A D.1 ∧ FaultsAt W B D.2 ∧ D.1.length ≤ 140737488355328 ∧ (∀ f ∈ D.1, f.1.size ≤ maxLen ∧ f.2.1.size ≤ maxLen) := by
  obtain ⟨cs⟩ := cs
  obtain ⟨xs, m, hm, hxe, hl, hlen, hf⟩ := DataW.trod_struct Try.underlying25 h
  rw [cellsDisk] at hl
  match cs, hl with
  | [c0, c1], _ =>
  match xs, hlen with
  | [y0, y1], _ =>
  have g0 : DataW.trod enc Try.prog W 0 (fun _ => true) true m 22 [c0] = some y0 := by simpa [cellsFiles] using hf 0 _ rfl
  have g1 : DataW.trod enc Try.prog W 0 (fun _ => true) true m 23 [c1] = some y1 := by simpa [cellsFiles, cellsFaults] using hf 1 _ rfl
  subst hxe
  obtain ⟨L, A, c, k1, k2, k3, k4⟩ := files_read g0 (fun n hn => hw n (by simp [DataW.weights, Try.underlying25, DataW.weightsEach, hn]))
  obtain ⟨T, B, d, j1, j2⟩ := faults_read g1 (fun n hn => hw n (by simp [DataW.weights, Try.underlying25, DataW.weightsEach, hn]))
  exact ⟨(L, T), A, B, c, d, by rw [k1, j1], k2, j2, k4, k3⟩
end Go.Proofs.Ythdgfchmglkpaaa

/-
  The law Safe: what is safe is left by every crash. The program's contracts.
-/
namespace Go.Proofs.Ythdgfchmglkpaaa
open Go.RowKit
theorem crash_names (L : List Fl) (K : List Kp) (k : ByteArray) : k ∈ ((filesF L).map (crashF K)).map (·.1) ↔ k ∈ L.map (·.1) := by
  rw [List.map_map, show ((fun f : Fl => f.1) ∘ crashF K) = (fun f : Fl => f.1) from rfl, files_names]
theorem eqv_names {P R : Dk} (h : Eqv P R) (k : ByteArray) : k ∈ P.1.map (·.1) ↔ k ∈ R.1.map (·.1) := by
  rw [← find_iff, ← find_iff, h.1]
/-- What a crash leaves of a file that is there. -/
theorem crash_found {D C : Dk} {K : List Kp} (h : Eqv C ((filesF D.1).map (crashF K), [])) {k : ByteArray} (hk : k ∈ D.1.map (·.1)) :
    ∃ (wd : ByteArray) (s m : Nat), s ≤ m ∧ m ≤ wd.size ∧ readF D k = (wd, 0) ∧ readF C k = (wd.extract 0 m, 0) ∧ safeF D k = wd.extract 0 s ∧ safeF C k = wd.extract 0 m := by
  obtain ⟨f, hf⟩ := find_mem hk
  have hn := find_norm hf
  have hb : betw f.2.2 f.2.1.size = f.2.2 := congrArg (fun f : Fl => f.2.2) hn
  have h0 := betw_le (n := f.2.2) (m := (f.2.1.size : Int)) (by omega)
  rw [hb] at h0
  have hm := more_le (K := K) h0.2
  have hc : findF C.1 k = some (crashF K f) := by
    rw [h.1]
    show findF ((filesF D.1).map (crashF K)) k = _
    rw [find_crash, hf]
    rfl
  obtain ⟨s, hs⟩ : ∃ s : Nat, f.2.2 = (s : Int) := ⟨f.2.2.toNat, by omega⟩
  obtain ⟨m, hm2⟩ : ∃ m : Nat, f.2.2 + moreF K f = (m : Int) := ⟨(f.2.2 + moreF K f).toNat, by omega⟩
  refine ⟨f.2.1, s, m, by omega, by omega, ?_, ?_, ?_, ?_⟩
  · unfold readF; rw [hf]
  · unfold readF; rw [hc]
    show (f.2.1.extract 0 (f.2.2 + moreF K f).toNat, (0 : Int)) = _
    rw [hm2]; rfl
  · unfold safeF; rw [hf]
    show f.2.1.extract 0 f.2.2.toNat = _
    rw [hs]; rfl
  · unfold safeF; rw [hc]
    show (f.2.1.extract 0 (f.2.2 + moreF K f).toNat).extract 0 (f.2.2 + moreF K f).toNat = _
    rw [hm2]
    show (f.2.1.extract 0 m).extract 0 m = f.2.1.extract 0 m
    rw [ByteArray.extract_extract]
    simp
theorem crash_again {C : Dk} {D : Dk} {K : List Kp} (h : Eqv C ((filesF D.1).map (crashF K), [])) : Eqv ((filesF C.1).map (crashF []), []) C := by
  refine ⟨fun k => ?_, h.2.symm⟩
  show findF ((filesF C.1).map (crashF [])) k = findF C.1 k
  rw [find_crash]
  cases hc : findF C.1 k with
  | none => rfl
  | some g =>
    have hg := hc
    rw [h.1] at hg
    change findF ((filesF D.1).map (crashF K)) k = some g at hg
    rw [find_crash] at hg
    cases hf : findF D.1 k with
    | none => rw [hf] at hg; cases hg
    | some f =>
      rw [hf] at hg
      obtain rfl := Option.some.inj hg
      have hn := find_norm hf
      have hb : betw f.2.2 f.2.1.size = f.2.2 := congrArg (fun f : Fl => f.2.2) hn
      have h0 := betw_le (n := f.2.2) (m := (f.2.1.size : Int)) (by omega)
      rw [hb] at h0
      have hm := more_le (K := K) h0.2
      show some (crashF [] (crashF K f)) = some (crashF K f)
      congr 1
      show ((crashF K f).1, (crashF K f).2.1.extract 0 ((crashF K f).2.2 + moreF [] (crashF K f)).toNat, (crashF K f).2.2 + moreF [] (crashF K f)) = crashF K f
      rw [show moreF [] (crashF K f) = 0 from rfl, Int.add_zero]
      unfold crashF
      simp only
      rw [ByteArray.extract_extract]
      simp
theorem ins_exists (x : ByteArray) : ∀ {l : List ByteArray}, RiseS l → ∃ m, RiseS m ∧ ∀ k, k ∈ m ↔ k = x ∨ k ∈ l
  | [], _ => ⟨[x], List.pairwise_singleton _ _, fun k => by simp⟩
  | a :: l, h => by
    have h' := List.pairwise_cons.1 h
    rcases bl_total x.toList a.toList with e | e | e
    · obtain rfl := ba_eq e
      exact ⟨x :: l, h, fun k => by simp⟩
    · refine ⟨x :: a :: l, List.pairwise_cons.2 ⟨fun b hb => ?_, h⟩, fun k => by simp⟩
      rcases List.mem_cons.1 hb with rfl | hb
      · exact e
      · exact bl_trans _ _ _ e (h'.1 b hb)
    · obtain ⟨m, hm, hk⟩ := ins_exists x h'.2
      refine ⟨a :: m, List.pairwise_cons.2 ⟨fun b hb => ?_, hm⟩, fun k => ?_⟩
      · rcases (hk b).1 hb with rfl | hb
        · exact e
        · exact h'.1 b hb
      · rw [List.mem_cons, hk, List.mem_cons]
        constructor
        · rintro (h1 | h1 | h1)
          · exact Or.inr (Or.inl h1)
          · exact Or.inl h1
          · exact Or.inr (Or.inr h1)
        · rintro (h1 | h1 | h1)
          · exact Or.inr (Or.inl h1)
          · exact Or.inl h1
          · exact Or.inr (Or.inr h1)
theorem names_exist : ∀ (L : List Fl), ∃ ns, NamesOf L ns
  | [] => ⟨[], List.Pairwise.nil, fun k => by simp⟩
  | f :: L => by
    obtain ⟨ns, h⟩ := names_exist L
    obtain ⟨m, hm, hk⟩ := ins_exists f.1 h.rise
    exact ⟨m, hm, fun k => by rw [hk, h.mem, List.map_cons, List.mem_cons]⟩
theorem far_nil {w : World} {A B : Option Addr} {c d : Nat} {L : List Fl} {m : Nat} (h : FilesAt w A L) (hl : L.length ≤ 140737488355328) (hs : ∀ f ∈ L, f.1.size ≤ maxLen ∧ f.2.1.size ≤ maxLen) :
    Calls Try.prog 6 #[.agg #[.slice A L.length c, .slice B m d], .slice none 0 0] w fun e w' => FarRes e L m [] ∧ Below w.heap.size w w' :=
  far_any (l := []) (E := none) (c' := 0) h hl hs (fun i x hi => by simp at hi) (by simp) (fun o ho => by simp at ho)
set_option warningAsError false in
set_option maxRecDepth 100000 in
set_option maxHeartbeats 8000000 in
theorem safe_any {w : World} {A B E : Option Addr} {c d e : Nat} {D : Dk} {K : List Kp} (hA : FilesAt w A D.1) (hB : FaultsAt w B D.2) (hl : D.1.length ≤ 140737488355328) (hs : ∀ f ∈ D.1, f.1.size ≤ maxLen ∧ f.2.1.size ≤ maxLen) (hK : KeepsAt w E K) (hkl : K.length ≤ 140737488355328) (hkb : ∀ p ∈ K, -9223372036854775808 ≤ p.2 ∧ p.2 ≤ 9223372036854775807) (hkm : ∀ p ∈ K, p.1.size ≤ maxLen) :
    Calls Try.prog 4 #[.agg #[.slice A D.1.length c, .slice B D.2.length d], .slice E K.length e] w fun e w' => e = .returned (.bool true) ∧ Below w.heap.size w w' := by
  have hF0 := far_nil (c := c) (d := d) (w := w.alloc (.cells #[.slice A D.1.length c, .slice B D.2.length d] 25)) (m := D.2.length) (B := B) (hA.on box_below) hl hs
  have hD0 : DkAt (w.alloc (.cells #[.slice A D.1.length c, .slice B D.2.length d] 25)) (.agg #[.slice A D.1.length c, .slice B D.2.length d]) D := ⟨A, c, B, d, rfl, hA.on box_below, hB.on box_below⟩
  have hK0 : KeepsAt (w.alloc (.cells #[.slice A D.1.length c, .slice B D.2.length d] 25)) E K := hK.on box_below
  have hb0 := box_below (w := w) (cs := #[.slice A D.1.length c, .slice B D.2.length d]) (t := 25)
  have hk0 := heap_alloc_new w (.cells #[.slice A D.1.length c, .slice B D.2.length d] 25)
  have hkmH := Lib.hid hkm
  have hkbH := Lib.hid hkb
  clear hA hB hl hs hK hkm hkb
  go_enter Try.func4, Try.ntmps4
  go_upto_region 1 with fail
  generalize (w.alloc (.cells #[.slice A D.1.length c, .slice B D.2.length d] 25)) = W0 at hF0 hD0 hb0 hk0 hK0 ⊢
  obtain ⟨x0, x1, -, -⟩ := two hk0
  have hF := Lib.hid hF0
  have hb0H := Lib.hid hb0
  have hk0H := Lib.hid hk0
  have hD0H := Lib.hid hD0
  have hK0H := Lib.hid hK0
  have hAl := Lib.hid (fun X => alive_any X)
  clear hF0 hD0 hb0 hk0 hK0
  go_upto_region 3 with fail
  refine hF.out.mono ?_
  rintro r w1 ⟨⟨fb, rfl, hfar⟩, hb1⟩
  cases fb with
  | true =>
    clear hfar
    go_wp2_with (go_at_call 7; ((with_reducible refine (hAl.out _).mono ?_); rintro r w2 ⟨rfl, hb2⟩))
    go_ret
    exact ⟨rfl, hb0H.out.trans ((hb1.mono hb0H.out.size).trans (hb2.mono (Nat.le_trans hb0H.out.size hb1.size)))⟩
  | false =>
    obtain ⟨hfl, hft, -⟩ := hfar rfl
    clear hfar
    by_cases hk100 : 100 < K.length
    · have dk : decide ((100 : Int) < (K.length : Int)) = true := decide_eq_true (by omega)
      have dk2 : decide (100 < K.length) = true := decide_eq_true hk100
      clear hk100
      go_wp2_with (go_at_call 7; ((with_reducible refine (hAl.out _).mono ?_); rintro r w2 ⟨rfl, hb2⟩))
      go_ret
      exact ⟨rfl, hb0H.out.trans ((hb1.mono hb0H.out.size).trans (hb2.mono (Nat.le_trans hb0H.out.size hb1.size)))⟩
    have dk : decide ((100 : Int) < (K.length : Int)) = false := decide_eq_false (by omega)
    have dk2 : decide (100 < K.length) = false := decide_eq_false hk100
    have hLm : Lim 100 5000 D := ⟨by have := hfl.1; omega, hft, fun f hf => (hfl.2 f hf).2⟩
    have hok : Okd D := hLm.mono (by omega) (by omega)
    have hNm : Nm D := fun f hf => by have := (hfl.2 f hf).1; unfold maxLen; omega
    have k1 := (hb1.block w.heap.size (some_lt hk0H.out)).trans hk0H.out
    obtain ⟨y0, y1, -, -⟩ := two k1
    have hD1 := hD0H.out.on hb1
    have hC1 := Lib.hid (pcrash_any (e := e) hD1 hok hNm (hK0H.out.on hb1) (by omega) hkbH.out hkmH.out)
    have hb1H := Lib.hid (hb0H.out.trans (hb1.mono hb0H.out.size))
    have k1H := Lib.hid k1
    have hD1H := Lib.hid hD1
    have hokH := Lib.hid hok
    have hLmH := Lib.hid hLm
    have hNmH := Lib.hid hNm
    clear hb1 hk100 hD1 k1 hok hLm hNm hfl hft x0 x1 hF hk0H hD0H hK0H
    go_upto_region 4 with (go_at_call 17; ((with_reducible refine hC1.out.mono ?_); rintro r w2 ⟨⟨v2, rfl, C, ⟨A2, c2, B2, d2, rfl, hA2, hB2⟩, hE, hLC⟩, hb2⟩))
    have hC2 : DkAt (w2.alloc (.cells #[.slice A2 C.1.length c2, .slice B2 C.2.length d2] 25)) (.agg #[.slice A2 C.1.length c2, .slice B2 C.2.length d2]) C := ⟨A2, c2, B2, d2, rfl, hA2.on box_below, hB2.on box_below⟩
    have kc := heap_alloc_new w2 (.cells #[.slice A2 C.1.length c2, .slice B2 C.2.length d2] 25)
    have hb12 : Below w1.heap.size w1 (w2.alloc (.cells #[.slice A2 C.1.length c2, .slice B2 C.2.length d2] 25)) := hb2.alloc hb2.size _
    generalize (w2.alloc (.cells #[.slice A2 C.1.length c2, .slice B2 C.2.length d2] 25)) = W3 at hC2 kc hb12 ⊢
    generalize w2.heap.size = gc at kc ⊢
    have k3 := (hb12.block w.heap.size (some_lt k1H.out)).trans k1H.out
    have hD3 := hD1H.out.on hb12
    have hb3 := hb1H.out.trans (hb12.mono hb1H.out.size)
    have hokC : Okd C := (hLC 100 5000 hLmH.out).mono (by omega) (by omega)
    have hC0 : C.2 = [] := hE.2
    have hNC : Nm C := nm_of (fun k f hf => by
      rw [hE.1] at hf
      simp only [] at hf
      rw [find_crash] at hf
      cases hg : findF D.1 k with
      | none => rw [hg] at hf; cases hf
      | some g => exact hNmH.out.find hg)
    have hC101 := Lib.hid (hLC 100 5000 hLmH.out)
    have hEH := Lib.hid hE
    clear hA2 hB2 hLC hb2 hb12 hE hb1H k1H hD1H hLmH y0 y1 dk dk2 hC1
    obtain ⟨ns, hNs⟩ := names_exist D.1
    have hnl : ns.length ≤ 140737488355328 := by
      have h1 := hNs.len
      have h2 := files_len D.1
      have h3 := hokH.out.fl
      omega
    have hNc := Lib.hid (fun X (hX : Below W3.heap.size W3 X) => (pnames_any (hC2.on hX) hokC).mono (fun r w' (hh : _ ∧ _) => (show (∃ Ac cc, r = .returned (.slice Ac ns.length cc) ∧ StrsAt w' Ac ns) ∧ Below X.heap.size X w' from by
      obtain ⟨⟨ms, Ac, cc, h1, h2, h3⟩, h4⟩ := hh
      obtain rfl := h3.same hNs (fun k => (eqv_names hEH.out k).trans (crash_names D.1 K k))
      exact ⟨⟨Ac, cc, h1, h2⟩, h4⟩)))
    have hNd := Lib.hid (fun X (hX : Below W3.heap.size W3 X) => (pnames_any (hD3.on hX) hokH.out).mono (fun r w' (hh : _ ∧ _) => (show (∃ Ac cc, r = .returned (.slice Ac ns.length cc) ∧ StrsAt w' Ac ns) ∧ Below X.heap.size X w' from by
      obtain ⟨⟨ms, Ac, cc, h1, h2, h3⟩, h4⟩ := hh
      obtain rfl := h3.same hNs (fun k => Iff.rfl)
      exact ⟨⟨Ac, cc, h1, h2⟩, h4⟩)))
    have hTs : Hid (∀ X (A A' : Option Addr) (c c' : Nat), StrsAt X A ns → StrsAt X A' ns → Calls Try.prog 18 #[.slice A ns.length c, .slice A' ns.length c'] X fun e w' => e = .returned (.bool true) ∧ Below X.heap.size X w') := Lib.hid (fun X A A' c c' h h' => tsame_any h h' hnl)
    have hCr := Lib.hid (fun X (hX : Below W3.heap.size W3 X) => (show Calls Try.prog 17 #[.agg #[.slice A2 C.1.length c2, .slice B2 C.2.length d2], .slice none 0 0] X fun r w' => (∃ v', r = .returned v' ∧ To w' v' C ((filesF C.1).map (crashF []), []) 0) ∧ Below X.heap.size X w' from pcrash_any (E := none) (e := 0) (K := []) (hC2.on hX) hokC hNC (fun i f hf => by simp at hf) (by simp) (by simp) (by simp)))
    have hSm : Hid (∀ X v4, (∃ C4, DkAt X v4 C4 ∧ Eqv C4 C ∧ Okd C4) → Below W3.heap.size W3 X → Calls Try.prog 13 #[v4, .agg #[.slice A2 C.1.length c2, .slice B2 C.2.length d2]] X fun r w' => r = .returned (.bool true) ∧ Below X.heap.size X w') := Lib.hid (fun X v4 h4 hX => by
      obtain ⟨C4, h1, h2, h3⟩ := h4
      exact psame_any h1 (hC2.on hX) h3 hokC h2)
    have hTo : Hid (∀ X v4, To X v4 C ((filesF C.1).map (crashF []), []) 0 → ∃ C4, DkAt X v4 C4 ∧ Eqv C4 C ∧ Okd C4) := Lib.hid (fun X v4 h => by
      obtain ⟨C4, h1, h2, h3⟩ := h
      have h5 : Lim 102 5000 C4 := h3 _ _ hC101.out
      exact ⟨C4, h1, h2.trans (crash_again hEH.out), h5.mono (by omega) (by omega)⟩)
    have hMk : Hid (∀ X, Below W3.heap.size W3 X → Below W3.heap.size W3 X ∧ X.cell? ⟨w.heap.size, 0, none⟩ = some (.slice A D.1.length c) ∧ X.cell? ⟨w.heap.size, 1, none⟩ = some (.slice B D.2.length d) ∧ X.cell? ⟨gc, 0, none⟩ = some (.slice A2 C.1.length c2) ∧ X.cell? ⟨gc, 1, none⟩ = some (.slice B2 C.2.length d2)) := Lib.hid (fun X hX => by
      obtain ⟨q0, q1, -, -⟩ := two ((hX.block w.heap.size (some_lt k3)).trans k3)
      obtain ⟨q2, q3, -, -⟩ := two ((hX.block gc (some_lt kc)).trans kc)
      exact ⟨hX, q0, q1, q2, q3⟩)
    have hK0 := Lib.hid (Below.drew (Below.refl W3.heap.size W3))
    have hOn : Hid (∀ a c, Below a.heap.size a c → Below W3.heap.size W3 a → Below W3.heap.size W3 c) := Lib.hid fun a c k h => h.trans (k.mono h.size)
    have hd0 : decide ((0 : Int) < (C.2.length : Int)) = false := by rw [hC0]; rfl
    have hd1 : decide (0 < C.2.length) = false := by rw [hC0]; rfl
    have k3H := Lib.hid k3
    have kcH := Lib.hid kc
    have hC2H := Lib.hid hC2
    have hD3H := Lib.hid hD3
    have hb3H := Lib.hid hb3
    have hokCH := Lib.hid hokC
    have hNsH := Lib.hid hNs
    clear hC0 k3 kc hC2 hD3 hb3 hokC hNs
    go_region_held3 (fun w' => Below W3.heap.size W3 w' ∧ w'.cell? ⟨w.heap.size, 0, none⟩ = some (.slice A D.1.length c) ∧ w'.cell? ⟨w.heap.size, 1, none⟩ = some (.slice B D.2.length d) ∧ w'.cell? ⟨gc, 0, none⟩ = some (.slice A2 C.1.length c2) ∧ w'.cell? ⟨gc, 1, none⟩ = some (.slice B2 C.2.length d2))
        (first | exact hMk.out _ hK0.out | exact hMk.out _ (hOn.out _ _ (by assumption) (And.left (by assumption))) | assumption)
        (first
        | (go_at_call 15; ((with_reducible refine (hNc.out _ (And.left (by assumption))).mono ?_); rintro e' u1 ⟨⟨Ac, cc, rfl, hSc⟩, bb1⟩))
        | (go_at_call 15; ((with_reducible refine (hNd.out _ (And.left (by assumption))).mono ?_); rintro e' u2 ⟨⟨Ad, cd, rfl, hSd⟩, bb2⟩))
        | (go_at_call 18; ((with_reducible refine (hTs.out _ _ _ _ _ (by first | exact hSc | exact hSc.on bb2) (by first | exact hSd | exact hSd.on bb1)).mono ?_); rintro e' u3 ⟨rfl, bb3⟩))
        | (go_at_call 17; ((with_reducible refine (hCr.out _ (And.left (by assumption))).mono ?_); rintro e' u4 ⟨⟨v4, rfl, h4⟩, bb4⟩; have h4' := Lib.hid (hTo.out _ _ h4); clear h4))
        | (go_at_call 13; ((with_reducible refine (hSm.out _ _ h4'.out (And.left (by assumption))).mono ?_); rintro e' u5 ⟨rfl, bb5⟩)))
    have hS5 : Below W3.heap.size W3 u5 := And.left (by assumption)
    have hS5H := Lib.hid hS5
    obtain ⟨y0, y1, -, -⟩ := two ((hS5.block w.heap.size (some_lt k3H.out)).trans k3H.out)
    have hNd5 := Lib.hid (hNd.out u5 hS5)
    clear hS5 hMk hK0 hOn hNc hTs hCr hSm hTo hd0 hd1 h4' hNd
    go_upto_region 7 with (go_at_call 15; ((with_reducible refine hNd5.out.mono ?_); rintro e' w7 ⟨⟨An, cn, rfl, hSn⟩, bb7⟩))
    have hb7 := Lib.hid (hS5H.out.trans (bb7.mono hS5H.out.size))
    have hSnH := Lib.hid hSn
    clear hSn bb7 y0 y1 hNd5
    go_loopw [46] (fun i wq => ∃ j : Nat, i = .int .i64 j ∧ j ≤ ns.length ∧ Hid (Below w7.heap.size w7 wq)) (fun i _ => ns.length - (intOf i).toNat)
    case atStart => exact ⟨0, rfl, by omega, Lib.hid (Below.refl _ _)⟩
    case round =>
      obtain ⟨j, rfl, hj, hbq⟩ := hrel
      by_cases hjt : j < ns.length
      · obtain ⟨nm, hx⟩ : ∃ x, ns[j]? = some x := ⟨_, List.getElem?_eq_getElem hjt⟩
        obtain ⟨aa, rfl, _, hc⟩ := hSnH.out.on hbq.out j nm hx
        have hix := run_ixS aa j ns.length cn hjt
        have hW := Lib.hid (hb7.out.trans (hbq.out.mono hb7.out.size))
        obtain ⟨wd, sq, mq, hsm, hmw, r1, r2, r3, r4⟩ := crash_found hEH.out ((hNsH.out.mem nm).1 (List.mem_of_getElem? hx))
        have hRd := Lib.hid (fun X (hX : Below wr.heap.size wr X) => pread_any nm (hD3H.out.on (hW.out.trans (hX.mono hW.out.size))) hokH.out)
        have hRc := Lib.hid (fun X (hX : Below wr.heap.size wr X) => pread_any nm (hC2H.out.on (hW.out.trans (hX.mono hW.out.size))) hokCH.out)
        have hSd := Lib.hid (fun X (hX : Below wr.heap.size wr X) => psafe_any nm (hD3H.out.on (hW.out.trans (hX.mono hW.out.size))) hokH.out)
        have hSc := Lib.hid (fun X (hX : Below wr.heap.size wr X) => psafe_any nm (hC2H.out.on (hW.out.trans (hX.mono hW.out.size))) hokCH.out)
        rw [r1] at hRd
        rw [r2] at hRc
        rw [r3] at hSd
        rw [r4] at hSc
        obtain ⟨is, his⟩ : ∃ is, is = wd.extract 0 mq := ⟨_, rfl⟩
        obtain ⟨sure, hsure⟩ : ∃ sure, sure = wd.extract 0 sq := ⟨_, rfl⟩
        have hz1 : is.size = mq := by rw [his]; simp; omega
        have hz2 : sure.size = sq := by rw [hsure]; simp; omega
        have zi : wd.extract 0 is.size = is := by rw [hz1, his]
        have zs : is.extract 0 sure.size = sure := by
          rw [hz2, his, hsure, ByteArray.extract_extract]
          congr 1
          omega
        rw [← his] at hRc hSc
        rw [← hsure] at hSd
        have b1 : (is.size : Int) ≤ (wd.size : Int) := by omega
        have b2 : (sure.size : Int) ≤ (is.size : Int) := by omega
        have d1 : decide ((wd.size : Int) < (is.size : Int)) = false := decide_eq_false (by omega)
        have d2 : decide ((is.size : Int) < (sure.size : Int)) = false := decide_eq_false (by omega)
        have d3 : decide (wd.size < is.size) = false := decide_eq_false (by omega)
        have d4 : decide (is.size < sure.size) = false := decide_eq_false (by omega)
        have e1 : (is.toList != is.toList) = false := by simp
        have e2 : (sure.toList != sure.toList) = false := by simp
        have b3 : (0 : Int) ≤ (is.size : Int) := by omega
        have b4 : (0 : Int) ≤ (sure.size : Int) := by omega
        obtain ⟨y0, y1, -, -⟩ := two ((hW.out.block w.heap.size (some_lt k3H.out)).trans k3H.out)
        have hjtH := Lib.hid hjt
        have dj : decide ((j : Int) < (ns.length : Int)) = true := decide_eq_true (by omega)
        have dj2 : decide (j < ns.length) = true := decide_eq_true hjt
        clear hx hjt r1 r2 r3 r4 his hsure hz1 hz2 hsm hmw
        go_upto_region 10 with (go_at_call 10; ((with_reducible refine (hRd.out _ (Below.refl _ _)).mono ?_); rintro e' w9 ⟨rfl, bb9⟩))
        obtain ⟨z0, z1, -, -⟩ := two (((hW.out.trans (bb9.mono hW.out.size)).block gc (some_lt kcH.out)).trans kcH.out)
        go_upto_region 11 with (go_at_call 10; ((with_reducible refine (hRc.out _ bb9).mono ?_); rintro e' w10 ⟨rfl, bb10⟩))
        have bb10' := bb9.trans (bb10.mono bb9.size)
        have hW10 := hW.out.trans (bb10'.mono hW.out.size)
        clear y0 y1 z0 z1
        obtain ⟨y0, y1, -, -⟩ := two ((hW10.block w.heap.size (some_lt k3H.out)).trans k3H.out)
        go_upto_region 12 with (go_at_call 14; ((with_reducible refine (hSd.out _ bb10').mono ?_); rintro e' w11 ⟨rfl, bb11⟩))
        have bb11' := bb10'.trans (bb11.mono bb10'.size)
        obtain ⟨z0, z1, -, -⟩ := two (((hW.out.trans (bb11'.mono hW.out.size)).block gc (some_lt kcH.out)).trans kcH.out)
        have bb11H := Lib.hid bb11'
        clear y0 y1 bb9 bb10 bb10' hW10 bb11 bb11' hc
        go_wp2_with (go_at_call 14; ((with_reducible refine (hSc.out _ bb11H.out).mono ?_); rintro e' w12 ⟨rfl, bb12⟩))
        go_roundw
        case rel => exact ⟨j + 1, by go_num, by have := hjtH.out; omega, Lib.hid (hbq.out.trans ((bb11H.out.trans (bb12.mono bb11H.out.size)).mono hbq.out.size))⟩
        case measure => have := hjtH.out; simp [intOf]; omega
      · have dj : decide ((j : Int) < (ns.length : Int)) = false := decide_eq_false (by omega)
        have dj2 : decide (j < ns.length) = false := decide_eq_false hjt
        clear hjt
        go_wp2_with (go_at_call 7; ((with_reducible refine (hAl.out _).mono ?_); rintro r w2 ⟨rfl, hb2⟩))
        go_ret
        have hW := hb7.out.trans (hbq.out.mono hb7.out.size)
        exact ⟨rfl, hb3H.out.trans ((hW.trans (hb2.mono hW.size)).mono hb3H.out.size)⟩
end Go.Proofs.Ythdgfchmglkpaaa

/-
  Proved: DiskSafe returns true, whatever its arguments; each argument reads behind the call as it read before. No condition.
-/
namespace Go.Proofs.Ythdgfchmglkpaaa.diskSafe
open Go.ChangeShapes Go.WideShapes Go.ChangeAt Go.RowKit
open Go.ChangeMaps (open_string shut_string)
set_option maxRecDepth 100000 in
theorem contract (H : Type) (enc : TypeId × Value → H) (W : World) (base : Nat) (args : Array Value) (ds gs : List (DataW H)) (before : List MemPlace)
    (hval : ∀ (j : Nat) t v, Try.f4.params[j]? = some t → args[j]? = some v → Value.okWide Try.prog W .any base t v)
    (hW : DataW.Whole enc Try.prog Try.f4.params.toList Rows.diskSafeSpec.vars false W args.toList ds gs before)
    (hz : (DataW.weightsEach Try.prog (Try.f4.params.toList ++ (OpenSpec.ofChange Rows.diskSafeSpec).bare.plain.varTypes Try.prog) (ds ++ gs)).all (· ≤ reachBytes) = true) :
    Calls Try.prog 4 args W fun e W' => ∃ v, e = .returned v ∧ Rows.diskSafeSpec.post enc Try.prog Try.f4 false true false false W args v W' := by
  have hW' := hW
  obtain ⟨p, q, hA0, hV, rfl, hfz, hnd⟩ := hW
  have hA : DataW.TrodAll enc Try.prog W 0 (fun _ => true) true Try.f4.params.toList args.toList ds p := hA0
  rw [Try.params4] at hA hval hz
  obtain ⟨v0, vs0, d0, ds0, p0, q0, hargs, rfl, rfl, t0, r0⟩ := trodAll_cons hA
  obtain ⟨v1, vs1, d1, ds1, p1, q1, rfl, rfl, rfl, t1, r1⟩ := trodAll_cons r0
  obtain ⟨rfl, rfl, rfl⟩ := trodAll_nil r1
  obtain rfl : args = #[v0, v1] := by cases args; simp_all
  obtain ⟨rfl, rfl⟩ := trodVars_none hV
  obtain ⟨cs0, rfl, _⟩ := okWide_struct Try.underlying25 (hval 0 25 v0 rfl rfl)
  have t0k := t0
  obtain ⟨fuel0, hf0⟩ := t0
  have hw0 : ∀ n ∈ d0.weights Try.prog 25, n ≤ reachBytes := fun n hn => by
    have := List.all_eq_true.1 hz n (DataW.weights_mem_each (j := 0) (t := 25) (d := d0) rfl rfl n hn)
    simpa using this
  obtain ⟨D0, A0, B0, c0, e0, rfl, hA0, hB0, hdl0, hds0⟩ := disk_value hf0 hw0
  obtain ⟨a1, len1, cap1, rfl⟩ := okWide_slice Try.underlying47 (hval 1 47 v1 rfl rfl)
  have t1k := t1
  obtain ⟨fuel1, hf1⟩ := t1
  have hw1 : ∀ n ∈ d1.weights Try.prog 47, n ≤ reachBytes := fun n hn => by
    have := List.all_eq_true.1 hz n (DataW.weights_mem_each (j := 1) (t := 47) (d := d1) rfl rfl n hn)
    simpa using this
  clear hA0
  simp only [List.append_nil] at hW'
  have hltA : ∀ x ∈ p0 ++ p1, x.block < W.heap.size := fun x hx => by have := hW'.lt x hx; simpa using this
  have hlt0 : ∀ x ∈ p0, x.block < W.heap.size := fun x hx => hltA x (by simp [hx])
  have hlt1 : ∀ x ∈ p1, x.block < W.heap.size := fun x hx => hltA x (by simp [hx])
  have walk : Calls Try.prog 4 #[.agg #[.slice A0 D0.1.length c0, .slice B0 D0.2.length e0], .slice a1 len1 cap1] W fun e w' => e = .returned (.bool true) ∧ Below W.heap.size W w' := by
    obtain ⟨L1, A1, C1, hv1, hops1, hrg1, hll1, -⟩ := keeps_read (v := .slice a1 len1 cap1) hf1 hw1
    rw [hv1]
    exact safe_any hA0 hB0 hdl0 hds0 hops1 hll1 (fun p hp => (hrg1 p hp).1) (fun p hp => (hrg1 p hp).2)
  refine walk.mono fun e W' ⟨he, hb⟩ => ?_
  subst he
  refine ⟨_, rfl, ⟨_, _, _, [] ++ [], p0 ++ p1, [], hW', ?_, ?_, rfl, hb.frame _, fun h => by cases h⟩⟩
  · exact trodAll_cons_mk (shut_bool Try.underlying4 _) trodAll_mk0
  · have h := trodAll_cons_mk (Below.trod laidOut (by kernel_rfl) (of_decide_eq_true (by kernel_rfl)) t0k hb hlt0) (trodAll_cons_mk (Below.trod laidOut (by kernel_rfl) (of_decide_eq_true (by kernel_rfl)) t1k hb hlt1) trodAll_mk0)
    simp only [List.append_nil] at h
    exact h
theorem reads (os : Os) {H : Type} (enc : TypeId × Value → H) : ∃ places, DataW.whole enc Try.prog ((World.doorLaid Try.prog 400 os).forCall (fun _ _ => 0) ⟨#[], #[Value.agg #[Value.slice none 0 0, Value.slice none 0 0], Value.slice none 0 0], []⟩).memory Try.f4.params.toList Rows.diskSafeSpec.vars false (#[Value.agg #[Value.slice none 0 0, Value.slice none 0 0], Value.slice none 0 0] : Array Value).toList 8 = some ([.agg [.nil, .nil], .nil], [], places) :=
  ⟨[], by kernel_rfl⟩
set_option maxRecDepth 100000 in
theorem lifted (os : Os) (started : os.Started) (H : Type) (enc : TypeId × Value → H) (F : Stop.Interp) :
    ReturnsInHanded {} Try.checked os 4 .any ((OpenSpec.ofChange Rows.diskSafeSpec).preRow enc Try.prog Try.f4 Rows.diskSafeRow.domain false Rows.diskSafeRow.laid) (((OpenSpec.ofChange Rows.diskSafeSpec).at F).post enc Try.prog Try.f4 false true false false) := by
  obtain ⟨places, hx⟩ := reads os enc
  refine returnsInHanded_of_row (C := Try.checked) (s := OpenSpec.ofChange Rows.diskSafeSpec) own_knob started (by kernel_rfl) Try.func4
    (witness_row_at (enc := enc) (C := Try.checked) false (World.doorLaid Try.prog 400 os) #[Value.agg #[Value.slice none 0 0, Value.slice none 0 0], Value.slice none 0 0] rfl (by kernel_rfl) (by kernel_rfl) (by kernel_rfl)
      (OpenSpec.preRow_of_cond 8 hx (by kernel_rfl) (fun k hk => by cases hk) (by kernel_rfl) (laid_met os _))) ?_
  intro W base args ds gs before hval hW _ _ hz hL _ _
  exact contract H enc W base args ds gs before hval hW hz
theorem said : Rows.DiskSafeSaid :=
  OpenClaim.holds_of_cond 4 Try.f4 rfl rfl rfl rfl rfl rfl rfl ⟨rfl, rfl, rfl, rfl, rfl⟩ rfl rfl rfl rfl rfl (by kernel_rfl) Try.func4 (by kernel_rfl)
    (of_decide_eq_true (by kernel_rfl)) (by unfold Func.isWrapper; first | (rw [if_pos (by decide +kernel)]; kernel_rfl) | (rw [if_neg (by decide +kernel)]; exact ⟨rfl, rfl⟩))
    (fun os started H enc _ F => by rw [OpenClaim.pre_eq_preRow]; exact lifted os started H enc F)
end Go.Proofs.Ythdgfchmglkpaaa.diskSafe
