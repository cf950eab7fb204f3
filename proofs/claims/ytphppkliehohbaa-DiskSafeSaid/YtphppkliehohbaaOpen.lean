/-
  How disks, rows of keeps and of ops that are handed over are opened: what is read of them. No condition.
-/
import Derived.Test.YtphppkliehohbaaChecked
import Derived.Test.YtphppkliehohbaaRows
import Derived.Test.YtphppkliehohbaaMath
import Derived.Test.YtphppkliehohbaaA
import Derived.Test.YtphppkliehohbaaB
import Derived.Test.YtphppkliehohbaaF
import Derived.Test.YtphppkliehohbaaK
import Derived.WalkKit
import Derived.WalkSpells
import Derived.WalkLawsBesides
import Derived.Deep.QuietTactic
import Derived.BigQuiet
import Derived.Lib.Hide
import Derived.Lib.SmallJoins
import Derived.Outline
import Derived.OwnWalk
import Derived.ProofKit
import Derived.OpenShut
import Derived.Deep.DeepHandedRow
import Derived.Lib.LaidTab
import Derived.LaidMore
import Derived.Deep.Slices
import Derived.Carry
import Derived.Deep.CutBlock
import Derived.BigRegion
import Derived.StillTailTactics
import Derived.Laws.AppendOwnNone
import Derived.Maps.AppendAt
import Derived.Deep.RegionLaw
import Derived.Deep.RegionHeld3
import Derived.Lib.BufferRead
import Derived.Deep.AppendLies
namespace Go.Proofs.Ytphppkliehohbaa
open Go.RowKit Go.ChangeShapes Go.WideShapes Go.Deep
set_option maxRecDepth 100000
theorem cellsInt : Try.prog.cellsOf 3 = 1 := by kernel_rfl
theorem cellsStr : Try.prog.cellsOf 9 = 1 := by kernel_rfl
theorem cellsFile : Try.prog.cellsOf 46 = 3 := by kernel_rfl
theorem bytesFile : Try.prog.bytesOf 46 = 40 := by kernel_rfl
theorem cellsFault : Try.prog.cellsOf 60 = 3 := by kernel_rfl
theorem bytesFault : Try.prog.bytesOf 60 = 32 := by kernel_rfl
theorem cellsKeep : Try.prog.cellsOf 51 = 2 := by kernel_rfl
theorem bytesKeep : Try.prog.bytesOf 51 = 24 := by kernel_rfl
theorem cellsDisk : Try.prog.cellsOf 25 = 2 := by kernel_rfl
theorem cellsFiles : Try.prog.cellsOf 22 = 1 := by kernel_rfl
theorem cellsFaults : Try.prog.cellsOf 23 = 1 := by kernel_rfl
def inI64 (n : Int) : Prop := -9223372036854775808 ≤ n ∧ n ≤ 9223372036854775807
theorem wf64 {n : Int} (h : (Lit.int .i64 n).wf = true) : inI64 n := by
  simp [Lit.wf, IntKind.min, IntKind.max, IntKind.signed, IntKind.bits] at h
  unfold inI64
  omega
theorem add_far {p : Addr} {j : Nat} (hj : 0 < j) : p.add j = ⟨p.block, p.off + j, none⟩ := by unfold Addr.add; rw [if_neg (by omega)]
theorem list_of {α : Type} {Q : Nat → α → Prop} : ∀ (n : Nat), (∀ i, i < n → ∃ y, Q i y) → ∃ l : List α, l.length = n ∧ ∀ i y, l[i]? = some y → Q i y
  | 0, _ => ⟨[], rfl, fun i y h => by simp at h⟩
  | n + 1, h => by
    obtain ⟨l, hl, hq⟩ := list_of n fun i hi => h i (by omega)
    obtain ⟨y, hy⟩ := h n (by omega)
    refine ⟨l ++ [y], by simp [hl], fun i z hz => ?_⟩
    by_cases hi : i < n
    · rw [List.getElem?_append_left (by omega)] at hz
      exact hq i z hz
    · rw [List.getElem?_append_right (by omega), hl] at hz
      have hin : i = n := by
        rcases Nat.lt_or_ge n i with hlt | hge
        · rw [List.getElem?_eq_none (by simp; omega)] at hz; cases hz
        · omega
      subst hin
      simp at hz
      subst hz
      exact hy
/-- A row whose elements have so many cells each. -/
theorem rowN_of {H α : Type} {enc : TypeId × Value → H} {W : World} {t e : TypeId} {N : Nat} {Q : Addr → α → Prop} (ht : Try.prog.underlying t = some (.slice e)) (hc : Try.prog.cellsOf e = N) (hb : 16 ≤ Try.prog.bytesOf e)
    (each : ∀ (fuel : Nat) (a : Addr) (cs : List Value) (y : DataW H × List MemPlace), W.cells? 0 a N = some cs → DataW.trod enc Try.prog W 0 (fun _ => true) true fuel e cs = some y → ∃ z, Q a z)
    {v : Value} {fuel : Nat} {x : DataW H × List MemPlace} (h : DataW.trod enc Try.prog W 0 (fun _ => true) true fuel t [v] = some x) (hw : ∀ n ∈ x.1.weights Try.prog t, n ≤ reachBytes) :
    ∃ (l : List α) (A : Option Addr) (c : Nat), v = .slice A l.length c ∧ (∀ i z, l[i]? = some z → ∃ a, A = some a ∧ Q (a.add (i * N)) z) ∧ l.length ≤ 140737488355328 ∧ (A = none → c = 0) := by
  rcases open_slice ht h with ⟨hcs, hx⟩ | ⟨a, len, cap, m, n, D, Pl, hcs, _, hl, hm, hs, hx, he⟩
  · simp at hcs
    exact ⟨[], none, 0, hcs, fun i z h => by simp at h, Nat.zero_le _, fun _ => rfl⟩
  · simp at hcs
    subst hcs
    simp only [if_true] at hs
    rw [hc] at he
    have hx1 : x.1 = .slice ((List.range len).map D) ((List.range (m - len)).map fun j => D (len + j)) := congrArg Prod.fst hx
    rw [hx1] at hw
    have hwl := hw ((((List.range len).map D).length + ((List.range (m - len)).map fun j => D (len + j)).length) * Try.prog.bytesOf e) (by simp [DataW.weights, ht])
    have hll : len ≤ 140737488355328 := by
      simp only [List.length_map, List.length_range] at hwl
      unfold reachBytes at hwl
      have h1 : len * 16 ≤ (len + (m - len)) * Try.prog.bytesOf e := Nat.mul_le_mul (by omega) hb
      omega
    obtain ⟨l, hlen, hq⟩ := list_of (Q := fun i z => Q (a.add (i * N)) z) len (fun i hi => by
      obtain ⟨cs, h3, h4⟩ := he i (by omega)
      exact each _ _ _ _ h3 h4)
    exact ⟨l, some a, cap, by rw [hlen], fun i z hz => ⟨a, rfl, hq i z hz⟩, by rw [hlen]; exact hll, fun e => by cases e⟩
theorem file_at {H : Type} {enc : TypeId × Value → H} {W : World} (fuel : Nat) (a : Addr) (cs : List Value) (x : DataW H × List MemPlace) (hc : W.cells? 0 a 3 = some cs) (h : DataW.trod enc Try.prog W 0 (fun _ => true) true fuel 46 cs = some x) :
    ∃ f : Fl, a.block < W.heap.size ∧ W.cell? a = some (.string f.1) ∧ W.cell? ⟨a.block, a.off + 1, none⟩ = some (.string f.2.1) ∧ W.cell? ⟨a.block, a.off + 2, none⟩ = some (.int .i64 f.2.2) ∧ f.1.size ≤ maxLen ∧ f.2.1.size ≤ maxLen := by
  obtain ⟨xs, m, hm, rfl, hl, hlen, hf⟩ := DataW.trod_struct Try.underlying46 h
  rw [cellsFile] at hl
  match cs, hl with
  | [c0, c1, c2], _ =>
  match xs, hlen with
  | [y0, y1, y2], _ =>
  have g0 : DataW.trod enc Try.prog W 0 (fun _ => true) true m 9 [c0] = some y0 := by simpa [cellsStr] using hf 0 _ rfl
  have g1 : DataW.trod enc Try.prog W 0 (fun _ => true) true m 9 [c1] = some y1 := by simpa [cellsStr] using hf 1 _ rfl
  have g2 : DataW.trod enc Try.prog W 0 (fun _ => true) true m 3 [c2] = some y2 := by simpa [cellsInt] using hf 2 _ rfl
  clear hf h
  obtain ⟨b, b1, rfl, b3⟩ := DataW.trod_string Try.underlying9 g0
  obtain ⟨s, s1, rfl, s3⟩ := DataW.trod_string Try.underlying9 g1
  obtain ⟨i, i1, rfl, i3⟩ := DataW.trod_int Try.underlying3 g2
  simp only [List.cons.injEq, and_true] at b1 s1 i1
  subst b1 s1 i1
  obtain ⟨_, _, h7⟩ := World.cells?_some hc
  have z0 : W.cell? a = some (.string b) := by simpa [Addr.add] using h7 0 (by omega)
  have z1 := h7 1 (by omega)
  have z2 := h7 2 (by omega)
  rw [add_far (by omega)] at z1 z2
  exact ⟨(b, s, i), block_lt_of_cell z0, z0, z1, z2, b3, s3⟩
theorem fault_at {H : Type} {enc : TypeId × Value → H} {W : World} (fuel : Nat) (a : Addr) (cs : List Value) (x : DataW H × List MemPlace) (hc : W.cells? 0 a 3 = some cs) (h : DataW.trod enc Try.prog W 0 (fun _ => true) true fuel 60 cs = some x) :
    ∃ f : Ft, a.block < W.heap.size ∧ W.cell? a = some (.string f.1) ∧ W.cell? ⟨a.block, a.off + 1, none⟩ = some (.int .i64 f.2.1) ∧ W.cell? ⟨a.block, a.off + 2, none⟩ = some (.int .i64 f.2.2) := by
  obtain ⟨xs, m, hm, rfl, hl, hlen, hf⟩ := DataW.trod_struct Try.underlying60 h
  rw [cellsFault] at hl
  match cs, hl with
  | [c0, c1, c2], _ =>
  match xs, hlen with
  | [y0, y1, y2], _ =>
  have g0 : DataW.trod enc Try.prog W 0 (fun _ => true) true m 9 [c0] = some y0 := by simpa [cellsStr] using hf 0 _ rfl
  have g1 : DataW.trod enc Try.prog W 0 (fun _ => true) true m 3 [c1] = some y1 := by simpa [cellsInt] using hf 1 _ rfl
  have g2 : DataW.trod enc Try.prog W 0 (fun _ => true) true m 3 [c2] = some y2 := by simpa [cellsInt] using hf 2 _ rfl
  clear hf h
  obtain ⟨b, b1, rfl, b3⟩ := DataW.trod_string Try.underlying9 g0
  obtain ⟨s, s1, rfl, s3⟩ := DataW.trod_int Try.underlying3 g1
  obtain ⟨i, i1, rfl, i3⟩ := DataW.trod_int Try.underlying3 g2
  simp only [List.cons.injEq, and_true] at b1 s1 i1
  subst b1 s1 i1
  obtain ⟨_, _, h7⟩ := World.cells?_some hc
  have z0 : W.cell? a = some (.string b) := by simpa [Addr.add] using h7 0 (by omega)
  have z1 := h7 1 (by omega)
  have z2 := h7 2 (by omega)
  rw [add_far (by omega)] at z1 z2
  exact ⟨(b, s, i), block_lt_of_cell z0, z0, z1, z2⟩
theorem keep_at {H : Type} {enc : TypeId × Value → H} {W : World} (fuel : Nat) (a : Addr) (cs : List Value) (x : DataW H × List MemPlace) (hc : W.cells? 0 a 2 = some cs) (h : DataW.trod enc Try.prog W 0 (fun _ => true) true fuel 51 cs = some x) :
    ∃ f : Kp, a.block < W.heap.size ∧ W.cell? a = some (.string f.1) ∧ W.cell? ⟨a.block, a.off + 1, none⟩ = some (.int .i64 f.2) ∧ inI64 f.2 ∧ f.1.size ≤ maxLen := by
  obtain ⟨xs, m, hm, rfl, hl, hlen, hf⟩ := DataW.trod_struct Try.underlying51 h
  rw [cellsKeep] at hl
  match cs, hl with
  | [c0, c1], _ =>
  match xs, hlen with
  | [y0, y1], _ =>
  have g0 : DataW.trod enc Try.prog W 0 (fun _ => true) true m 9 [c0] = some y0 := by simpa [cellsStr] using hf 0 _ rfl
  have g1 : DataW.trod enc Try.prog W 0 (fun _ => true) true m 3 [c1] = some y1 := by simpa [cellsInt] using hf 1 _ rfl
  clear hf h
  obtain ⟨b, b1, rfl, b3⟩ := DataW.trod_string Try.underlying9 g0
  obtain ⟨s, s1, rfl, s3⟩ := DataW.trod_int Try.underlying3 g1
  simp only [List.cons.injEq, and_true] at b1 s1
  subst b1 s1
  obtain ⟨_, _, h7⟩ := World.cells?_some hc
  have z0 : W.cell? a = some (.string b) := by simpa [Addr.add] using h7 0 (by omega)
  have z1 := h7 1 (by omega)
  rw [add_far (by omega)] at z1
  exact ⟨(b, s), block_lt_of_cell z0, z0, z1, wf64 s3, b3⟩
theorem files_read {H : Type} {enc : TypeId × Value → H} {W : World} {v : Value} {fuel : Nat} {x : DataW H × List MemPlace} (h : DataW.trod enc Try.prog W 0 (fun _ => true) true fuel 22 [v] = some x) (hw : ∀ n ∈ x.1.weights Try.prog 22, n ≤ reachBytes) :
    ∃ (l : List Fl) (A : Option Addr) (c : Nat), v = .slice A l.length c ∧ FilesAt W A l ∧ (∀ f ∈ l, f.1.size ≤ maxLen ∧ f.2.1.size ≤ maxLen) ∧ l.length ≤ 140737488355328 := by
  obtain ⟨l, A, c, h1, h2, h3, _⟩ := rowN_of (N := 3) (Q := fun a (f : Fl) => a.block < W.heap.size ∧ W.cell? a = some (.string f.1) ∧ W.cell? ⟨a.block, a.off + 1, none⟩ = some (.string f.2.1) ∧ W.cell? ⟨a.block, a.off + 2, none⟩ = some (.int .i64 f.2.2) ∧ f.1.size ≤ maxLen ∧ f.2.1.size ≤ maxLen) Try.underlying22 cellsFile (by rw [bytesFile]; decide) (fun fuel a cs y hc h => file_at fuel a cs y hc h) h hw
  refine ⟨l, A, c, h1, fun i f hf => ?_, fun f hf => ?_, h3⟩
  · obtain ⟨a, k1, k2, k3, k4, k5, _⟩ := h2 i f hf
    rw [add_block] at k2
    exact ⟨a, k1, k2, k3, k4, k5⟩
  · obtain ⟨i, hi⟩ := List.getElem?_of_mem hf
    obtain ⟨a, k1, _, _, _, _, k6⟩ := h2 i f hi
    exact k6
theorem faults_read {H : Type} {enc : TypeId × Value → H} {W : World} {v : Value} {fuel : Nat} {x : DataW H × List MemPlace} (h : DataW.trod enc Try.prog W 0 (fun _ => true) true fuel 23 [v] = some x) (hw : ∀ n ∈ x.1.weights Try.prog 23, n ≤ reachBytes) :
    ∃ (l : List Ft) (A : Option Addr) (c : Nat), v = .slice A l.length c ∧ FaultsAt W A l := by
  obtain ⟨l, A, c, h1, h2, h3, _⟩ := rowN_of (N := 3) (Q := fun a (f : Ft) => a.block < W.heap.size ∧ W.cell? a = some (.string f.1) ∧ W.cell? ⟨a.block, a.off + 1, none⟩ = some (.int .i64 f.2.1) ∧ W.cell? ⟨a.block, a.off + 2, none⟩ = some (.int .i64 f.2.2)) Try.underlying23 cellsFault (by rw [bytesFault]; decide) (fun fuel a cs y hc h => fault_at fuel a cs y hc h) h hw
  refine ⟨l, A, c, h1, fun i f hf => ?_⟩
  obtain ⟨a, k1, k2, k3, k4, k5⟩ := h2 i f hf
  rw [add_block] at k2
  exact ⟨a, k1, k2, k3, k4, k5⟩
theorem keeps_read {H : Type} {enc : TypeId × Value → H} {W : World} {v : Value} {fuel : Nat} {x : DataW H × List MemPlace} (h : DataW.trod enc Try.prog W 0 (fun _ => true) true fuel 26 [v] = some x) (hw : ∀ n ∈ x.1.weights Try.prog 26, n ≤ reachBytes) :
    ∃ (l : List Kp) (A : Option Addr) (c : Nat), v = .slice A l.length c ∧ KeepsAt W A l ∧ (∀ f ∈ l, inI64 f.2 ∧ f.1.size ≤ maxLen) ∧ l.length ≤ 140737488355328 ∧ (A = none → c = 0) := by
  obtain ⟨l, A, c, h1, h2, h3, h4⟩ := rowN_of (N := 2) (Q := fun a (f : Kp) => a.block < W.heap.size ∧ W.cell? a = some (.string f.1) ∧ W.cell? ⟨a.block, a.off + 1, none⟩ = some (.int .i64 f.2) ∧ inI64 f.2 ∧ f.1.size ≤ maxLen) Try.underlying26 cellsKeep (by rw [bytesKeep]; decide) (fun fuel a cs y hc h => keep_at fuel a cs y hc h) h hw
  refine ⟨l, A, c, h1, fun i f hf => ?_, fun f hf => ?_, h3, h4⟩
  · obtain ⟨a, k1, k2, k3, k4, _⟩ := h2 i f hf
    rw [add_block] at k2
    exact ⟨a, k1, k2, k3, k4⟩
  · obtain ⟨i, hi⟩ := List.getElem?_of_mem hf
    obtain ⟨a, _, _, _, _, k5⟩ := h2 i f hi
    exact k5
set_option maxRecDepth 100000 in
theorem disk_value {H : Type} {enc : TypeId × Value → H} {W : World} {fuel : Nat} {cs : Array Value} {x : DataW H × List MemPlace} (h : DataW.trod enc Try.prog W 0 (fun _ => true) true fuel 25 cs.toList = some x) (hw : ∀ n ∈ x.1.weights Try.prog 25, n ≤ reachBytes) :
    ∃ (D : Dk) (A B : Option Addr) (c d : Nat), cs = #[.slice A D.1.length c, .slice B D.2.length d] ∧ FilesAt W A D.1 ∧ FaultsAt W B D.2 ∧ D.1.length ≤ 140737488355328 ∧ (∀ f ∈ D.1, f.1.size ≤ maxLen ∧ f.2.1.size ≤ maxLen) := by
  obtain ⟨cs⟩ := cs
  obtain ⟨xs, m, hm, hxe, hl, hlen, hf⟩ := DataW.trod_struct Try.underlying25 h
  rw [cellsDisk] at hl
  match cs, hl with
  | [c0, c1], _ =>
  match xs, hlen with
  | [y0, y1], _ =>
  have g0 : DataW.trod enc Try.prog W 0 (fun _ => true) true m 22 [c0] = some y0 := by simpa [cellsFiles] using hf 0 _ rfl
  have g1 : DataW.trod enc Try.prog W 0 (fun _ => true) true m 23 [c1] = some y1 := by simpa [cellsFiles, cellsFaults] using hf 1 _ rfl
  subst hxe
  obtain ⟨L, A, c, k1, k2, k3, k4⟩ := files_read g0 (fun n hn => hw n (by simp [DataW.weights, Try.underlying25, DataW.weightsEach, hn]))
  obtain ⟨T, B, d, j1, j2⟩ := faults_read g1 (fun n hn => hw n (by simp [DataW.weights, Try.underlying25, DataW.weightsEach, hn]))
  exact ⟨(L, T), A, B, c, d, by rw [k1, j1], k2, j2, k4, k3⟩
end Go.Proofs.Ytphppkliehohbaa
