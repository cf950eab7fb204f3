/-
  How calls, rows of calls and rows of pairs that are handed over are opened: what is read of them. No condition.
-/
import Derived.Test.YtijfipghoilpeaaDoorFrame
import Derived.Test.YtijfipghoilpeaaDoorS
namespace Go.Proofs.YtijfipghoilpeaaDoor
open Go.RowKit Go.ChangeShapes Go.WideShapes Go.Deep

def inI64 (n : Int) : Prop := -9223372036854775808 ≤ n ∧ n ≤ 9223372036854775807
theorem cellsOp : Tryd.prog.cellsOf 32 = 5 := by kernel_rfl
theorem bytesOp : Tryd.prog.bytesOf 32 = 48 := by kernel_rfl
theorem cellsSc : Tryd.prog.cellsOf 30 = 2 := by kernel_rfl
theorem bytesSc : Tryd.prog.bytesOf 30 = 24 := by kernel_rfl
theorem cellsInt : Tryd.prog.cellsOf 3 = 1 := by kernel_rfl
theorem cellsInt64 : Tryd.prog.cellsOf 2 = 1 := by kernel_rfl
theorem cellsBool : Tryd.prog.cellsOf 4 = 1 := by kernel_rfl
theorem cellsStr : Tryd.prog.cellsOf 9 = 1 := by kernel_rfl
theorem list_of {α : Type} {Q : Nat → α → Prop} : ∀ (n : Nat), (∀ i, i < n → ∃ y, Q i y) → ∃ l : List α, l.length = n ∧ ∀ i y, l[i]? = some y → Q i y
  | 0, _ => ⟨[], rfl, fun i y h => by simp at h⟩
  | n + 1, h => by
    obtain ⟨l, hl, hq⟩ := list_of n fun i hi => h i (by omega)
    obtain ⟨y, hy⟩ := h n (by omega)
    refine ⟨l ++ [y], by simp [hl], fun i z hz => ?_⟩
    by_cases hi : i < n
    · rw [List.getElem?_append_left (by omega)] at hz
      exact hq i z hz
    · rw [List.getElem?_append_right (by omega), hl] at hz
      have hin : i = n := by
        rcases Nat.lt_or_ge n i with hlt | hge
        · rw [List.getElem?_eq_none (by simp; omega)] at hz; cases hz
        · omega
      subst hin
      simp at hz
      subst hz
      exact hy
set_option maxRecDepth 100000 in
theorem wf64 {n : Int} (h : (Lit.int .i64 n).wf = true) : inI64 n := by
  simp [Lit.wf, IntKind.min, IntKind.max, IntKind.signed, IntKind.bits] at h
  unfold inI64
  omega
set_option maxRecDepth 100000 in
theorem wfU {n : Int} (h : (Lit.int .u64 n).wf = true) : U n := by
  simp [Lit.wf, IntKind.min, IntKind.max, IntKind.signed, IntKind.bits] at h
  unfold U
  omega
theorem add_far {p : Addr} {j : Nat} (hj : 0 < j) : p.add j = ⟨p.block, p.off + j, none⟩ := by unfold Addr.add; rw [if_neg (by omega)]
/-- What a pair's cells hold. -/
theorem sc_of {H : Type} {enc : TypeId × Value → H} {W : World} {fuel : Nat} {cs : List Value} {x : DataW H × List MemPlace} (h : DataW.trod enc Tryd.prog W 0 (fun _ => true) true fuel 30 cs = some x) :
    ∃ y : Sc, cs = [.string y.1, .int .i64 y.2] ∧ x.2 = [] ∧ y.1.size ≤ maxLen ∧ inI64 y.2 := by
  obtain ⟨xs, m, hm, rfl, hl, hlen, hf⟩ := DataW.trod_struct Tryd.underlying30 h
  rw [cellsSc] at hl
  match cs, hl with
  | [c0, c1], _ =>
  match xs, hlen with
  | [y0, y1], _ =>
  have g0 : DataW.trod enc Tryd.prog W 0 (fun _ => true) true m 9 [c0] = some y0 := by simpa [cellsStr] using hf 0 _ rfl
  have g1 : DataW.trod enc Tryd.prog W 0 (fun _ => true) true m 2 [c1] = some y1 := by simpa [cellsInt64] using hf 1 _ rfl
  clear hf h
  obtain ⟨b, b1, rfl, b3⟩ := DataW.trod_string Tryd.underlying9 g0
  obtain ⟨kd, k1, rfl, k3⟩ := DataW.trod_int Tryd.underlying2 g1
  simp only [List.cons.injEq, and_true] at k1 b1
  subst k1 b1
  exact ⟨(b, kd), rfl, rfl, b3, wf64 k3⟩
/-- What a call's cells hold. -/
theorem op_of {H : Type} {enc : TypeId × Value → H} {W : World} {fuel : Nat} {cs : List Value} {x : DataW H × List MemPlace} (h : DataW.trod enc Tryd.prog W 0 (fun _ => true) true fuel 32 cs = some x) :
    ∃ o : OpT, cs = [.bool o.1, .string o.2.1.1, .int .i64 o.2.1.2, .int .i64 o.2.2.1, .int .i64 o.2.2.2] ∧ x.2 = [] ∧ o.2.1.1.size ≤ maxLen ∧ inI64 o.2.1.2 ∧ inI64 o.2.2.1 ∧ inI64 o.2.2.2 := by
  obtain ⟨xs, m, hm, rfl, hl, hlen, hf⟩ := DataW.trod_struct Tryd.underlying32 h
  rw [cellsOp] at hl
  match cs, hl with
  | [c0, c1, c2, c3, c4], _ =>
  match xs, hlen with
  | [y0, y1, y2, y3], _ =>
  have g0 : DataW.trod enc Tryd.prog W 0 (fun _ => true) true m 4 [c0] = some y0 := by simpa [cellsBool] using hf 0 _ rfl
  have g1 : DataW.trod enc Tryd.prog W 0 (fun _ => true) true m 30 [c1, c2] = some y1 := by simpa [cellsSc] using hf 1 _ rfl
  have g2 : DataW.trod enc Tryd.prog W 0 (fun _ => true) true m 3 [c3] = some y2 := by simpa [cellsInt] using hf 2 _ rfl
  have g3 : DataW.trod enc Tryd.prog W 0 (fun _ => true) true m 3 [c4] = some y3 := by simpa [cellsInt] using hf 3 _ rfl
  clear hf h
  obtain ⟨d, d1, rfl⟩ := DataW.trod_bool Tryd.underlying4 g0
  obtain ⟨y, s1, s2, s3, s4⟩ := sc_of g1
  obtain ⟨i, i1, rfl, i3⟩ := DataW.trod_int Tryd.underlying3 g2
  obtain ⟨j, j1, rfl, j3⟩ := DataW.trod_int Tryd.underlying3 g3
  simp only [List.cons.injEq, and_true] at d1 s1 i1 j1
  obtain ⟨s1, s5⟩ := s1
  subst d1 s1 s5 i1 j1
  exact ⟨(d, y, i, j), rfl, by simp [s2], s3, s4, wf64 i3, wf64 j3⟩
theorem op_at {H : Type} {enc : TypeId × Value → H} {W : World} {fuel : Nat} {a : Addr} {cs : List Value} {x : DataW H × List MemPlace} (hc : W.cells? 0 a 5 = some cs) (h : DataW.trod enc Tryd.prog W 0 (fun _ => true) true fuel 32 cs = some x) :
    ∃ o : OpT, a.block < W.heap.size ∧ W.cell? a = some (.bool o.1) ∧ W.cell? ⟨a.block, a.off + 1, none⟩ = some (.string o.2.1.1) ∧ W.cell? ⟨a.block, a.off + 2, none⟩ = some (.int .i64 o.2.1.2) ∧ W.cell? ⟨a.block, a.off + 3, none⟩ = some (.int .i64 o.2.2.1) ∧ W.cell? ⟨a.block, a.off + 4, none⟩ = some (.int .i64 o.2.2.2) ∧ o.2.1.1.size ≤ maxLen ∧ inI64 o.2.1.2 ∧ inI64 o.2.2.1 ∧ inI64 o.2.2.2 := by
  obtain ⟨o, rfl, _, k1, k2, k3, k4⟩ := op_of h
  obtain ⟨_, _, h7⟩ := World.cells?_some hc
  have z0 : W.cell? a = some (.bool o.1) := by simpa [Addr.add] using h7 0 (by omega)
  have z1 := h7 1 (by omega)
  have z2 := h7 2 (by omega)
  have z3 := h7 3 (by omega)
  have z4 := h7 4 (by omega)
  rw [add_far (by omega)] at z1 z2 z3 z4
  exact ⟨o, block_lt_of_cell z0, z0, z1, z2, z3, z4, k1, k2, k3, k4⟩
theorem ops_read {H : Type} {enc : TypeId × Value → H} {W : World} {v : Value} {fuel : Nat} {x : DataW H × List MemPlace} (h : DataW.trod enc Tryd.prog W 0 (fun _ => true) true fuel 23 [v] = some x) (hw : ∀ n ∈ x.1.weights Tryd.prog 23, n ≤ reachBytes) :
    ∃ (l : List OpT) (A : Option Addr) (c : Nat), v = .slice A l.length c ∧ OpsAt W W.heap.size A l ∧ (∀ o ∈ l, o.2.1.1.size ≤ maxLen ∧ inI64 o.2.1.2 ∧ inI64 o.2.2.1 ∧ inI64 o.2.2.2) ∧ l.length ≤ 140737488355328 := by
  rcases open_slice Tryd.underlying23 h with ⟨hcs, hx⟩ | ⟨a, len, cap, m, n, D, Pl, hcs, _, hl, hm, hs, hx, he⟩
  · simp at hcs
    exact ⟨[], none, 0, hcs, fun i x h => by simp at h, fun o h => by simp at h, by decide⟩
  · simp at hcs
    simp only [if_true] at hs
    rw [cellsOp] at he
    have hlen2 : len ≤ 140737488355328 := by
      have hx1 : x.1 = _ := congrArg Prod.fst hx
      rw [hx1] at hw
      have := hw ((((List.range len).map D).length + ((List.range (m - len)).map fun j => D (len + j)).length) * Tryd.prog.bytesOf 32) (by simp [DataW.weights, Tryd.underlying23])
      rw [bytesOp] at this
      simp only [List.length_map, List.length_range] at this
      unfold reachBytes at this
      omega
    obtain ⟨l, hll, hlq⟩ := list_of (Q := fun i (o : OpT) => a.block < W.heap.size ∧ W.cell? (a.add (i * 5)) = some (.bool o.1) ∧ W.cell? ⟨(a.add (i * 5)).block, (a.add (i * 5)).off + 1, none⟩ = some (.string o.2.1.1) ∧ W.cell? ⟨(a.add (i * 5)).block, (a.add (i * 5)).off + 2, none⟩ = some (.int .i64 o.2.1.2) ∧ W.cell? ⟨(a.add (i * 5)).block, (a.add (i * 5)).off + 3, none⟩ = some (.int .i64 o.2.2.1) ∧ W.cell? ⟨(a.add (i * 5)).block, (a.add (i * 5)).off + 4, none⟩ = some (.int .i64 o.2.2.2) ∧ o.2.1.1.size ≤ maxLen ∧ inI64 o.2.1.2 ∧ inI64 o.2.2.1 ∧ inI64 o.2.2.2) len fun i hi => by
      obtain ⟨cs, h3, h4⟩ := he i (by omega)
      obtain ⟨o, h5, h6⟩ := op_at h3 h4
      rw [add_block] at h5
      exact ⟨o, h5, h6⟩
    refine ⟨l, some a, cap, by rw [hll]; exact hcs, fun i o ho => ?_, fun o ho => ?_, by rw [hll]; exact hlen2⟩
    · obtain ⟨h5, h6, h7, h8, h9, h10, _⟩ := hlq i o ho
      exact ⟨a, rfl, h5, h6, h7, h8, h9, h10⟩
    · obtain ⟨i, hi⟩ := List.getElem?_of_mem ho
      exact (hlq i o hi).2.2.2.2.2.2
/-- Pairs that are handed over. -/
def ScsAt (w : World) (B : Nat) (A : Option Addr) (l : List Sc) : Prop := ∀ i x, l[i]? = some x → ∃ a, A = some a ∧ a.block < B ∧ w.cell? (a.add (i * 2)) = some (.string x.1) ∧ w.cell? ⟨(a.add (i * 2)).block, (a.add (i * 2)).off + 1, none⟩ = some (.int .i64 x.2)
theorem ScsAt.on {w w' : World} {A : Option Addr} {l : List Sc} {B : Nat} (h : ScsAt w B A l) (hb : Below B w w') : ScsAt w' B A l := by
  intro i x hx
  obtain ⟨a, rfl, h1, h2, h3⟩ := h i x hx
  have hab : ∀ j, (a.add j).block < B := fun j => by rw [add_block]; exact h1
  exact ⟨a, rfl, h1, (hb.cell (hab _)).trans h2, (hb.cell (p := ⟨(a.add (i * 2)).block, _, none⟩) (hab _)).trans h3⟩
theorem scs_read {H : Type} {enc : TypeId × Value → H} {W : World} {v : Value} {fuel : Nat} {x : DataW H × List MemPlace} (h : DataW.trod enc Tryd.prog W 0 (fun _ => true) true fuel 28 [v] = some x) (hw : ∀ n ∈ x.1.weights Tryd.prog 28, n ≤ reachBytes) :
    ∃ (l : List Sc) (A : Option Addr) (c : Nat), v = .slice A l.length c ∧ ScsAt W W.heap.size A l ∧ (∀ o ∈ l, o.1.size ≤ maxLen) ∧ l.length ≤ 140737488355328 := by
  rcases open_slice Tryd.underlying28 h with ⟨hcs, hx⟩ | ⟨a, len, cap, m, n, D, Pl, hcs, _, hl, hm, hs, hx, he⟩
  · simp at hcs
    exact ⟨[], none, 0, hcs, fun i x h => by simp at h, fun o h => by simp at h, by decide⟩
  · simp at hcs
    simp only [if_true] at hs
    rw [cellsSc] at he
    have hlen2 : len ≤ 140737488355328 := by
      have hx1 : x.1 = _ := congrArg Prod.fst hx
      rw [hx1] at hw
      have := hw ((((List.range len).map D).length + ((List.range (m - len)).map fun j => D (len + j)).length) * Tryd.prog.bytesOf 30) (by simp [DataW.weights, Tryd.underlying28])
      rw [bytesSc] at this
      simp only [List.length_map, List.length_range] at this
      unfold reachBytes at this
      omega
    obtain ⟨l, hll, hlq⟩ := list_of (Q := fun i (o : Sc) => a.block < W.heap.size ∧ W.cell? (a.add (i * 2)) = some (.string o.1) ∧ W.cell? ⟨(a.add (i * 2)).block, (a.add (i * 2)).off + 1, none⟩ = some (.int .i64 o.2) ∧ o.1.size ≤ maxLen) len fun i hi => by
      obtain ⟨cs, h3, h4⟩ := he i (by omega)
      obtain ⟨o, rfl, _, h5, _⟩ := sc_of h4
      obtain ⟨_, _, h7⟩ := World.cells?_some h3
      have z0 : W.cell? (a.add (i * 2)) = some (.string o.1) := by simpa [Addr.add] using h7 0 (by omega)
      have z1 := h7 1 (by omega)
      rw [add_far (by omega)] at z1
      have := block_lt_of_cell z0
      rw [add_block] at this
      exact ⟨o, this, z0, z1, h5⟩
    refine ⟨l, some a, cap, by rw [hll]; exact hcs, fun i o ho => ?_, fun o ho => ?_, by rw [hll]; exact hlen2⟩
    · obtain ⟨h5, h6, h7, _⟩ := hlq i o ho
      exact ⟨a, rfl, h5, h6, h7⟩
    · obtain ⟨i, hi⟩ := List.getElem?_of_mem ho
      exact (hlq i o hi).2.2.2
/-- A call by value. -/
theorem op_value {H : Type} {enc : TypeId × Value → H} {W : World} {r : Reach} {b : Nat} {v : Value} {d : DataW H} {p : List MemPlace} (hv : Value.okWide Tryd.prog W r b 32 v) (h : DataW.Trod enc Tryd.prog W 0 (fun _ => true) true 32 v d p) :
    ∃ o : OpT, v = .agg #[.bool o.1, .string o.2.1.1, .int .i64 o.2.1.2, .int .i64 o.2.2.1, .int .i64 o.2.2.2] ∧ p = [] ∧ o.2.1.1.size ≤ maxLen ∧ inI64 o.2.2.1 ∧ inI64 o.2.2.2 := by
  obtain ⟨cs, rfl, hsz⟩ := okWide_struct Tryd.underlying32 hv
  obtain ⟨fuel, hf⟩ := h
  obtain ⟨o, h1, h2, h3, _, h4, h5⟩ := op_of hf
  refine ⟨o, ?_, h2, h3, h4, h5⟩
  congr 1
  apply Array.toList_inj.1
  simpa [Value.cells] using h1
theorem okWide_arr {P : Program} {w : World} {r : Reach} {base n : Nat} {t e : TypeId} {v : Value} (ht : P.underlying t = some (.array n e)) (h : Value.okWide P w r base t v) : ∃ cs, v = .agg cs ∧ cs.size = P.cellsOf t := by
  simp only [Value.okWide, ht] at h
  obtain ⟨cs, h1, h2, _⟩ := h
  exact ⟨cs, h1, h2⟩
/-- Two seeds by value. -/
theorem seeds_value {H : Type} {enc : TypeId × Value → H} {W : World} {r : Reach} {b : Nat} {v : Value} {d : DataW H} {p : List MemPlace} (hv : Value.okWide Tryd.prog W r b 48 v) (h : DataW.Trod enc Tryd.prog W 0 (fun _ => true) true 48 v d p) :
    ∃ s0 s1 : Int, v = .agg #[.int .u64 s0, .int .u64 s1] ∧ p = [] ∧ U s0 ∧ U s1 := by
  obtain ⟨cs, rfl, hsz⟩ := okWide_arr Tryd.underlying48 hv
  obtain ⟨c0, c1, rfl⟩ := Go.Joins.array2 (hsz.trans cellsArr)
  obtain ⟨fuel, hf⟩ := h
  obtain ⟨xs, m, _, hx, _, hlen, he⟩ := DataW.trod_array Tryd.underlying48 hf
  rw [cellsU] at he
  match xs, hlen with
  | [y0, y1], _ =>
  have g0 : DataW.trod enc Tryd.prog W 0 (fun _ => true) true m 22 [c0] = some y0 := by simpa [Value.cells] using he 0 (by omega)
  have g1 : DataW.trod enc Tryd.prog W 0 (fun _ => true) true m 22 [c1] = some y1 := by simpa [Value.cells] using he 1 (by omega)
  obtain ⟨i, i1, rfl, i3⟩ := DataW.trod_int Tryd.underlying22 g0
  obtain ⟨j, j1, rfl, j3⟩ := DataW.trod_int Tryd.underlying22 g1
  simp only [List.cons.injEq, and_true] at i1 j1
  subst i1 j1
  refine ⟨i, j, rfl, ?_, wfU i3, wfU j3⟩
  simp only [Prod.mk.injEq] at hx
  rw [hx.2]
  simp
end Go.Proofs.YtijfipghoilpeaaDoor
