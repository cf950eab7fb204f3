/-
  How a reply that is handed over is opened: what is read of it, as a reply that lies in memory. No condition.
-/
import Derived.Test.YtogbjhpkbdmllaaDoorFrame
import Derived.Lib.SmallJoins
namespace Go.Proofs.YtogbjhpkbdmllaaDoor
open Go.RowKit Rp

theorem cells24' : Tryd.prog.cellsOf 24 = 4 := by kernel_rfl
theorem bytes24 : Tryd.prog.bytesOf 24 = 56 := by kernel_rfl
theorem cells2 : Tryd.prog.cellsOf 2 = 1 := by kernel_rfl
theorem cells3 : Tryd.prog.cellsOf 3 = 1 := by kernel_rfl
theorem cells9 : Tryd.prog.cellsOf 9 = 1 := by kernel_rfl
theorem cells22 : Tryd.prog.cellsOf 22 = 1 := by kernel_rfl

theorem list_of {α : Type} {Q : Nat → α → Prop} : ∀ (n : Nat), (∀ i, i < n → ∃ y, Q i y) → ∃ l : List α, l.length = n ∧ ∀ i y, l[i]? = some y → Q i y
  | 0, _ => ⟨[], rfl, fun i y h => by simp at h⟩
  | n + 1, h => by
    obtain ⟨l, hl, hq⟩ := list_of n fun i hi => h i (by omega)
    obtain ⟨y, hy⟩ := h n (by omega)
    refine ⟨l ++ [y], by simp [hl], fun i z hz => ?_⟩
    by_cases hi : i < n
    · rw [List.getElem?_append_left (by omega)] at hz
      exact hq i z hz
    · rw [List.getElem?_append_right (by omega), hl] at hz
      have hin : i = n := by
        rcases Nat.lt_or_ge n i with hlt | hge
        · rw [List.getElem?_eq_none (by simp; omega)] at hz; cases hz
        · omega
      subst hin
      simp at hz
      subst hz
      exact hy
theorem weights_all {H : Type} {e : TypeId} : ∀ {l : List (DataW H)} {d : DataW H}, d ∈ l → ∀ n ∈ d.weights Tryd.prog e, n ∈ DataW.weightsAll Tryd.prog e l
  | x :: l, d, h, n, hn => by
    simp only [DataW.weightsAll, List.mem_append]
    rcases List.mem_cons.1 h with rfl | h
    · exact Or.inl hn
    · exact Or.inr (weights_all h n hn)


set_option maxRecDepth 100000 in
theorem wf64 {n : Int} (h : (Lit.int .i64 n).wf = true) : inI64 n := by
  simp [Lit.wf, IntKind.min, IntKind.max, IntKind.signed, IntKind.bits] at h
  unfold inI64
  omega
theorem add_four {p : Addr} {j : Nat} (hj : 0 < j) : p.add j = ⟨p.block, p.off + j, none⟩ := by unfold Addr.add; rw [if_neg (by omega)]

set_option maxRecDepth 100000 in
set_option maxHeartbeats 1000000 in
theorem reply_at {H : Type} {enc : TypeId × Value → H} {W : World} : ∀ (fuel : Nat) (cs : List Value) (x : DataW H × List MemPlace), DataW.trod enc Tryd.prog W 0 (fun _ => true) true fuel 24 cs = some x → (∀ n ∈ x.1.weights Tryd.prog 24, n ≤ reachBytes) →
    ∃ r : Rep fuel, RAt W (fun _ => True) fuel r cs ∧ Ok fuel r := by
  intro fuel
  induction fuel with
  | zero => intro cs x h; simp [DataW.trod] at h
  | succ n ih =>
    intro cs x h hw
    obtain ⟨xs, m, hm, rfl, hl, hlen, hf⟩ := DataW.trod_struct Tryd.underlying24 h
    obtain rfl : m = n := by omega
    rw [cells24'] at hl
    match cs, hl with
    | [c0, c1, c2, c3], _ =>
    match xs, hlen with
    | [y0, y1, y2, y3], _ =>
    have g0 : DataW.trod enc Tryd.prog W 0 (fun _ => true) true m 3 [c0] = some y0 := by simpa [cells3] using hf 0 _ rfl
    have g1 : DataW.trod enc Tryd.prog W 0 (fun _ => true) true m 2 [c1] = some y1 := by simpa [cells2] using hf 1 _ rfl
    have g2 : DataW.trod enc Tryd.prog W 0 (fun _ => true) true m 9 [c2] = some y2 := by simpa [cells9] using hf 2 _ rfl
    have g3 : DataW.trod enc Tryd.prog W 0 (fun _ => true) true m 22 [c3] = some y3 := by simpa [cells22] using hf 3 _ rfl
    clear hf h
    obtain ⟨kd, k1, rfl, k3⟩ := DataW.trod_int Tryd.underlying3 g0
    obtain ⟨nm, n1, rfl, n3⟩ := DataW.trod_int Tryd.underlying2 g1
    obtain ⟨b, b1, rfl, b3⟩ := DataW.trod_string Tryd.underlying9 g2
    simp only [List.cons.injEq, and_true] at k1 n1 b1
    subst k1 n1 b1
    have hw2 : ∀ n ∈ y3.1.weights Tryd.prog 22, n ≤ reachBytes := fun n hn => hw n (by simp [DataW.weights, Tryd.underlying24, DataW.weightsEach, hn])
    have hb : b.size ≤ reachBytes := by
      have := hw b.data.toList.length (by simp [DataW.weights, Tryd.underlying24, DataW.weightsEach])
      simpa using this
    have hb2 : b.size ≤ 140737488355328 := by unfold reachBytes at hb; omega
    clear hw
    rcases DataW.trod_slice Tryd.underlying22 g3 with ⟨h1, rfl⟩ | ⟨a, len, cap, elems, rest, q, hq, h1, rfl, _, hlc, _, hel, he, _, _⟩
    · simp only [List.cons.injEq, and_true] at h1
      subst h1
      exact ⟨(⟨kd, nm, b.data.toList, []⟩ : RNode (Rep m)), ⟨b, none, 0, rfl, rfl, wf64 k3, wf64 n3, hb2, Nat.zero_le _, fun i y hy => by simp at hy⟩, wf64 n3, by simpa using hb2, fun y hy => by simp at hy⟩
    · simp only [List.cons.injEq, and_true] at h1
      subst h1 hq
      rw [cells24'] at he
      have hlen2 : len ≤ 140737488355328 := by
        have := hw2 (((elems.map (·.1)).length + (rest.map (·.1)).length) * Tryd.prog.bytesOf 24) (by simp [DataW.weights, Tryd.underlying22])
        rw [bytes24] at this
        simp only [List.length_map] at this
        unfold reachBytes at this
        omega
      obtain ⟨l, hll, hlq⟩ := list_of (Q := fun i (y : Rep (q + 1)) => ∃ cs, W.cells? 0 (a.add (i * 4)) 4 = some cs ∧ RAt W (fun _ => True) (q + 1) y cs ∧ Ok (q + 1) y) len fun i hi => by
        have h2 := he i hi
        rw [List.getElem?_eq_getElem (by omega)] at h2
        obtain ⟨cs, h3, h4⟩ := Option.bind_eq_some_iff.1 h2
        obtain ⟨r, h5, h6⟩ := ih cs elems[i] (DataW.trod_succ _ _ _ _ h4) fun n hn => hw2 n (by
          simp only [DataW.weights, Tryd.underlying22, List.mem_cons, List.mem_append]
          exact Or.inr (Or.inl (weights_all (List.mem_map.2 ⟨elems[i], List.getElem_mem _, rfl⟩) n hn)))
        exact ⟨r, cs, h3, h5, h6⟩
      refine ⟨(⟨kd, nm, b.data.toList, l⟩ : RNode (Rep (q + 1))), ⟨b, some a, cap, by rw [hll], rfl, wf64 k3, wf64 n3, hb2, by rw [hll]; exact hlen2, fun i y hy => ?_⟩, wf64 n3, by simpa using hb2, fun y hy => ?_⟩
      · obtain ⟨cs, h3, h5, _⟩ := hlq i y hy
        obtain ⟨_, h6, h7⟩ := World.cells?_some h3
        match cs, h6 with
        | [e0, e1, e2, e3], _ =>
        have z0 : W.cell? (a.add (i * 4)) = some e0 := by simpa [Addr.add] using h7 0 (by omega)
        have z1 := h7 1 (by omega)
        have z2 := h7 2 (by omega)
        have z3 := h7 3 (by omega)
        rw [add_four (by omega)] at z1 z2 z3
        refine ⟨a, e0, e1, e2, e3, rfl, trivial, ?_, z0, z1, z2, z3, h5⟩
        have := block_lt_of_cell z0
        rwa [block_of_add] at this
      · obtain ⟨i, hi⟩ := List.getElem?_of_mem hy
        obtain ⟨_, _, _, h6⟩ := hlq i y hi
        exact h6

end Go.Proofs.YtogbjhpkbdmllaaDoor
