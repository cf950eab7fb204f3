/-
  The library's Delete of one place of a row of faults. Premise: the row lies in a block that is written in place.
-/
import Derived.Test.YthdgfchmglkpaaaChecked
import Derived.Test.YthdgfchmglkpaaaMath
import Derived.Test.YthdgfchmglkpaaaA
import Derived.Test.YthdgfchmglkpaaaB
import Derived.Test.YthdgfchmglkpaaaD
import Derived.Test.YthdgfchmglkpaaaE
import Derived.Test.YthdgfchmglkpaaaL
import Derived.Test.YthdgfchmglkpaaaN
import Derived.Test.YthdgfchmglkpaaaVS
import Derived.Test.YthdgfchmglkpaaaVK
import Derived.WalkKit
import Derived.WalkSpells
import Derived.WalkLawsBesides
import Derived.Deep.QuietTactic
import Derived.BigQuiet
import Derived.Lib.Hide
import Derived.Lib.SmallJoins
import Derived.Outline
import Derived.OwnWalk
import Derived.Deep.CutBlock
import Derived.BigRegion
import Derived.StillTailTactics
import Derived.Laws.AppendOwnNone
import Derived.Maps.AppendAt
import Derived.Deep.RegionLaw
import Derived.Deep.RegionHeld3
import Derived.Lib.BufferRead
import Derived.Deep.AppendLies
import Derived.Lib.SliceRun
import Derived.Laws.CopyOwn
namespace Go.Proofs.Ythdgfchmglkpaaa
open Go.RowKit
/-- Block g holds room for cap faults; the first of them are M. -/
def TRow (w : World) (g cap : Nat) (M : List Ft) : Prop := M.length ≤ cap ∧ ∃ C : Array Value, w.heap[g]? = some (.cells C 70 (0, 0)) ∧ C.size = cap * 3 ∧ C.toList.take (M.length * 3) = M.flatMap tcs
theorem RowT.form {w : World} {base : Nat} {v : Value} {L : List Ft} (h : RowT w base v L) : (v = .slice none 0 0 ∧ L = []) ∨ ∃ g cap, v = .slice (some ⟨g, 0, none⟩) L.length cap ∧ base ≤ g ∧ g < w.heap.size ∧ cap ≤ maxLen ∧ TRow w g cap L := by
  obtain ⟨_, ⟨h1, h2⟩ | ⟨g, cap, cur, rfl, h3, h4, h5, h6, h7, h8⟩⟩ := h
  · exact Or.inl ⟨h1, List.length_eq_zero_iff.1 h2⟩
  · exact Or.inr ⟨g, cap, rfl, h3, some_lt h4, h6, h5, cur, h4, h7, h8⟩
theorem TRow.row {w : World} {g cap base : Nat} {M : List Ft} (h : TRow w g cap M) (hb : base ≤ g) (hc : cap ≤ maxLen) : RowT w base (.slice (some ⟨g, 0, none⟩) M.length cap) M := by
  obtain ⟨h1, C, h2, h3, h4⟩ := h
  exact ⟨tcs_len M, Or.inr ⟨g, cap, C, rfl, hb, h2, h1, hc, h3, h4⟩⟩
theorem TRow.only {w w' : World} {g cap : Nat} {M : List Ft} {O : List Nat} (h : TRow w g cap M) (ho : Only O w w') (hn : g ∉ O) : TRow w' g cap M := by
  obtain ⟨h1, C, h2, h3, h4⟩ := h
  exact ⟨h1, C, ho.keep h2 hn, h3, h4⟩
theorem run_size3T (w : World) : (sizeOf (Try.prog.elem 23)).run Try.prog w = .ok 3 w := by
  obtain ⟨i, hi, _, hz, _⟩ := info_partsS info_fault
  have hel : Try.prog.elem 23 = 70 := by kernel_rfl
  rw [hel]
  simp [sizeOf, typeInfo, hi, hz, Result.andThen]
theorem cut_toT (g n cap k : Nat) (hk : k ≤ n) (hn : n ≤ cap) (w : World) : (Instr.slice 23 (.slice (some ⟨g, 0, none⟩) n cap) none (some (.int .i64 (k : Int))) none).run Try.prog w = .ok (.slice (some ⟨g, 0, none⟩) k cap) w := by
  rw [run_slice_h (P := Try.prog) w 23 (some ⟨g, 0, none⟩) n cap (by kernel_rfl) .i64 (k : Int) (by omega) (by omega), run_size3T]
  simp only [Int.toNat_natCast]
  show Result.ok (sliced (some ⟨g, 0, none⟩) 0 k cap 3) w = _
  unfold sliced
  split <;> simp [Addr.add]
theorem cut_threeT (g n cap k m : Nat) (hk : k ≤ m) (hm : m ≤ n) (hn : n ≤ cap) : ∃ S, ∀ w, (Instr.slice 23 (.slice (some ⟨g, 0, none⟩) n cap) (some (.int .i64 (k : Int))) (some (.int .i64 (m : Int))) (some (.int .i64 (n : Int)))).run Try.prog w = .ok S w := by
  refine ⟨sliced (some ⟨g, 0, none⟩) k m n 3, fun w => ?_⟩
  rw [run_slice_lhm (P := Try.prog) w 23 (some ⟨g, 0, none⟩) n cap (by kernel_rfl) .i64 .i64 .i64 (k : Int) (m : Int) (n : Int) (by omega) (by omega) (by omega) (by omega), run_size3T]
  simp only [Int.toNat_natCast]
  rfl
theorem cut_lastT (g k n cap : Nat) (hk : n = k + 1) (hn : n ≤ cap) (w : World) : (Instr.slice 23 (.slice (some ⟨g, 0, none⟩) k cap) (some (.int .i64 (k : Int))) (some (.int .i64 (n : Int))) none).run Try.prog w = .ok (.slice (some ⟨g, k * 3, none⟩) 1 (cap - k)) w := by
  rw [run_slice_lh (P := Try.prog) w 23 (some ⟨g, 0, none⟩) k cap (by kernel_rfl) .i64 .i64 (k : Int) (n : Int) (by omega) (by omega) (by omega), run_size3T]
  simp only [Int.toNat_natCast]
  show Result.ok (sliced (some ⟨g, 0, none⟩) k n cap 3) w = _
  unfold sliced
  rw [if_neg (by omega), show n - k = 1 by omega]
  simp only [Option.map_some, add_zero]
theorem cut_behindT {w : World} {g n cap k : Nat} {M : List Ft} (h : TRow w g cap M) (hM : M.length = n) (hk : k ≤ n) : ∃ ad cc, (∀ w, (Instr.slice 23 (.slice (some ⟨g, 0, none⟩) n cap) (some (.int .i64 (k : Int))) none none).run Try.prog w = .ok (.slice (some ad) (n - k) cc) w) ∧ ∀ w' : World, (∀ p : Addr, p.block = g → w'.cell? p = w.cell? p) → ∀ (j : Nat) (u : Value), ((M.drop k).flatMap tcs)[j]? = some u → w'.cell? (ad.add j) = some u := by
  have hn : n ≤ cap := by have := h.1; omega
  have hr : ∀ w, (Instr.slice 23 (.slice (some ⟨g, 0, none⟩) n cap) (some (.int .i64 (k : Int))) none none).run Try.prog w = .ok (sliced (some ⟨g, 0, none⟩) k n cap 3) w := fun w => by
    rw [run_slice_l (P := Try.prog) w 23 (some ⟨g, 0, none⟩) n cap (by kernel_rfl) .i64 (k : Int) (by omega) (by omega), run_size3T]
    simp only [Int.toNat_natCast]
    rfl
  obtain ⟨_, C, h2, h3, h4⟩ := h
  by_cases hc : cap = k
  · refine ⟨⟨g, 0, none⟩, cap - k, fun w => by rw [hr]; unfold sliced; rw [if_pos hc], fun w' _ j u hu => ?_⟩
    rw [List.drop_of_length_le (by omega)] at hu
    simp at hu
  · refine ⟨⟨g, k * 3, none⟩, cap - k, fun w => by rw [hr]; unfold sliced; rw [if_neg hc]; simp only [Option.map_some, add_zero], fun w' hw j u hu => ?_⟩
    have e : (⟨g, k * 3, none⟩ : Addr).add j = ⟨g, k * 3 + j, none⟩ := by
      unfold Addr.add
      split
      · rename_i h0; rw [h0]; rfl
      · rfl
    have hj := (List.getElem?_eq_some_iff.1 hu).1
    rw [tcs_len, List.length_drop] at hj
    rw [e, hw _ rfl, Joins.cell_of_block h2]
    have e2 : M.flatMap tcs = (M.take k).flatMap tcs ++ (M.drop k).flatMap tcs := by rw [← List.flatMap_append, List.take_append_drop]
    have hl : ((M.take k).flatMap tcs).length = k * 3 := by rw [tcs_len]; simp; omega
    have : (M.flatMap tcs)[k * 3 + j]? = some u := by rw [e2, List.getElem?_append_right (by omega), hl, Nat.add_sub_cancel_left, hu]
    rw [← h4, List.getElem?_take, if_pos (by omega), Array.getElem?_toList] at this
    exact this
theorem heap_setCells {g : Nat} {t : TypeId} {fz : Nat × Nat} : ∀ (vs : List Value) (o : Nat) (w : World) (C : Array Value), w.heap[g]? = some (.cells C t fz) → o + vs.length ≤ C.size →
    ∃ C' : Array Value, (w.setCells g o vs).heap[g]? = some (.cells C' t fz) ∧ C'.size = C.size ∧ C'.toList.take (o + vs.length) = C.toList.take o ++ vs
  | [], o, w, C, h, _ => ⟨C, h, rfl, by simp⟩
  | v :: vs, o, w, C, h, hl => by
    have h1 : (w.setCell ⟨g, o, none⟩ v).heap[g]? = some (.cells (C.setIfInBounds o v) t fz) := by simp [World.setCell, Array.getElem?_modify, h]
    obtain ⟨C', c1, c2, c3⟩ := heap_setCells vs (o + 1) (w.setCell ⟨g, o, none⟩ v) (C.setIfInBounds o v) h1 (by simp at hl ⊢; omega)
    refine ⟨C', c1, by rw [c2]; simp, ?_⟩
    have e : o + (v :: vs).length = o + 1 + vs.length := by simp; omega
    rw [e, c3, Array.toList_setIfInBounds]
    have hlt : o < C.toList.length := by simp at hl ⊢; omega
    rw [List.take_set, List.take_add_one, List.getElem?_eq_getElem hlt, List.set_append_right _ _ (by rw [List.length_take]; omega)]
    have e3 : o - (C.toList.take o).length = 0 := by rw [List.length_take]; omega
    rw [e3]
    simp
theorem only_setCells (g : Nat) : ∀ (vs : List Value) (o : Nat) (w : World), Only [g] w (w.setCells g o vs)
  | [], _, w => Only.refl _ w
  | v :: vs, o, w => ((Only.refl [g] w).set (p := ⟨g, o, none⟩) (Or.inl (by simp)) v).trans (only_setCells g vs (o + 1) _) (fun _ hk => Or.inl hk)
theorem TRow.del {w : World} {g cap i n : Nat} {M : List Ft} (h : TRow w g cap M) (hM : M.length = n) (hi : i < n) : TRow (w.setCells g (i * 3) ((M.drop (i + 1)).flatMap tcs)) g cap (M.take i ++ M.drop (i + 1)) ∧ Only [g] w (w.setCells g (i * 3) ((M.drop (i + 1)).flatMap tcs)) := by
  obtain ⟨h1, C, h2, h3, h4⟩ := h
  have hl : ((M.drop (i + 1)).flatMap tcs).length = (n - (i + 1)) * 3 := by rw [tcs_len, List.length_drop, hM]
  have hlt : (M.take i ++ M.drop (i + 1)).length = n - 1 := by simp; omega
  obtain ⟨C', c1, c2, c3⟩ := heap_setCells ((M.drop (i + 1)).flatMap tcs) (i * 3) w C h2 (by rw [hl]; omega)
  refine ⟨⟨by omega, C', c1, by rw [c2, h3], ?_⟩, ?_⟩
  · rw [hlt, List.flatMap_append]
    rw [hl] at c3
    rw [show (n - 1) * 3 = i * 3 + (n - (i + 1)) * 3 by omega, c3]
    congr 1
    have e : (M.flatMap tcs).take (i * 3) = (M.take i).flatMap tcs := by
      have e2 : M.flatMap tcs = (M.take i).flatMap tcs ++ (M.drop i).flatMap tcs := by rw [← List.flatMap_append, List.take_append_drop]
      have hl2 : ((M.take i).flatMap tcs).length = i * 3 := by rw [tcs_len]; simp; omega
      rw [e2, List.take_append_of_le_length (by omega), List.take_of_length_le (by omega)]
    rw [← e, ← h4, List.take_take, Nat.min_eq_left (by omega)]
  · exact only_setCells g _ _ w
theorem zero_cellsT (n : Nat) : (Builtin.zeroCells (Value.agg #[.string ⟨#[]⟩, .int .i64 0, .int .i64 0]).cells n).toList.length = n * 3 ∧ ∀ v ∈ (Builtin.zeroCells (Value.agg #[.string ⟨#[]⟩, .int .i64 0, .int .i64 0]).cells n).toList, v.oneCell' = true := by
  have hc : (Value.agg #[.string ⟨#[]⟩, .int .i64 0, .int .i64 0]).cells = #[.string ⟨#[]⟩, .int .i64 0, .int .i64 0] := by simp [Value.cells]
  rw [hc]
  constructor
  · simp [Builtin.zeroCells]
  · intro v hv
    simp only [Builtin.zeroCells, Array.toList_map, List.mem_map] at hv
    obtain ⟨i, _, rfl⟩ := hv
    have : i % 3 = 0 ∨ i % 3 = 1 ∨ i % 3 = 2 := by omega
    rcases this with e | e | e <;> simp [e, Value.oneCell']
theorem run_clear_ft (w : World) (ty : TypeId) (g off c : Nat) (C : Array Value) (hg : w.heap[g]? = some (.cells C 70 (0, 0))) (hfit : off + 3 ≤ C.size) :
    ∃ w', (Builtin.clear_ #[23] ty #[.slice (some ⟨g, off, none⟩) 1 c]).run Try.prog w = .ok (.tuple #[]) w' ∧ (∃ C', w'.heap[g]? = some (.cells C' 70 (0, 0)) ∧ C'.size = C.size ∧ C'.toList.take off = C.toList.take off) ∧ Only [g] w w' := by
  obtain ⟨hl, h1⟩ := zero_cellsT 1
  generalize hZ : (Builtin.zeroCells (Value.agg #[.string ⟨#[]⟩, .int .i64 0, .int .i64 0]).cells 1).toList = Z at hl h1
  have hst := run_storeCells_at Try.prog g off 70 Z 0 C w hg (by omega) h1
  simp only [Nat.add_zero] at hst
  refine ⟨w.setRow g (C.toList.take off ++ Z ++ C.toList.drop (off + Z.length)).toArray, by simp [Builtin.clear_, run_underlying Try.underlying23, hZ, hst], ⟨_, setRow_heap w g _ _ _ _ hg, ?_, ?_⟩, (Only.refl _ _).row (Or.inl (by simp)) _⟩
  · simp; omega
  · simp only []
    rw [List.append_assoc, List.take_append_of_le_length (by simp; omega), List.take_take, Nat.min_self]
/-- 'clear' of the place behind a row. -/
theorem wpList_clear_ft {w : World} {ops : Array Oper} {rest : List Oper} {o : Oper} {a : Act} {Q : Exit → Act → World → Prop} (hgd : o.guard = none) (x : Operand)
    (ho : o.op = .call { callee := .builtin .clear, args := #[x], argTypes := #[23] }) (g k c cap : Nat) (M : List Ft) (hx : a.eval x = .slice (some ⟨g, k * 3, none⟩) 1 c) (hS : TRow w g cap M) (hk : M.length = k) (hfit : k + 1 ≤ cap)
    (h : ∀ w', TRow w' g cap M → Only [g] w w' → wpList Try.prog ops Q rest (a.put o.dst (.tuple #[])) w') : wpList Try.prog ops Q (o :: rest) a w := by
  refine wpList_plain hgd fun K hK => ?_
  obtain ⟨q1, C, h2, h3, h4⟩ := hS
  obtain ⟨w', hrun, ⟨C', c1, c2, c3⟩, ho'⟩ := run_clear_ft w o.type g (k * 3) c C h2 (by omega)
  unfold Oper.wp execOp
  simp only [ho, resolve, invoke, builtin, Sem.run_bind, Sem.run_pure, Result.andThen_ok, List.map_toArray, List.map_cons, List.map_nil, hx, hrun]
  exact hK _ _ (h w' ⟨q1, C', c1, by rw [c2, h3], by rw [hk] at h4 ⊢; rw [c3, h4]⟩ ho')
set_option maxRecDepth 100000 in
set_option maxHeartbeats 4000000 in
theorem delete_any {w : World} {g cap n i j : Nat} {M : List Ft} (h : TRow w g cap M) (hM : M.length = n) (hi : i < n) (few : n ≤ 1000000) (hj : j = i + 1) :
    Calls Try.prog 57 #[.slice (some ⟨g, 0, none⟩) n cap, .int .i64 (i : Int), .int .i64 (j : Int)] w fun e w' => e = .returned (.slice (some ⟨g, 0, none⟩) (M.take i ++ M.drop j).length cap) ∧ TRow w' g cap (M.take i ++ M.drop j) ∧ Only [g] w w' := by
  have hcn : n ≤ cap := by have := h.1; omega
  obtain ⟨l, hl⟩ : ∃ l, l = n - 1 := ⟨_, rfl⟩
  have hll : Hid ((M.take i ++ M.drop j).length = l) := Lib.hid (by simp; omega)
  obtain ⟨S3, hS3⟩ := cut_threeT g n cap i j (by omega) (by omega) hcn
  have hS1 := cut_toT g n cap i (by omega) hcn
  obtain ⟨ad, cc, hS2, hce⟩ := cut_behindT (k := j) h hM (by omega)
  obtain ⟨r, hr⟩ : ∃ r, r = n - j := ⟨_, rfl⟩
  rw [← hr] at hS2
  have hS4 := cut_lastT g l n cap (by omega) hcn
  obtain ⟨cl, hcl⟩ : ∃ cl, cl = cap - l := ⟨_, rfl⟩
  rw [← hcl] at hS4
  have hirl : i + r = l := by omega
  have hceH := Lib.hid (hce w.drew (fun p _ => rfl))
  have hnl : Hid (((M.drop j).flatMap tcs).length = r * 3) := Lib.hid (by rw [tcs_len, List.length_drop, hM, hr])
  have hroom : Hid (i + r ≤ cap) := Lib.hid (by omega)
  have hT0 : TRow w.drew g cap M := h.only (Only.refl [] w).drew (by simp)
  have hsp : Hid (∀ k, k < ((M.drop j).flatMap tcs).length → (w.drew.cell? ⟨g, 0 + i * 3 + k, none⟩).isSome = true ∧ w.drew.frozen? ⟨g, 0 + i * 3 + k, none⟩ = false) := Lib.hid (fun k hk => by
    obtain ⟨_, C, c2, c3, _⟩ := hT0
    rw [hnl.out] at hk
    refine ⟨?_, Joins.unfrozen_of_block c2 _⟩
    rw [Joins.cell_of_block c2, Array.getElem?_eq_getElem (by omega)]
    rfl)
  have hdel : Hid (TRow (w.drew.setCells g (i * 3) ((M.drop j).flatMap tcs)) g cap (M.take i ++ M.drop j) ∧ Only [g] w.drew (w.drew.setCells g (i * 3) ((M.drop j).flatMap tcs))) := Lib.hid (by
    have := hT0.del hM hi
    rw [← hj] at this
    exact this)
  have hlc : Hid (l + 1 ≤ cap) := Lib.hid (by omega)
  have d1 : ((i : Int) == (j : Int)) = false := beq_false_of_ne (by omega)
  have d2 : decide ((i : Int) = (j : Int)) = false := decide_eq_false (by omega)
  have d3 : (i == j) = false := beq_false_of_ne (by omega)
  obtain ⟨i0, hi0, hz0, hz1, hz2⟩ := info_partsS info_fault
  clear h hM hi few hj hcn hl hr hcl hT0 hce
  go_enter Try.func57, Try.ntmps57
  go_wp2_with fail
  go_region_law (refine step_append_room rfl (.tmp 22) (.tmp 25) 23 rfl 70 i0 3 Try.underlying23 hi0 hz1 g 0 i cap (by simp [Act.eval, Act.put]) ad r cc ((M.drop j).flatMap tcs) (by simp [Act.eval, Act.put]) hnl.out hceH.out (tcs_one _) hroom.out hsp.out ?_)
  obtain ⟨V, hV⟩ : ∃ V, V = w.drew.setCells g (i * 3) ((M.drop j).flatMap tcs) := ⟨_, rfl⟩
  rw [← hV] at hdel ⊢
  clear hV hS1 hS2 hS3 hceH hnl hroom hsp d1 d2 d3
  go_wp2_with (first | (refine wpList_clear_ft (o := ⟨none, .call ⟨_, #[.tmp 31], _⟩, _, _, _, _⟩) (by rfl) (.tmp 31) (by rfl) g l cl cap (M.take i ++ M.drop j) (by rfl) hdel.out.1 hll.out hlc.out ?_; intro w7 hr7 ho7))
  go_ret
  exact ⟨by rw [hll.out]; rfl, hr7, ((Only.refl [g] w).drew.trans hdel.out.2 (fun k hk => Or.inl hk)).trans ho7 (fun k hk => Or.inl hk)⟩
end Go.Proofs.Ythdgfchmglkpaaa
