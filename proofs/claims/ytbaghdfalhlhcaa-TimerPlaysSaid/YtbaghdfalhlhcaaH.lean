/-
  The library's Delete of the last place of a row of keys with times. Premises: a row of one's own; at most a million.
-/
import Derived.Test.YtbaghdfalhlhcaaD
import Derived.Lib.SliceRun
import Derived.Laws.CopyOwn
namespace Go.Proofs.Ytbaghdfalhlhcaa
open Go.RowKit

theorem size_sc : (Try.prog.info? 44).map (fun i => i.size) = some 2 := by kernel_rfl
theorem run_size (w : World) : (sizeOf (Try.prog.elem 27)).run Try.prog w = .ok 2 w := by
  obtain ⟨i, hi, _, hz, _⟩ := info_partsS info_scz
  have hel : Try.prog.elem 27 = 44 := by kernel_rfl
  rw [hel]
  simp [sizeOf, typeInfo, hi, hz, Result.andThen]
theorem cut_three (g n cap k : Nat) (hk : k ≤ n) (hn : n ≤ cap) (x y : Int) (hx : x = (k : Int)) (hy : y = (n : Int)) : ∃ S, ∀ w, (Instr.slice 27 (.slice (some ⟨g, 0, none⟩) n cap) (some (.int .i64 x)) (some (.int .i64 y)) (some (.int .i64 (n : Int)))).run Try.prog w = .ok S w := by
  subst hx hy
  refine ⟨sliced (some ⟨g, 0, none⟩) k n n 2, fun w => ?_⟩
  rw [run_slice_lhm (P := Try.prog) w 27 (some ⟨g, 0, none⟩) n cap (by kernel_rfl) .i64 .i64 .i64 (k : Int) (n : Int) (n : Int) (by omega) (by omega) (by omega) (by omega), run_size]
  simp only [Int.toNat_natCast]
  rfl
theorem cut_head (g n cap k : Nat) (hk : k ≤ n) (hn : n ≤ cap) (x : Int) (hx : x = (k : Int)) (w : World) : (Instr.slice 27 (.slice (some ⟨g, 0, none⟩) n cap) none (some (.int .i64 x)) none).run Try.prog w = .ok (.slice (some ⟨g, 0, none⟩) k cap) w := by
  subst hx
  rw [run_slice_h (P := Try.prog) w 27 (some ⟨g, 0, none⟩) n cap (by kernel_rfl) .i64 (k : Int) (by omega) (by omega), run_size]
  simp only [Int.toNat_natCast]
  show Result.ok (sliced (some ⟨g, 0, none⟩) 0 k cap 2) w = _
  unfold sliced
  split <;> simp [Addr.add]
theorem cut_none (g n cap : Nat) (x : Int) (hx : x = (n : Int)) : ∃ ad c, ∀ w, (Instr.slice 27 (.slice (some ⟨g, 0, none⟩) n cap) (some (.int .i64 x)) none none).run Try.prog w = .ok (.slice (some ad) 0 c) w := by
  subst hx
  by_cases hm : cap = n
  · refine ⟨⟨g, 0, none⟩, cap - n, fun w => ?_⟩
    rw [run_slice_l (P := Try.prog) w 27 (some ⟨g, 0, none⟩) n cap (by kernel_rfl) .i64 (n : Int) (by omega) (by omega), run_size]
    simp only [Int.toNat_natCast]
    show Result.ok (sliced (some ⟨g, 0, none⟩) n n cap 2) w = _
    unfold sliced
    rw [if_pos hm, Nat.sub_self]
  · refine ⟨(⟨g, 0, none⟩ : Addr).add (n * 2), cap - n, fun w => ?_⟩
    rw [run_slice_l (P := Try.prog) w 27 (some ⟨g, 0, none⟩) n cap (by kernel_rfl) .i64 (n : Int) (by omega) (by omega), run_size]
    simp only [Int.toNat_natCast]
    show Result.ok (sliced (some ⟨g, 0, none⟩) n n cap 2) w = _
    unfold sliced
    rw [if_neg hm, Nat.sub_self]
    rfl
theorem cut_last (g k cap : Nat) (hk : k < cap) (x : Int) (hx : x = ((k + 1 : Nat) : Int)) (w : World) : (Instr.slice 27 (.slice (some ⟨g, 0, none⟩) k cap) (some (.int .i64 (k : Int))) (some (.int .i64 x)) none).run Try.prog w = .ok (.slice (some ⟨g, k * 2, none⟩) 1 (cap - k)) w := by
  subst hx
  rw [run_slice_lh (P := Try.prog) w 27 (some ⟨g, 0, none⟩) k cap (by kernel_rfl) .i64 .i64 (k : Int) ((k + 1 : Nat) : Int) (by omega) (by omega) (by omega), run_size]
  simp only [Int.toNat_natCast]
  show Result.ok (sliced (some ⟨g, 0, none⟩) k (k + 1) cap 2) w = _
  unfold sliced
  rw [if_neg (by omega), show k + 1 - k = 1 by omega]
  simp only [Option.map_some, add_zero]
theorem run_append_zero (w : World) (ty : TypeId) (g k cap : Nat) (hk : k ≤ cap) (ad : Addr) (c : Nat) : (Builtin.append_ #[27, 27] ty #[.slice (some ⟨g, 0, none⟩) k cap, .slice (some ad) 0 c]).run Try.prog w = .ok (.slice (some ⟨g, 0, none⟩) k cap) w := by
  obtain ⟨i0, hi, hz0, hz1, hz2⟩ := info_partsS info_scz
  have := run_append_room_cells (P := Try.prog) w 27 ty 44 i0 Try.underlying27 hi g 0 k cap ad 0 c [] (by simp) (fun j u h => by simp at h) (fun u h => by simp at h) (by omega) (fun j h => by simp at h) (fun j h => by simp at h)
  exact this
theorem wpList_append_zero {w : World} {ops : Array Oper} {rest : List Oper} {o : Oper} {a : Act} {Q : Exit → Act → World → Prop} (hgd : o.guard = none) (s x : Operand)
    (ho : o.op = .call { callee := .builtin .append, args := #[s, x], argTypes := #[27, 27] })
    (g k cap : Nat) (ad : Addr) (c : Nat) (hs : a.eval s = .slice (some ⟨g, 0, none⟩) k cap) (hx : a.eval x = .slice (some ad) 0 c) (hk : k ≤ cap)
    (h : wpList Try.prog ops Q rest (a.put o.dst (.slice (some ⟨g, 0, none⟩) k cap)) w) : wpList Try.prog ops Q (o :: rest) a w := by
  refine wpList_plain hgd fun K hK => ?_
  have hr := run_append_zero w o.type g k cap hk ad c
  unfold Oper.wp execOp
  simp only [ho, resolve, invoke, builtin, Sem.run_bind, Sem.run_pure, Result.andThen_ok, List.map_toArray, List.map_cons, List.map_nil, hs, hx, hr]
  exact hK _ _ h
theorem zero_sc (w : World) : (zeroValue 44).run Try.prog w = .ok (.agg #[.string ⟨#[]⟩, .int .i64 0]) w := by kernel_rfl
def zeroL : List Value := [.string ⟨#[]⟩, .int .i64 0]
/-- 'clear' of one place of a row. -/
theorem run_clear_one (w : World) (ty : TypeId) (g off c : Nat) (cur : List Value) (hg : w.heap[g]? = some (.cells cur.toArray 44 (0, 0))) (hfit : off + 2 ≤ cur.length) :
    (Builtin.clear_ #[27] ty #[.slice (some ⟨g, off, none⟩) 1 c]).run Try.prog w = .ok (.tuple #[]) (w.setRow g (splice cur off zeroL).toArray) := by
  have hz : (Builtin.zeroCells (Value.agg #[.string ⟨#[]⟩, .int .i64 0]).cells 1).toList = zeroL := by
    simp [Builtin.zeroCells, zeroL, Value.cells]
    rfl
  have hst := run_storeCells_at Try.prog g off 44 zeroL 0 cur.toArray w hg (by simpa [zeroL] using hfit) (by intro v hv; unfold zeroL at hv; simp at hv; rcases hv with rfl | rfl <;> rfl)
  simp only [Nat.add_zero] at hst
  simp [Builtin.clear_, run_underlying Try.underlying27, hz, hst, splice]
theorem wpList_clear_one {w : World} {ops : Array Oper} {rest : List Oper} {o : Oper} {a : Act} {Q : Exit → Act → World → Prop} (hgd : o.guard = none) (x : Operand)
    (ho : o.op = .call { callee := .builtin .clear, args := #[x], argTypes := #[27] }) (g off c : Nat) (hx : a.eval x = .slice (some ⟨g, off, none⟩) 1 c)
    (cur : List Value) (hg : w.heap[g]? = some (.cells cur.toArray 44 (0, 0))) (hfit : off + 2 ≤ cur.length)
    (h : wpList Try.prog ops Q rest (a.put o.dst (.tuple #[])) (w.setRow g (splice cur off zeroL).toArray)) : wpList Try.prog ops Q (o :: rest) a w := by
  refine wpList_plain hgd fun K hK => ?_
  have hrun := run_clear_one w o.type g off c cur hg hfit
  unfold Oper.wp execOp
  simp only [ho, resolve, invoke, builtin, Sem.run_bind, Sem.run_pure, Result.andThen_ok, List.map_toArray, List.map_cons, List.map_nil, hx, hrun]
  exact hK _ _ h
theorem take_splice (cur : List Value) (off : Nat) (l : List Value) (h : off ≤ cur.length) : (splice cur off l).take off = cur.take off := by
  unfold splice
  rw [List.take_append_of_le_length (by rw [List.length_take]; omega), List.take_take, Nat.min_self]
theorem pcs_take (L : List Sc) (k : Nat) : (pcs L).take (k * 2) = pcs (L.take k) := by
  rcases Nat.lt_or_ge k L.length with h | h
  · refine pcs_ext (by rw [List.length_take, pcs_len, List.length_take]; omega) (fun j x hj => ?_)
    rw [List.getElem?_take] at hj
    split at hj
    · obtain ⟨a, b⟩ := pcs_at hj
      rw [List.getElem?_take, if_pos (by omega), List.getElem?_take, if_pos (by omega)]
      exact ⟨a, b⟩
    · cases hj
  · rw [List.take_of_length_le (by rw [pcs_len]; omega), List.take_of_length_le h]
set_option maxHeartbeats 4000000 in
theorem delete_last {w : World} {g cap k : Nat} {L : List Sc} (hR : RowS w 0 (.slice (some ⟨g, 0, none⟩) (k + 1) cap) L) :
    Calls Try.prog 25 #[.slice (some ⟨g, 0, none⟩) (k + 1 : Nat) cap, .int .i64 (k : Int), .int .i64 ((k + 1 : Nat) : Int)] w fun e w' => e = .returned (.slice (some ⟨g, 0, none⟩) k cap) ∧ RowS w' 0 (.slice (some ⟨g, 0, none⟩) k cap) (L.take k) ∧ Only [g] w w' := by
  obtain ⟨hn, hcap, hml, C, hb, hCs, hC⟩ := rowS_block hR
  obtain ⟨S, hS⟩ := cut_three g (k + 1) cap k (by omega) hcap (k : Int) ((k + 1 : Nat) : Int) rfl rfl
  have hS1 := cut_head g (k + 1) cap k (by omega) hcap (k : Int) rfl
  obtain ⟨ad, c, hS2⟩ := cut_none g (k + 1) cap ((k + 1 : Nat) : Int) rfl
  have hS3 := cut_last g k cap (by omega) ((k + 1 : Nat) : Int) rfl
  have hrow' : Hid (∀ W : World, W.heap[g]? = some (.cells C 44 (0, 0)) → RowS (W.setRow g (splice C.toList (k * 2) zeroL).toArray) 0 (.slice (some ⟨g, 0, none⟩) k cap) (L.take k)) := Lib.hid (fun W hW => by
    have hsz : (splice C.toList (k * 2) zeroL).toArray.size = C.size := by
      simp only [List.size_toArray]
      rw [length_splice _ _ _ (by simp [zeroL]; omega)]
      simp
    have hlt : (L.take k).length = k := by rw [List.length_take]; omega
    have hh := setRow_heap W g _ (splice C.toList (k * 2) zeroL).toArray _ _ hW
    unfold RowS
    rw [hlt]
    refine ⟨by rw [pcs_len, hlt], Or.inr ⟨g, cap, _, rfl, Nat.zero_le _, hh, by omega, hml, by rw [hsz]; exact hCs, ?_⟩⟩
    show List.take (k * 2) (splice C.toList (k * 2) zeroL) = _
    rw [take_splice _ _ _ (by simp; omega), ← pcs_take]
    have hcur : C.toList.take ((k + 1) * 2) = pcs L := by
      obtain ⟨_, ⟨h2, _⟩ | ⟨g', cap', cur, he, _, h4, _, _, _, h8⟩⟩ := hR
      · cases h2
      · injection he with e1 e2 e3
        injection e1 with e1
        injection e1 with e1 _ _
        subst e1
        rw [hb] at h4
        cases h4
        rw [hn]
        exact h8
    rw [← hcur, List.take_take, Nat.min_eq_left (by omega)])
  have hk1 : (k : Int) ≠ ((k + 1 : Nat) : Int) := by omega
  have hkb : ((k : Int) == ((k + 1 : Nat) : Int)) = false := beq_false_of_ne hk1
  have hkd : decide ((k : Int) = ((k + 1 : Nat) : Int)) = false := decide_eq_false hk1
  have hbH := Lib.hid hb
  have hfit : Hid (k * 2 + 2 ≤ C.toList.length) := Lib.hid (by simp; omega)
  have hkc : Hid (k ≤ cap) := Lib.hid (by omega)
  obtain ⟨n, hnn⟩ : ∃ n, n = k + 1 := ⟨_, rfl⟩
  rw [← hnn] at hS hS1 hS2 hS3 hk1 hkb hkd ⊢
  clear hR hn hcap hml hb hCs hC hnn
  go_enter Try.func25, Try.ntmps25
  go_wp2_with fail
  go_still_tail 6, (by kernel_rfl)
  change wpList _ _ _ _ _ w.drew
  have hbH2 : Hid (w.drew.heap[g]? = some (.cells C 44 (0, 0))) := Lib.hid hbH.out
  have hoH : Hid (Only [g] w w.drew) := Lib.hid ((Only.refl [g] w).drew)
  generalize w.drew = W1 at *
  refine wpList_append_zero rfl _ _ rfl g k cap ad c (by rfl) (by rfl) hkc.out ?_
  go_wp2_with (first
    | (refine wpList_clear_one (w := W1) (o := ⟨none, .call ⟨_, #[.tmp 31], _⟩, _, _, _, _⟩) (by rfl) (.tmp 31) (by rfl) g (k * 2) (cap - k) (by rfl) C.toList (by simpa using hbH2.out) hfit.out ?_))
  all_goals go_ret
  exact ⟨rfl, hrow'.out _ hbH2.out, hoH.out.row (Or.inl (by simp)) _⟩
end Go.Proofs.Ytbaghdfalhlhcaa
