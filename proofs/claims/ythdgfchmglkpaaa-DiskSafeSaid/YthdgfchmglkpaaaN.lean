/-
  The law's own faulty: a disk with a fault more. An append of a row of faults, read from wherever, to a row of one's own.
-/
import Derived.Test.YthdgfchmglkpaaaChecked
import Derived.Test.YthdgfchmglkpaaaMath
import Derived.Test.YthdgfchmglkpaaaA
import Derived.Test.YthdgfchmglkpaaaB
import Derived.Test.YthdgfchmglkpaaaC
import Derived.Test.YthdgfchmglkpaaaD
import Derived.Test.YthdgfchmglkpaaaE
import Derived.Test.YthdgfchmglkpaaaF
import Derived.Test.YthdgfchmglkpaaaI
import Derived.Test.YthdgfchmglkpaaaJ
import Derived.Test.YthdgfchmglkpaaaK
import Derived.Test.YthdgfchmglkpaaaL
import Derived.Test.YthdgfchmglkpaaaM
import Derived.WalkKit
import Derived.WalkSpells
import Derived.WalkLawsBesides
import Derived.Deep.QuietTactic
import Derived.BigQuiet
import Derived.Lib.Hide
import Derived.Lib.SmallJoins
import Derived.Outline
import Derived.OwnWalk
import Derived.Deep.CutBlock
import Derived.BigRegion
import Derived.StillTailTactics
import Derived.Laws.AppendOwnNone
import Derived.Maps.AppendAt
import Derived.Deep.RegionLaw
import Derived.Deep.RegionHeld3
import Derived.Lib.BufferRead
import Derived.Deep.AppendLies
namespace Go.Proofs.Ythdgfchmglkpaaa
open Go.RowKit
theorem run_append_none_cap {P : Program} {w : World} (base : Nat) (t ty e : TypeId) (i : TypeInfo) (size c : Nat) (ht : P.underlying t = some (.slice e)) (hi : P.info? e = some i)
    (v : Value) (n : Nat) (xs : List Value) (hown : w.ownsRow base e size v n xs) :
    (Builtin.append_ #[t, t] ty #[v, .slice none 0 c]).run P w = .ok v w := by
  rcases hown.2 with ⟨rfl, rfl⟩ | ⟨g, cap, cur, rfl, _, _, hnc, _⟩
  · simp [Builtin.append_, run_underlying ht, sizeOf, typeInfo, hi, Builtin.lenOf, Builtin.firstCells]
  · simp [Builtin.append_, run_underlying ht, sizeOf, typeInfo, hi, Builtin.lenOf, Builtin.firstCells, hnc, storeCells]
theorem tcs_len (M : List Ft) : (M.flatMap tcs).length = M.length * 3 := by
  refine list_ind (p := fun M => (M.flatMap tcs).length = M.length * 3) rfl (fun l o ih => ?_) M
  rw [List.flatMap_append, List.length_append, ih, List.length_append]
  simp [tcs]
  omega
theorem tcs_one (M : List Ft) : ∀ u ∈ M.flatMap tcs, u.oneCell' = true := by
  intro u hu
  obtain ⟨f, _, hf⟩ := List.mem_flatMap.1 hu
  exact fault_cells _ _ _ u hf
theorem add_near (a : Addr) (m k j : Nat) (hk : 0 < k) (hj : j = m + k) : a.add j = ⟨(a.add m).block, (a.add m).off + k, none⟩ := by
  subst hj
  unfold Addr.add
  rw [if_neg (by omega)]
  split
  · rename_i h
    rw [h, Nat.zero_add]
  · rw [Nat.add_assoc]
theorem faults_cells {w : World} {a : Addr} {M : List Ft} (h : FaultsAt w (some a) M) : ∀ j u, (M.flatMap tcs)[j]? = some u → w.cell? (a.add j) = some u := by
  intro j u hu
  have hj : j < M.length * 3 := by rw [← tcs_len]; exact (List.getElem?_eq_some_iff.1 hu).1
  obtain ⟨f, hf⟩ : ∃ f, M[j / 3]? = some f := ⟨_, List.getElem?_eq_getElem (by omega)⟩
  obtain ⟨a', ha, _, h0, h1, h2⟩ := h (j / 3) f hf
  cases ha
  have hq := flat3 (g := tcs) (fun _ => rfl) M (j / 3) f hf (j % 3) (by omega)
  rw [show j / 3 * 3 + j % 3 = j by omega, hu] at hq
  have hc : j % 3 = 0 ∨ j % 3 = 1 ∨ j % 3 = 2 := by omega
  rcases hc with e | e | e
  · rw [e] at hq
    rw [show a.add j = a.add (j / 3 * 3) by congr 1; omega, h0]
    exact hq.symm
  · rw [e] at hq
    rw [add_near a (j / 3 * 3) 1 j (by omega) (by omega), h1]
    exact hq.symm
  · rw [e] at hq
    rw [add_near a (j / 3 * 3) 2 j (by omega) (by omega), h2]
    exact hq.symm
theorem run_append_ft {w : World} {ty : TypeId} (B : Nat) {v : Value} {L M : List Ft} {A : Option Addr} {c : Nat} (hv : RowT w B v L) (hx : FaultsAt w A M) (hlen : L.length + M.length ≤ 2000000) (hB : B ≤ w.heap.size) :
    ∃ v' w', (Builtin.append_ #[23, 23] ty #[v, .slice A M.length c]).run Try.prog w = .ok v' w' ∧ RowT w' B v' (L ++ M) ∧ Only v.ownBlock.toList w w' := by
  obtain ⟨i0, hi, hz0, hz1, hz2⟩ := info_partsS info_fault
  cases A with
  | none =>
    have h0 : M = [] := by
      cases M with
      | nil => rfl
      | cons f M => obtain ⟨a, ha, _⟩ := hx 0 f rfl; cases ha
    subst h0
    exact ⟨v, w, run_append_none_cap (P := Try.prog) (w := w) B 23 ty 70 i0 3 c Try.underlying23 hi v L.length (L.flatMap tcs) hv, by rw [List.append_nil]; exact hv, Only.refl _ _⟩
  | some ad =>
    obtain ⟨v', w', hr, e2, e3, _, e5⟩ := run_append_own_at (P := Try.prog) w B 23 ty 70 i0 _ 3 32 Try.underlying23 hi hz0 hz1 hz2 rfl (by omega) v L.length (L.flatMap tcs) hv ad M.length c (M.flatMap tcs) (tcs_len M) (faults_cells hx) (tcs_one M) (by unfold maxLen; omega) (by omega) hB
    refine ⟨v', w', hr, ?_, grown_only e3⟩
    unfold RowT
    rw [List.length_append, List.flatMap_append]
    exact e2
theorem wpList_append_ft {w : World} {ops : Array Oper} {rest : List Oper} {o : Oper} {a : Act} {Q : Exit → Act → World → Prop} (hgd : o.guard = none) (s x : Operand)
    (ho : o.op = .call { callee := .builtin .append, args := #[s, x], argTypes := #[23, 23] })
    (B : Nat) (v : Value) (A : Option Addr) (c : Nat) (L M : List Ft) (hs : a.eval s = v) (hx : a.eval x = .slice A M.length c) (hv : RowT w B v L) (hxv : FaultsAt w A M) (hlen : L.length + M.length ≤ 2000000) (hB : B ≤ w.heap.size)
    (h : ∀ v' w', RowT w' B v' (L ++ M) → Only v.ownBlock.toList w w' → wpList Try.prog ops Q rest (a.put o.dst v') w') : wpList Try.prog ops Q (o :: rest) a w := by
  refine wpList_plain hgd fun K hK => ?_
  obtain ⟨v', w', hr, h2, h3⟩ := run_append_ft (ty := o.type) B hv hxv hlen hB (c := c)
  unfold Oper.wp execOp
  simp only [ho, resolve, invoke, builtin, Sem.run_bind, Sem.run_pure, Result.andThen_ok, List.map_toArray, List.map_cons, List.map_nil, hs, hx, hr]
  exact hK _ _ (h v' w' h2 h3)
/-- At a step of a region that draws its order. -/
theorem step_append_ft {w : World} {ops : Array Oper} {o : Oper} {a : Act} {K : Act → World → Prop} {Q : Exit → Act → World → Prop} {E : Prop} (hgd : o.guard = none) (s x : Operand)
    (ho : o.op = .call { callee := .builtin .append, args := #[s, x], argTypes := #[23, 23] })
    (B : Nat) (v : Value) (A : Option Addr) (c : Nat) (L M : List Ft) (hs : a.eval s = v) (hx : a.eval x = .slice A M.length c) (hv : RowT w B v L) (hxv : FaultsAt w A M) (hlen : L.length + M.length ≤ 2000000) (hB : B ≤ w.heap.size)
    (h : ∀ v' w', RowT w' B v' (L ++ M) → Only v.ownBlock.toList w w' → K (a.put o.dst v') w') :
    if Region.wanted o (yielded ops a.tmps) = true then Oper.wp Try.prog o a w K Q else E := by
  have hw : Region.wanted o (yielded ops a.tmps) = true := by simp [Region.wanted, hgd]
  rw [if_pos hw]
  obtain ⟨v', w', hr, h2, h3⟩ := run_append_ft (ty := o.type) B hv hxv hlen hB (c := c)
  unfold Oper.wp execOp
  simp only [ho, resolve, invoke, builtin, Sem.run_bind, Sem.run_pure, Result.andThen_ok, List.map_toArray, List.map_cons, List.map_nil, hs, hx, hr]
  exact h v' w' h2 h3
def opV (o : Od) : Value := .agg #[.int .i64 o.1, .string o.2.1, .string o.2.2.1, .int .i64 o.2.2.2]
def faultyF (D : Dk) (o : Od) : Dk := (D.1, D.2 ++ [(o.2.1, IntKind.i64.wrap (o.1 - 5), o.2.2.2)])
theorem row_made (w : World) : RowT (w.alloc (.cells #[] 70)) w.heap.size (.slice (some ⟨w.heap.size, 0, none⟩) 0 0) [] := World.ownsRow_made w #[] 0 (Nat.le_refl _) (by unfold maxLen; omega) rfl
theorem fault_one (w : World) (x : ByteArray) (y z : Int) : FaultsAt (w.alloc (.cells #[.string x, .int .i64 y, .int .i64 z] 70)) (some ⟨w.heap.size, 0, none⟩) [(x, y, z)] := fun i f hf => by
  have hi : i = 0 := by have := (List.getElem?_eq_some_iff.1 hf).1; simp at this; exact this
  subst hi
  cases hf
  have hc := one_fault w x y z
  exact ⟨_, rfl, LieB.at (heap_alloc_new w _), hc 0 _ rfl, hc 1 _ rfl, hc 2 _ rfl⟩
theorem faulty_end {w W4 w6 : World} {A A6 : Option Addr} {c c6 g : Nat} {L : List Fl} {T' : List Ft} {o0 o1 : Value} {ty : TypeId} (hA : FilesAt w A L) (hk : w6.heap[g]? = some (.cells #[o0, o1] ty (0, 0))) (hR : RowT w6 W4.heap.size (.slice A6 T'.length c6) T') (hb : Below W4.heap.size W4 w6) (kb : Below w.heap.size w W4) (hg : w.heap.size ≤ g) (hg4 : g < W4.heap.size) (v0 v1 : Value) :
    DkAt ((w6.setCell ⟨g, 0, none⟩ v0).setCell ⟨g, 1, none⟩ v1) (.agg #[.slice A L.length c, .slice A6 T'.length c6]) (L, T') ∧ Below w.heap.size w ((w6.setCell ⟨g, 0, none⟩ v0).setCell ⟨g, 1, none⟩ v1) ∧ ((w6.setCell ⟨g, 0, none⟩ v0).setCell ⟨g, 1, none⟩ v1).cell? ⟨g, 0, none⟩ = some v0 ∧ ((w6.setCell ⟨g, 0, none⟩ v0).setCell ⟨g, 1, none⟩ v1).cell? ⟨g, 1, none⟩ = some v1 := by
  have hbV := below_set2 (kb.trans (hb.mono kb.size)) (b := g) hg v0 v1
  obtain ⟨q0, q1, -, -⟩ := two (store2 hk v0 v1)
  have hRV := hR.only (((Only.refl [g] w6).set (p := ⟨g, 0, none⟩) (Or.inl (by simp)) v0).set (p := ⟨g, 1, none⟩) (Or.inl (by simp)) v1) (fun k hk => by have := (World.ownsRow.lt hR k hk).1; simp; omega)
  obtain ⟨A', c', he, hF⟩ := hRV.faults
  obtain rfl : A6 = A' := by injection he
  exact ⟨⟨A, c, A6, c6, rfl, hA.on hbV, hF⟩, hbV, q0, q1⟩
set_option maxRecDepth 100000 in
set_option maxHeartbeats 4000000 in
theorem faulty_any {w : World} {v : Value} {D : Dk} (o : Od) (h : DkAt w v D) (hl : Few D) :
    Calls Try.prog 24 #[v, opV o] w fun r w' => (∃ v', r = .returned v' ∧ DkAt w' v' (faultyF D o)) ∧ Below w.heap.size w w' := by
  obtain ⟨A, c, B, d, rfl, hA, hB⟩ := h
  obtain ⟨L, T⟩ := D
  obtain ⟨o0, o1, o2, o3⟩ := o
  obtain ⟨l1, l2⟩ := hl
  simp only [opV] at hA hB l1 l2 ⊢
  obtain ⟨W4, hW4, k1, k3, k4, kb, ks⟩ := three_boxes w (.cells #[.slice A L.length c, .slice B T.length d] 25) (.cells #[.int .i64 o0, .string o1, .string o2, .int .i64 o3] 30) (.cells #[.slice none 0 0, .slice none 0 0] 25)
  have kbH := Lib.hid kb
  have hA0 := Lib.hid hA
  have hBH := Lib.hid (hB.on kb)
  obtain ⟨x0, x1, -, -⟩ := two k1
  have k1H := Lib.hid k1
  have k3H := Lib.hid k3
  have k4H := Lib.hid k4
  clear k1 k3 k4 hA hB kb
  go_enter Try.func24, Try.ntmps24
  go_upto_region 1 with fail
  rw [← hW4]
  clear hW4
  have hrm : Hid (RowT (W4.alloc (.cells #[] 70)) W4.heap.size (.slice (some ⟨w.heap.size + 3, 0, none⟩) 0 0) []) := by rw [← ks]; exact Lib.hid (row_made W4)
  go_upto_region 2 with (at_builtin; refine wpList_append_ft rfl (.tmp 6) (.tmp 8) rfl W4.heap.size (.slice (some ⟨w.heap.size + 3, 0, none⟩) 0 0) B d [] T rfl rfl hrm.out (hBH.out.on box_below) (by simp; omega) (by simp) ?_; intro v5 w5 hR5 hO5; have hR5H := Lib.hid hR5; have hO5H := Lib.hid hO5; clear hR5 hO5)
  have hb5 : Below W4.heap.size W4 w5 := box_below.trans (hO5H.out.below (by simp) (by simp [Value.ownBlock]; omega))
  have hb5H := Lib.hid hb5
  have hR5e : Hid (RowT w5 W4.heap.size v5 T) := hR5H
  have hR5d : Hid (RowT w5.drew W4.heap.size v5 T) := Lib.hid (hR5H.out.on (Below.refl _ _).drew)
  have j1 := (hb5.block w.heap.size (by omega)).trans k1H.out
  have j3 := (hb5.block (w.heap.size + 1) (by omega)).trans k3H.out
  obtain ⟨A5, c5, rfl, -⟩ := hR5d.out.faults
  obtain ⟨y0, y1, -, -⟩ := two j1
  obtain ⟨z0, z1, z3⟩ : w5.cell? ⟨w.heap.size + 1, 0, none⟩ = some (.int .i64 o0) ∧ w5.cell? ⟨w.heap.size + 1, 1, none⟩ = some (.string o1) ∧ w5.cell? ⟨w.heap.size + 1, 3, none⟩ = some (.int .i64 o3) := ⟨(Lib.cell_of_heap j3 0).trans rfl, (Lib.cell_of_heap j3 1).trans rfl, (Lib.cell_of_heap j3 3).trans rfl⟩
  have hsY := hb5.size
  have hfo : Hid (FaultsAt (w5.alloc (.cells #[.string o1, .int .i64 (IntKind.i64.wrap (o0 - 5)), .int .i64 o3] 70)).drew (some ⟨w5.heap.size, 0, none⟩) [(o1, IntKind.i64.wrap (o0 - 5), o3)]) := Lib.hid ((fault_one w5 o1 (IntKind.i64.wrap (o0 - 5)) o3).on (Below.refl _ _).drew)
  have hRa : Hid (RowT (w5.alloc (.cells #[.string o1, .int .i64 (IntKind.i64.wrap (o0 - 5)), .int .i64 o3] 70)).drew W4.heap.size (.slice A5 T.length c5) T) := Lib.hid (hR5e.out.on (box_below.drew))
  have q0 : (w5.alloc (.cells #[.string o1, .int .i64 (IntKind.i64.wrap (o0 - 5)), .int .i64 o3] 70)).cell? ⟨w.heap.size, 0, none⟩ = some (.slice A L.length c) := (box_below.cell (p := ⟨w.heap.size, 0, none⟩) (some_lt j1)).trans y0
  clear x0 x1 hrm hR5H hO5H hb5 j1 j3
  go_region_law (refine step_append_ft rfl (.tmp 12) (.tmp 21) rfl W4.heap.size (.slice A5 T.length c5) (some ⟨w5.heap.size, 0, none⟩) 1 T [(o1, IntKind.i64.wrap (o0 - 5), o3)] (by simp [Act.eval]) (by simp [Act.eval]) hRa.out hfo.out (by simp; omega) (by simp; omega) ?_; intro v6 w6 hR6 hO6; have hb6 : Below W4.heap.size W4 w6 := ((hb5H.out.alloc hsY _).drew).trans (hO6.below (by simp; omega) (fun k hk => (World.ownsRow.lt hRa.out k (by simpa using hk)).1)); obtain ⟨A6, c6, rfl, -⟩ := hR6.faults; have hE6 := Lib.hid (fun v0 v1 => faulty_end (c := c) hA0.out ((hb6.block (w.heap.size + 1 + 1) (by omega)).trans k4H.out) hR6 hb6 kbH.out (by omega) (by omega) v0 v1); obtain ⟨p0, p1, p2, p3⟩ := two ((hb6.block (w.heap.size + 1 + 1) (by omega)).trans k4H.out); have r0 := (hb6.cell (p := ⟨w.heap.size, 0, none⟩) (by simp; omega)).trans ((two k1H.out).1); clear hR6 hO6 hb6)
  all_goals go_wp2_with fail
  all_goals
    obtain ⟨e1, e2, q0, q1⟩ := hE6.out (.slice A L.length c) (.slice A6 (T.length + 1) c6)
    exact bodyPost_ret (v := .agg #[.slice A L.length c, .slice A6 (T.length + 1) c6]) (by simp [results, Try.results24, go_sem, q0, q1]) rfl ⟨⟨_, rfl, by simpa [faultyF] using e1⟩, e2⟩
end Go.Proofs.Ythdgfchmglkpaaa
