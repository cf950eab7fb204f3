/-
  Walk, over a loop body's rounds: it goes through the ring, counts itself as a walk meanwhile, and leaves the ring as it was. Premises: a ring as it lies, with a key; rounds that go on, and keep the ring.
-/
import Derived.Test.YtpbmgaipeofpaaaH
import Derived.RangeFuncOwn
import Derived.RangeFuncLeaves
import Derived.RangeFuncCalls
import Derived.RecoverIn
import Derived.TacticsInMore
import Derived.OwnWalkIn
import Derived.LoopIn
import Derived.LaidEqlPtr
namespace Go.Proofs.Ytpbmgaipeofpaaa
open Go.RowKit

theorem wide_fn (f : FuncId) : Fence.wide.fn f = True := rfl
theorem wide_depth : Fence.wide.depth = none := rfl
attribute [local go_sem] Oper.semAt_some wide_fn wide_depth
theorem yield_some (l : Nat) (w : World) : Sem.run Try.prog (binOp .eql 33 (.func (.yield l) #[] #[]) .nilFunc) w = .ok (.bool false) w := by
  kernel_rfl
theorem info_node : (Try.prog.info? 73).map (fun i => i.size) = some 3 := by kernel_rfl
theorem neq_same (a : Addr) (w : World) : Sem.run Try.prog (binOp .neq 71 (.pointer (some a)) (.pointer (some a))) w = .ok (.bool false) w := by
  obtain ⟨j, hj, _⟩ := Option.map_eq_some_iff.1 info_node
  have h : ∀ d : Nat, (Op.equalIn (d + 1) 71 (.pointer (some a)) (.pointer (some a))).run Try.prog w = .ok true w := fun d => by
    simp [Op.equalIn, run_underlying Try.underlying71, sizeOf, typeInfo, hj, run_sameAddr_same]
  simp only [binOp]
  simp [Op.equal, Op.maxDepth, h 9999]
theorem neq_other {a b : Addr} {ca cb : Array Value} {ta tb : TypeId} {w : World} (hne : a ≠ b) (ha : w.heap[a.block]? = some (.cells ca ta (0, 0))) (hb : w.heap[b.block]? = some (.cells cb tb (0, 0))) :
    Sem.run Try.prog (binOp .neq 71 (.pointer (some a)) (.pointer (some b))) w = .ok (.bool true) w := by
  obtain ⟨j, hj, hsz⟩ := Option.map_eq_some_iff.1 info_node
  have hsz' : j.size ≠ 0 := by omega
  have h : ∀ d : Nat, (Op.equalIn (d + 1) 71 (.pointer (some a)) (.pointer (some b))).run Try.prog w = .ok false w := fun d => by
    simp [Op.equalIn, run_underlying Try.underlying71, sizeOf, typeInfo, hj, hsz', run_sameAddr_other w hne ha hb]
  simp only [binOp]
  simp [Op.equal, Op.maxDepth, h 9999]
/-- What Walk defers. -/
theorem walk1_any {n : Nat} {W : World} {bx g : Nat} (c0 : W.cell? ⟨bx, 0, none⟩ = some (ptr g)) (c1 : W.cell? ⟨g, 5, none⟩ = some (.int .i64 1)) (z : W.frozen? ⟨g, 5, none⟩ = false) :
    CallsDIn Fence.wide n Try.prog 39 #[ptr bx] .returning W fun e u' w' => e = .returned (.tuple #[]) ∧ u' = .returning ∧ w' = W.setCell ⟨g, 5, none⟩ (.int .i64 0) := by
  refine callsDIn_of_wpSIn Try.func39 rfl trivial fun c₀ cs hu => ?_
  apply wpSIn_seq
  apply wpSIn_region
  have hw0 : IntKind.i64.wrap 0 = 0 := by decide
  simp [wpOpsSIn, go_sem, Try.ntmps39, Exit.thenS, c0, c1, z, hw0]
  apply wpSIn_region
  simp [wpOpsSIn, go_sem, recoverD, hu, bodyPostS, results, Try.results39]
  cases c₀
  simp_all
def blkOf : Value → Nat
  | .pointer (some a) => a.block
  | _ => 0
/-- What a round that goes on keeps: the blocks S, and the block bx. -/
def Kp (S : Nat → Prop) (bx : Nat) (W W' : World) : Prop := Below 0 W W' ∧ ∀ k, k < W.heap.size → (S k ∨ k = bx) → W'.heap[k]? = W.heap[k]?
theorem Kp.cell {S : Nat → Prop} {bx : Nat} {W W' : World} (h : Kp S bx W W') {b i : Nat} {v : Value} (hb : S b ∨ b = bx) (hc : W.cell? ⟨b, i, none⟩ = some v) : W'.cell? ⟨b, i, none⟩ = some v := by
  rw [World.cell?_of_block (w := W) (h.2 b (cell_lt hc) hb)]
  exact hc
theorem Kp.obj {S : Nat → Prop} {bx : Nat} {W W' : World} (h : Kp S bx W W') {b : Nat} {o : Obj} (hb : S b ∨ b = bx) (hc : W.heap[b]? = some o) : W'.heap[b]? = some o := by
  rw [h.2 b (some_lt hc) hb]
  exact hc
/-- Of the blocks S nothing has turned. -/
def KpN (S : Nat → Prop) (W W' : World) : Prop := Below 0 W W' ∧ ∀ k, S k → W'.heap[k]? = W.heap[k]?
/-- What Walk has while it walks: the ring's head counts one walk, its own variable holds the ring; else of the blocks S nothing has turned. -/
structure Wk (W0 : World) (S : Nat → Prop) (g bx p0 n1 m room : Nat) (wr : World) : Prop where
  head : wr.heap[g]? = some (ringO p0 n1 m room 1)
  box : wr.heap[bx]? = some (.cells #[ptr g] 51 (0, 0))
  below : Below 0 W0 wr
  rest : ∀ k, S k → k ≠ g → wr.heap[k]? = W0.heap[k]?
theorem Wk.step {W0 wr w' : World} {S : Nat → Prop} {g bx p0 n1 m room : Nat} (h : Wk W0 S g bx p0 n1 m room wr) (hg : S g) (hn : ∀ k, S k → k < W0.heap.size) (hk : Kp S bx wr w') : Wk W0 S g bx p0 n1 m room w' :=
  ⟨hk.obj (Or.inl hg) h.head, hk.obj (Or.inr rfl) h.box, h.below.trans hk.1, fun k h1 h2 => by
    have := h.below.size
    have h4 := hn k h1
    rw [hk.2 k (by omega) (Or.inl h1), h.rest k h1 h2]⟩
set_option maxHeartbeats 4000000 in
theorem walk_rounds {n : Nat} {W0 : World} {p j g m room l : Nat} {S : Nat → Prop} {bs : Nds} {nx pv : Nat → Nat} (hR : Raw W0 g m room 0 bs nx pv) (hlk : Lk nx pv g (blk bs) g) (hap : (g :: blk bs).Nodup) (hne : 0 < bs.length)
    (c0 : W0.cell? ⟨p, j, none⟩ = some (ptr g)) (hL : Calls Try.prog 33 #[hdp p j] W0 fun e w' => e = .returned (.int .i64 (bs.length : Int)) ∧ W0 = w')
    (hn0 : ∀ k, S k → k < W0.heap.size) (hbn : ∀ b ∈ g :: blk bs, S b) (J : List ByteArray → World → Prop)
    (hJ : ∀ pre W W', J pre W → Only [g, W0.heap.size] W W' → J pre W')
    (hY : ∀ pre x W1, J pre W1 → W0.heap.size < W1.heap.size → (pre ++ [x]) <+: keysN bs → YieldAt Fence.wide (n - 1) Try.prog l #[.string x] W1 fun e W' => e = .returned (.bool true) ∧ J (pre ++ [x]) W' ∧ Kp S W0.heap.size W1 W')
    (h0 : J [] W0) :
    CallsIn Fence.wide n Try.prog 30 #[hdp p j, .func (.yield l) #[] #[]] W0 fun e W' => e = .returned (.tuple #[]) ∧ J (keysN bs) W' ∧ KpN S W0 W' := by
  have hmf : ∀ (fn : Fn) (first cap : Array Value) (w : World), (Instr.makeFunc fn first cap).run Try.prog w = .ok (.func fn first cap) w := fun _ _ _ _ => rfl
  have hz : ((bs.length : Int) == 0) = false := beq_false_of_ne (by omega)
  obtain ⟨N, hN⟩ : ∃ N, N = bs.length := ⟨_, rfl⟩
  rw [← hN] at hz
  have hNH := Lib.hid hN
  have hLH := Lib.hid hL
  rw [← hN] at hLH
  have c5 : W0.cell? ⟨g, 5, none⟩ = some (.int .i64 0) := Lib.cell_of_heap hR.head 5
  have c5' := cell_past c5 (.cells #[ptr g] 51 (0, 0))
  have c2 : W0.cell? ⟨g, 2, none⟩ = some (ptr (nx g)) := Lib.cell_of_heap hR.head 2
  have c2' := cell_past c2 (.cells #[ptr g] 51 (0, 0))
  have hg1 : (W0.alloc (.cells #[ptr g] 51 (0, 0))).heap[g]? = some (ringO (pv g) (nx g) m room 0) := ((Only.refl [] W0).alloc _).keep hR.head (by simp)
  have z5 : (W0.alloc (.cells #[ptr g] 51 (0, 0))).frozen? ⟨g, 5, none⟩ = false := block_frozen hg1
  have hgl : S g := hbn g (by simp)
  have hgx : g ≠ W0.heap.size := by
    have := hn0 g hgl
    omega
  have ho3 : Only [g, W0.heap.size] W0 ((W0.alloc (.cells #[ptr g] 51 (0, 0))).setCell ⟨g, 5, none⟩ (.int .i64 1)) := ((Only.refl _ W0).alloc _).set (p := ⟨g, 5, none⟩) (Or.inl (by simp)) _
  have hW3 : Wk W0 S g W0.heap.size (pv g) (nx g) m room ((W0.alloc (.cells #[ptr g] 51 (0, 0))).setCell ⟨g, 5, none⟩ (.int .i64 1)) :=
    ⟨by rw [Joins.block_setCell hg1]; rfl, by rw [set_heap _ _ _ _ hgx.symm]; exact heap_alloc_new W0 _, ho3.1, fun k h1 h2 => ho3.2 k (hn0 k h1) (by have := hn0 k h1; simp; omega)⟩
  have hJ3 := Lib.hid (hJ _ _ _ h0 ho3)
  have hW3H := Lib.hid hW3
  have hw1 : IntKind.i64.wrap (0 + 1) = 1 := by decide
  have hys := yield_some l
  have hhead := hlk.head
  have hRH := Lib.hid hR
  have hYH := Lib.hid hY
  have hlkH := Lib.hid hlk
  have hapH := Lib.hid hap
  have hbnH := Lib.hid hbn
  clear hN hne hL hW3 hg1 ho3 h0 hR hY hlk hap hbn
  refine callsIn_of_wp_defers Try.func30 rfl trivial ?_ rfl
  simp only [Try.ntmps30, List.size_toArray, List.length_cons, List.length_nil, Nat.reduceAdd, Nat.reduceSub, Array.replicate_succ, Array.replicate_zero, List.push_toArray, List.append_toArray, List.nil_append, List.cons_append]
  gi_wp2_with (gi_at_call 33; (with_reducible refine (callsIn_wide.2 hLH.out).mono ?_); rintro e w' ⟨rfl, rfl⟩)
  gi_loopw [5] (fun s5 wr => ∃ (i b : Nat), i ≤ N ∧ s5 = ptr b ∧ Hid ((blk bs ++ [g])[i]? = some b) ∧ Hid (J ((keysN bs).take i) wr ∧ Wk W0 S g W0.heap.size (pv g) (nx g) m room wr)) (fun s5 _ => N - posB (blk bs) (blkOf s5))
  case atStart => exact ⟨0, nx g, by omega, rfl, Lib.hid hhead, Lib.hid ⟨hJ3.out, hW3H.out⟩⟩
  case round =>
    obtain ⟨i, b, hi, rfl, hb, hon⟩ := hrel
    have hbox : wr.cell? ⟨W0.heap.size, 0, none⟩ = some (ptr g) := Lib.cell_of_heap hon.out.2.box 0
    by_cases hil : i < N
    · have hNe := hNH.out
      obtain ⟨q, hq⟩ : ∃ q, bs[i]? = some q := ⟨_, List.getElem?_eq_getElem (by omega)⟩
      have hqm := List.mem_of_getElem? hq
      have hbi : (blk bs)[i]? = some q.1 := by rw [List.getElem?_map, hq]; rfl
      have hbq : b = q.1 := by
        have := hb.out
        rw [List.getElem?_append_left (by simp; omega), hbi] at this
        exact (Option.some.inj this).symm
      subst hbq
      have hbg : q.1 ≠ g := fun e => (List.nodup_cons.1 hapH.out).1 (e ▸ mem_blk hqm)
      have hbl : S q.1 := hbnH.out _ (List.mem_cons_of_mem _ (mem_blk hqm))
      have hob : wr.heap[q.1]? = some (nodeO q.2 (pv q.1) (nx q.1)) := by rw [hon.out.2.rest _ hbl hbg]; exact hRH.out.node q hqm
      have k0 : wr.cell? ⟨q.1, 0, none⟩ = some (.string q.2) := Lib.cell_of_heap hob 0
      have hkx : (keysN bs)[i]? = some q.2 := by rw [List.getElem?_map, hq]; rfl
      have htk : (keysN bs).take i ++ [q.2] = (keysN bs).take (i + 1) := by rw [List.take_add_one, hkx]; rfl
      have hyy := hYH.out ((keysN bs).take i) q.2 wr hon.out.1 (some_lt hon.out.2.box) (by rw [htk]; exact List.take_prefix _ _)
      rw [htk] at hyy
      obtain ⟨fn, tmps, assign, body, hy, hRd⟩ := hyy
      have hneq := neq_other (a := ⟨q.1, 0, none⟩) (b := ⟨g, 0, none⟩) (fun e => hbg (congrArg Addr.block e)) hob hon.out.2.head
      have hRdH := Lib.hid hRd
      have hobH := Lib.hid hob
      have hnx := Lib.hid (hlkH.out.nxt (i := i + 1) (x := q.1) (by rw [List.getElem?_cons_succ]; exact hbi))
      have hbiH := Lib.hid hbi
      clear hRd hob hbi htk hq hkx hNe hb
      gi_wp2_with fail
      refine (hRdH.out).mono ?_
      rintro e W3 ⟨rfl, hJ4, hk4⟩
      have hn3 : W3.cell? ⟨q.1, 2, none⟩ = some (ptr (nx q.1)) := Lib.cell_of_heap (hk4.obj (Or.inl hbl) hobH.out) 2
      have hJ4H := Lib.hid hJ4
      have hk4H := Lib.hid hk4
      clear hJ4 hk4
      gi_wp2_with fail
      go_roundw
      case rel => exact ⟨i + 1, nx q.1, by omega, rfl, Lib.hid hnx.out, Lib.hid ⟨hJ4H.out, hon.out.2.step hgl hn0 hk4H.out⟩⟩
      case measure =>
        have hBn := (List.nodup_cons.1 hapH.out).2
        have e1 : posB (blk bs) (blkOf (ptr q.1)) = i := posB_at hBn hbiH.out
        have e2 : i < posB (blk bs) (blkOf (ptr (nx q.1))) := by
          have h1 := hnx.out
          have hNe := hNH.out
          show i < posB (blk bs) (nx q.1)
          by_cases hl : i + 1 < (blk bs).length
          · rw [List.getElem?_append_left hl] at h1
            rw [posB_at hBn h1]
            omega
          · rw [List.getElem?_append_right (by omega), show i + 1 - (blk bs).length = 0 by simp at hl ⊢; omega] at h1
            have h2 : g = nx q.1 := Option.some.inj h1
            have h3 : posB (blk bs) (nx q.1) = (blk bs).length := by
              rw [← h2]
              exact List.findIdx_eq_length.2 (fun x hx => by
                have : x ≠ g := fun e => (List.nodup_cons.1 hapH.out).1 (e ▸ hx)
                simp [this])
            rw [h3, List.length_map]
            omega
        show N - posB (blk bs) (blkOf (ptr (nx q.1))) < N - posB (blk bs) (blkOf (ptr q.1))
        omega
    · have hiN : i = N := by omega
      subst hiN
      have hbg : b = g := by
        have := hb.out
        have hNe := hNH.out
        rw [List.getElem?_append_right (by simp; omega)] at this
        rw [show i - (blk bs).length = 0 by simp; omega] at this
        exact (Option.some.inj this).symm
      subst hbg
      have hneq := neq_same ⟨b, 0, none⟩ wr
      gi_wp2_with fail
      have hWk := hon.out.2
      have hcz : wr.cell? ⟨b, 5, none⟩ = some (.int .i64 1) := Lib.cell_of_heap hWk.head 5
      refine leavesIn_cons (f := 39) (args := #[ptr W0.heap.size]) (by simp) (by simp [wide_depth]) (by simp [go_sem]) (by simp [Target.leads, wide_fn]) ?_
      refine (walk1_any hbox hcz (block_frozen hWk.head)).mono ?_
      rintro e u' w'' ⟨rfl, rfl, rfl⟩
      have hkl : (keysN bs).take i = keysN bs := by
        rw [hNH.out, List.take_of_length_le (by simp)]
      have hoE : Only [b, W0.heap.size] wr (wr.setCell ⟨b, 5, none⟩ (.int .i64 0)) := (Only.refl _ wr).set (p := ⟨b, 5, none⟩) (Or.inl (by simp)) _
      have hJE := hJ _ _ _ hon.out.1 hoE
      rw [hkl] at hJE
      refine ⟨_, results_none rfl _ _ _, rfl, hJE, hWk.below.trans hoE.1, fun k hk => ?_⟩
      by_cases hkb : k = b
      · subst hkb
        rw [Joins.block_setCell hWk.head, hRH.out.head]
        rfl
      · rw [set_heap _ _ _ _ hkb]
        exact hWk.rest k hk hkb
end Go.Proofs.Ytpbmgaipeofpaaa
