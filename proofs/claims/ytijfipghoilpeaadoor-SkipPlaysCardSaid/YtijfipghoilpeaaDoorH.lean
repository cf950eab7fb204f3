/-
  The walks of join and part. Premises: a path to a place of a list as it lies; the pair that comes lies beside it with empty links, the pair that goes is at the place.
-/
import Derived.Test.YtijfipghoilpeaaDoorE
namespace Go.Proofs.YtijfipghoilpeaaDoor
open Go.RowKit

theorem lnk_len (L : Nat) (s : List Nd) : (lnk L s).2 ≤ s.length := by
  rcases lnk_case L s with ⟨h, _⟩ | ⟨i, n, h1, _, h3, _⟩
  · rw [h]; exact Nat.le_refl _
  · rw [h3]; have := (List.getElem?_eq_some_iff.1 h1).1; omega
theorem Base.nb_ne {w : World} {D : Nat} {sd c : Int} {ns : List Nd} (h : Base w D sd c ns) {n : Nd} (hn : n ∈ ns) {L q b o : Nat} (hq : Ow D ns L q b o) : n.nb ≠ b := fun e => by
  rcases hq with ⟨_, rfl, _⟩ | ⟨m, a1, _, _, rfl, _⟩
  · exact (h.sep n hn).2.1 e
  · exact (h.sep n hn).2.2 m (List.mem_of_getElem? a1) e.symm
theorem set_frozen {w : World} {b i b' i' : Nat} {C : Array Value} {t : TypeId} (v : Value) (h : w.heap[b']? = some (.cells C t (0, 0))) : (w.setCell ⟨b, i, none⟩ v).frozen? ⟨b', i', none⟩ = false := by
  by_cases e : b' = b
  · subst e
    simp [World.frozen?, Joins.block_setCell h v]
  · simp [World.frozen?, Below.heap_setCell w ⟨b, i, none⟩ v b' e, h]
theorem ow_block {w : World} {D : Nat} {sd c : Int} {ns : List Nd} (h : Base w D sd c ns) {L q b o : Nat} (hq : Ow D ns L q b o) : ∃ C t, w.heap[b]? = some (.cells C t (0, 0)) := by
  rcases hq with ⟨_, rfl, _⟩ | ⟨m, a1, _, _, rfl, _⟩
  · obtain ⟨C, hC, _⟩ := h.head
    exact ⟨C, _, hC⟩
  · obtain ⟨C, hC, _⟩ := h.link m (List.mem_of_getElem? a1)
    exact ⟨C, _, hC⟩
theorem mem_of_ins {M : List Nd} {k : Nat} {n x : Nd} (h : x ∈ M) : x ∈ ins M k n := by
  unfold ins
  rw [← List.take_append_drop k M] at h
  rcases List.mem_append.1 h with h | h
  · exact List.mem_append.2 (Or.inl h)
  · exact List.mem_append.2 (Or.inr (List.mem_cons_of_mem _ h))
/-- While a pair comes: j levels are done. -/
structure Jn (w W : World) (g D : Nat) (sd c : Int) (M : List Nd) (k : Nat) (n : Nd) (j : Nat) : Prop where
  only : Only (wrs D (ins M k n)) w W
  base : Base W D sd c (ins M k n)
  done : ∀ L, L < j → LvAt W D (ins M k n) L
  rest : ∀ L, j ≤ L → L < 16 → LvAt W D M L
  path : PathAt W g D M k
  off : g ∉ blks D (ins M k n)
theorem pathAt_zero {w : World} {g D : Nat} {ns : List Nd} {k : Nat} (h : PathAt w g D ns k) (hs : ∀ n ∈ ns, 1 ≤ n.h ∧ n.h ≤ 16) (hk : k ≤ ns.length) : w.cell? ⟨g, 1, none⟩ = some (.int .i64 (k : Int)) := by
  have := (h.cells 0 (by omega)).2
  rw [own_bot hs hk] at this
  simpa using this
theorem Jn.same {w W W' : World} {g D : Nat} {sd c : Int} {M : List Nd} {k : Nat} {n : Nd} {j : Nat} (h : Jn w W g D sd c M k n j) (ho : Only [] W W') (hk : k ≤ M.length) : Jn w W' g D sd c M k n j :=
  ⟨h.only.trans ho (by simp), h.base.keep ho (fun _ _ => List.not_mem_nil), fun L hL => h.base.lv ho (fun _ _ => List.not_mem_nil) (h.done L hL), fun L h1 h2 => (h.rest L h1 h2).keep (fun q b o hq => by
    obtain ⟨q', hq'⟩ := ow_mem_ins hk n hq
    have hb := h.base.lt (wrs_blks (h.base.ow_mem hq'))
    have := ho.2 b hb List.not_mem_nil
    exact ⟨World.cell?_of_block (w := W) (a := ⟨b, _, none⟩) this, World.cell?_of_block (w := W) (a := ⟨b, _, none⟩) this⟩), h.path.keep ho List.not_mem_nil, h.off⟩
/-- A level's spot and link, as the walk reads them. -/
theorem Jn.facts {w W : World} {g D : Nat} {sd c : Int} {M : List Nd} {k : Nat} {n : Nd} {j : Nat} (h : Jn w W g D sd c M k n j) (hj : j < 16) (hk : k ≤ M.length) :
    ∃ b o m, Ow D M j (own M j k) b o ∧ j < m ∧ W.cell? ⟨g, j * 2, none⟩ = some (.slice (some ⟨b, o, none⟩) m m) ∧ W.cell? ⟨g, j * 2 + 1, none⟩ = some (.int .i64 ((own M j k : Nat) : Int)) ∧
      W.cell? ⟨b, o + j * 2, none⟩ = some (.pointer (lnk j (M.drop (own M j k))).1) ∧ W.cell? ⟨b, o + j * 2 + 1, none⟩ = some (.int .i64 (((lnk j (M.drop (own M j k))).2 : Nat) : Int)) ∧ (∀ i, W.frozen? ⟨b, i, none⟩ = false) := by
  obtain ⟨b, o, ho⟩ := ow_own D M j k
  obtain ⟨m, hm, hlm⟩ := ow_lkb ho
  obtain ⟨c0, c1⟩ := h.path.cells j hj
  obtain ⟨l1, l2⟩ := h.rest j (Nat.le_refl j) hj _ _ _ ho
  unfold lkV at c0
  rw [hm] at c0
  refine ⟨b, o, m, ho, hlm hj, c0, c1, by rw [Nat.mul_comm]; exact l1, by rw [Nat.mul_comm]; exact l2, h.base.ow_free (ow_at_ins hk n ho)⟩
theorem drew_cell (w : World) (p : Addr) : w.drew.cell? p = w.cell? p := rfl
theorem Base.drew {w : World} {D : Nat} {sd c : Int} {ns : List Nd} (h : Base w D sd c ns) : Base w.drew D sd c ns := h.keep ((Only.refl [] w).drew) (fun _ _ => List.not_mem_nil)
theorem PathAt.drew {w : World} {g D : Nat} {ns : List Nd} {k : Nat} (h : PathAt w g D ns k) : PathAt w.drew g D ns k := h.keep ((Only.refl [] w).drew) List.not_mem_nil
/-- Behind a level's writes. -/
theorem Jn.after {w W W' : World} {g D : Nat} {sd c : Int} {M : List Nd} {k : Nat} {n : Nd} {j : Nat} (h : Jn w W g D sd c M k n j) (hk : k ≤ M.length) (hj : j < 16) {b o : Nat} (ho : Ow D M j (own M j k) b o)
    (hO : Only (wrs D (ins M k n)) W W') (hB : Base W' D sd c (ins M k n)) (hT : Turned W W' b o n.lb j) (hn : LvAt W' D (ins M k n) j) : Jn w W' g D sd c M k n (j + 1) := by
  have hI := ow_at_ins hk n ho
  have hne := (h.base.sep n (mem_ins M k n)).1
  refine ⟨h.only.trans hO (fun x hx => Or.inl hx), hB, fun L hL => ?_, fun L h1 h2 => ?_, h.path.keep hO (fun hg => h.off (wrs_blks hg)), h.off⟩
  · by_cases he : L = j
    · subst he; exact hn
    · exact lv_other h.base hI (fun q' b' o' hq' => ⟨q', hq'⟩) hne hT he (h.done L (by omega))
  · exact lv_other h.base hI (fun q' b' o' hq' => ow_mem_ins hk n hq') hne hT (by omega) (h.rest L (by omega) h2)
theorem ow_wr {w : World} {D : Nat} {sd c : Int} {ns : List Nd} (h : Base w D sd c ns) {L q b o : Nat} (hq : Ow D ns L q b o) (hL : L < 16) (e : Nat) (he : e ≤ 1) : (b = D ∧ 0 < o + L * 2 + e ∧ o + L * 2 + e < 33) ∨ ∃ n ∈ ns, b = n.lb := by
  rcases hq with ⟨_, rfl, rfl⟩ | ⟨m, a1, _, _, rfl, _⟩
  · exact Or.inl ⟨rfl, by omega, by omega⟩
  · exact Or.inr ⟨m, List.mem_of_getElem? a1, rfl⟩
theorem Jn.hit {w W : World} {g D : Nat} {sd c : Int} {M : List Nd} {k : Nat} {n : Nd} {j : Nat} (h : Jn w W g D sd c M k n j) (hk : k ≤ M.length) (hj : j < 16) (hjn : j < n.h) {b o : Nat} (ho : Ow D M j (own M j k) b o) (x y z : Int)
    (hy : y = ((lnk j (M.drop (own M j k))).2 : Int) - ((k : Int) - ((own M j k : Nat) : Int))) (hz : z = (k : Int) - ((own M j k : Nat) : Int) + 1) :
    Jn w ((((((W.setCell ⟨b, o + j * 2 + 1, none⟩ (.int .i64 x)).setCell ⟨n.lb, j * 2, none⟩ (.pointer (lnk j (M.drop (own M j k))).1)).setCell ⟨n.lb, j * 2 + 1, none⟩ (.int .i64 y)).drew.drew).setCell ⟨b, o + j * 2, none⟩ (.pointer (some ⟨n.nb, 0, none⟩))).setCell ⟨b, o + j * 2 + 1, none⟩ (.int .i64 z)) g D sd c M k n (j + 1) := by
  have hI := ow_at_ins hk n ho
  have hN := ow_new hk n (D := D) hjn
  have hm := mem_ins M k n
  have hle := own_le M j k
  have hbl : b ≠ n.lb := fun e => by
    have := (h.base.ow_inj hI (e ▸ hN)).1
    omega
  have w1 : b ∈ wrs D (ins M k n) := h.base.ow_mem hI
  have w2 : n.lb ∈ wrs D (ins M k n) := h.base.ow_mem hN
  obtain ⟨l1, l2⟩ := h.rest j (Nat.le_refl j) hj _ _ _ ho
  rw [Nat.mul_comm] at l1 l2
  obtain ⟨CL, hCL, hCz⟩ := h.base.link n hm
  obtain ⟨v0, hv0⟩ : ∃ v, W.cell? ⟨n.lb, j * 2, none⟩ = some v := ⟨CL[j * 2]'(by omega), by simp [World.cell?, hCL]⟩
  obtain ⟨v1, hv1⟩ : ∃ v, W.cell? ⟨n.lb, j * 2 + 1, none⟩ = some v := ⟨CL[j * 2 + 1]'(by omega), by simp [World.cell?, hCL]⟩
  have hBs := ((((((h.base.set (ow_wr h.base hI hj 1 (by omega)) (.int .i64 x)).set (b := n.lb) (off := j * 2) (Or.inr ⟨n, hm, rfl⟩) (.pointer (lnk j (M.drop (own M j k))).1)).set (b := n.lb) (off := j * 2 + 1) (Or.inr ⟨n, hm, rfl⟩) (.int .i64 y)).drew.drew).set (ow_wr h.base hI hj 0 (by omega)) (.pointer (some ⟨n.nb, 0, none⟩))).set (ow_wr h.base hI hj 1 (by omega)) (.int .i64 z))
  have hOs := (((((((Only.refl (wrs D (ins M k n)) W).set (p := ⟨b, o + j * 2 + 1, none⟩) (Or.inl w1) (.int .i64 x)).set (p := ⟨n.lb, j * 2, none⟩) (Or.inl w2) (.pointer (lnk j (M.drop (own M j k))).1)).set (p := ⟨n.lb, j * 2 + 1, none⟩) (Or.inl w2) (.int .i64 y)).drew.drew).set (p := ⟨b, o + j * 2, none⟩) (Or.inl w1) (.pointer (some ⟨n.nb, 0, none⟩))).set (p := ⟨b, o + j * 2 + 1, none⟩) (Or.inl w1) (.int .i64 z))
  have hT : Turned W ((((((W.setCell ⟨b, o + j * 2 + 1, none⟩ (.int .i64 x)).setCell ⟨n.lb, j * 2, none⟩ (.pointer (lnk j (M.drop (own M j k))).1)).setCell ⟨n.lb, j * 2 + 1, none⟩ (.int .i64 y)).drew.drew).setCell ⟨b, o + j * 2, none⟩ (.pointer (some ⟨n.nb, 0, none⟩))).setCell ⟨b, o + j * 2 + 1, none⟩ (.int .i64 z)) b o n.lb j := by
    intro b' i h1 h2
    rw [set_other _ (by omega), set_other _ (by omega), drew_cell, drew_cell, set_other _ (by omega), set_other _ (by omega), set_other _ (by omega)]
  refine h.after hk hj ho hOs hBs hT (join_hit h.base hk ho hjn (h.rest j (Nat.le_refl j) hj) hT ?_ ?_ ?_ ?_)
  · rw [Nat.mul_comm 2 j, set_other _ (by omega)]
    refine World.cell?_setCell_same _ _ _ (u := .pointer (lnk j (M.drop (own M j k))).1) ?_
    rw [drew_cell, drew_cell, set_other _ (by omega), set_other _ (by omega), set_other _ (by omega)]
    exact l1
  · rw [Nat.mul_comm 2 j, show ((k - own M j k + 1 : Nat) : Int) = z by omega]
    refine World.cell?_setCell_same _ _ _ (u := .int .i64 x) ?_
    rw [set_other _ (by omega), drew_cell, drew_cell, set_other _ (by omega), set_other _ (by omega)]
    exact World.cell?_setCell_same _ _ _ l2
  · rw [Nat.mul_comm 2 j, set_other _ (by omega), set_other _ (by omega), drew_cell, drew_cell, set_other _ (by omega)]
    refine World.cell?_setCell_same _ _ _ (u := v0) ?_
    rw [set_other _ (by omega)]
    exact hv0
  · have hl := lnk_own (M := M) (L := j) hk
    rw [Nat.mul_comm 2 j, set_other _ (by omega), set_other _ (by omega), drew_cell, drew_cell, show (((lnk j (M.drop (own M j k))).2 - (k - own M j k) : Nat) : Int) = y by rw [hy, hl]; simp only; omega]
    refine World.cell?_setCell_same _ _ _ (u := v1) ?_
    rw [set_other _ (by omega), set_other _ (by omega)]
    exact hv1
theorem Jn.miss {w W : World} {g D : Nat} {sd c : Int} {M : List Nd} {k : Nat} {n : Nd} {j : Nat} (h : Jn w W g D sd c M k n j) (hk : k ≤ M.length) (hj : j < 16) (hjn : ¬ j < n.h) {b o : Nat} (ho : Ow D M j (own M j k) b o) (x : Int)
    (hx : x = ((lnk j (M.drop (own M j k))).2 : Int) + 1) : Jn w (W.setCell ⟨b, o + j * 2 + 1, none⟩ (.int .i64 x)) g D sd c M k n (j + 1) := by
  have hI := ow_at_ins hk n ho
  obtain ⟨l1, l2⟩ := h.rest j (Nat.le_refl j) hj _ _ _ ho
  rw [Nat.mul_comm] at l1 l2
  have hT : ∀ b' i, (b' ≠ b ∨ i ≠ o + 2 * j + 1) → (W.setCell ⟨b, o + j * 2 + 1, none⟩ (.int .i64 x)).cell? ⟨b', i, none⟩ = W.cell? ⟨b', i, none⟩ := fun b' i h1 => set_other _ (by omega)
  refine h.after hk hj ho ((Only.refl _ W).set (p := ⟨b, o + j * 2 + 1, none⟩) (Or.inl (h.base.ow_mem hI)) _) (h.base.set (ow_wr h.base hI hj 1 (by omega)) _) (fun b' i h1 h2 => hT b' i (by omega)) (join_miss h.base hk ho hjn (h.rest j (Nat.le_refl j) hj) hT ?_)
  rw [Nat.mul_comm 2 j, show (((lnk j (M.drop (own M j k))).2 + 1 : Nat) : Int) = x by rw [hx]; simp]
  exact World.cell?_setCell_same _ _ _ l2
set_option maxHeartbeats 4000000 in
theorem join_any {w : World} {g D : Nat} {sd c : Int} {M : List Nd} {k : Nat} {n : Nd} (hk : k ≤ M.length) (hlen : M.length ≤ 1000000) (hJ : Jn w w g D sd c M k n 0) :
    Calls Tryd.prog 28 #[.pointer (some ⟨g, 0, none⟩), .pointer (some ⟨n.nb, 0, none⟩)] w fun e w' => e = .returned (.tuple #[]) ∧ Jn w w' g D sd c M k n 16 := by
  have hJH := Lib.hid hJ
  have hkH := Lib.hid hk
  have hlenH := Lib.hid hlen
  clear hJ hk hlen
  go_enter Tryd.func28, Tryd.ntmps28
  go_wp2_with fail
  go_loopw [10] (fun s10 wr => ∃ (j : Nat), j ≤ 16 ∧ s10 = .int .i64 j ∧ Hid (Jn w wr g D sd c M k n j)) (fun s10 _ => 16 - (intOf s10).toNat)
  case atStart => exact ⟨0, by omega, rfl, hJH⟩
  case round =>
    obtain ⟨j, hj, rfl, hT⟩ := hrel
    by_cases hlt : j < 16
    · obtain ⟨b, o, m, ho, hjm, p0, p1, l0, l1, fz⟩ := hT.out.facts hlt hkH.out
      have hdj : decide ((j : Int) < 16) = true := decide_eq_true (by omega)
      have hltH := Lib.hid hlt
      have hpa := run_pa g j (j : Int) rfl hlt
      have hix := run_lk b o m j (j : Int) rfl hjm
      have p0p := fun o => cell_past p0 o
      have p1p := fun o => cell_past p1 o
      go_wp2_with fail
      go_region
      have hTo := hT.out.same (((Only.refl [] wr).alloc (.cells #[.slice (some ⟨b, o, none⟩) m m, .int .i64 ((own M j k : Nat) : Int)] 59)).drew) hkH.out
      have hTn := heap_alloc_new wr (.cells #[.slice (some ⟨b, o, none⟩) m m, .int .i64 ((own M j k : Nat) : Int)] 59)
      have hTn : (wr.alloc (.cells #[.slice (some ⟨b, o, none⟩) m m, .int .i64 ((own M j k : Nat) : Int)] 59)).drew.heap[wr.heap.size]? = some (.cells #[.slice (some ⟨b, o, none⟩) m m, .int .i64 ((own M j k : Nat) : Int)] 59 (0, 0)) := hTn
      have hTT : ∀ x ∈ blks D (ins M k n), x ≠ wr.heap.size := fun x hx e => by have := hT.out.base.lt hx; omega
      generalize (wr.alloc (.cells #[.slice (some ⟨b, o, none⟩) m m, .int .i64 ((own M j k : Nat) : Int)] 59)).drew = wo at *
      generalize wr.heap.size = T at *
      clear p0 p1 l0 l1 fz p0p p1p hT
      have t0 : wo.cell? ⟨T, 0, none⟩ = some (.slice (some ⟨b, o, none⟩) m m) := Lib.cell_of_heap hTn 0
      have t1 : wo.cell? ⟨T, 1, none⟩ = some (.int .i64 ((own M j k : Nat) : Int)) := Lib.cell_of_heap hTn 1
      obtain ⟨b', o', m', ho', _, _, _, l0, l1, fz⟩ := hTo.facts hlt hkH.out
      obtain ⟨rfl, rfl⟩ := ow_fun ho ho'
      have hB := hTo.base
      have hmn : n ∈ ins M k n := mem_ins M k n
      obtain ⟨_, _, n2⟩ := hB.node_cells hmn
      have hO := ow_at_ins hkH.out n ho
      have hnb : n.nb ≠ b' := hB.nb_ne hmn hO
      have n2p : ∀ i v, (wo.setCell ⟨b', i, none⟩ v).cell? ⟨n.nb, 2, none⟩ = some (.slice (some ⟨n.lb, 0, none⟩) n.h n.h) := fun i v => by rw [set_other _ (Or.inl hnb)]; exact n2
      have hu : (lnk j (M.drop (own M j k))).2 ≤ 1000000 := by have := lnk_len j (M.drop (own M j k)); have := hlenH.out; simp only [List.length_drop] at *; omega
      have hq : own M j k ≤ k := own_le M j k
      generalize ha0 : (lnk j (M.drop (own M j k))).1 = a0 at *
      have hu1 : wrap64 (((lnk j (M.drop (own M j k))).2 : Int) + 1) = ((lnk j (M.drop (own M j k))).2 : Int) + 1 := IntWalk.wrap64_in _ (by omega)
      by_cases hjn : j < n.h
      · have hdn : decide ((j : Int) < (n.h : Int)) = true := decide_eq_true (by omega)
        have hdn2 : decide (j < n.h) = true := decide_eq_true hjn
        have hhit := hTo.hit hkH.out hlt hjn ho ((lnk j (M.drop (own M j k))).2 + 1 : Int) (((lnk j (M.drop (own M j k))).2 : Int) - ((k : Int) - ((own M j k : Nat) : Int))) ((k : Int) - ((own M j k : Nat) : Int) + 1) rfl rfl
        rw [ha0] at hhit
        have hhitH := Lib.hid hhit
        clear hhit
        have hTb : T ≠ b' := fun e => hTT b' (wrs_blks (hB.ow_mem hO)) e.symm
        have hgb : g ≠ b' := fun e => hTo.off (e ▸ wrs_blks (hB.ow_mem hO))
        have hbl : b' ≠ n.lb := fun e => by
          have := (hB.ow_inj hO (e ▸ ow_new hkH.out n (D := D) hjn)).1
          omega
        have g1 := pathAt_zero hTo.path (fun x hx => hB.hs x (mem_of_ins hx)) hkH.out
        obtain ⟨CL, hCL, hCz⟩ := hB.link n hmn
        obtain ⟨CB, tB, hCB⟩ := ow_block hB hO
        go_upto_if 33 with (fail)
        have z0 := (set_other (w := wo) (i := o' + j * 2 + 1) (.int .i64 ((lnk j (M.drop (own M j k))).2 + 1 : Int)) (Or.inl hTb)).trans t1
        have z1 := (set_other (w := wo) (i := o' + j * 2 + 1) (.int .i64 ((lnk j (M.drop (own M j k))).2 + 1 : Int)) (Or.inl hgb)).trans g1
        have z2 := n2p (o' + j * 2 + 1) (.int .i64 ((lnk j (M.drop (own M j k))).2 + 1 : Int))
        have z3 := (set_other (w := wo) (b := b') (i := o' + j * 2 + 1) (b' := b') (.int .i64 ((lnk j (M.drop (own M j k))).2 + 1 : Int)) (Or.inr (show o' + j * 2 ≠ o' + j * 2 + 1 by omega))).trans l0
        have z4 := World.cell?_setCell_same wo ⟨b', o' + j * 2 + 1, none⟩ (.int .i64 ((lnk j (M.drop (own M j k))).2 + 1 : Int)) l1
        have z5 := (Below.heap_setCell wo ⟨b', o' + j * 2 + 1, none⟩ (.int .i64 ((lnk j (M.drop (own M j k))).2 + 1 : Int)) n.lb hbl.symm).trans hCL
        have z6 := Joins.block_setCell (i := o' + j * 2 + 1) hCB (.int .i64 ((lnk j (M.drop (own M j k))).2 + 1 : Int))
        have hx1 : IntKind.i64.wrap ((k : Int) - ((own M j k : Nat) : Int)) = (k : Int) - ((own M j k : Nat) : Int) := IntWalk.i64_in _ (by have := hkH.out; have := hlenH.out; omega)
        have hx2 : IntKind.i64.wrap ((k : Int) - ((own M j k : Nat) : Int) + 1) = (k : Int) - ((own M j k : Nat) : Int) + 1 := IntWalk.i64_in _ (by have := hkH.out; have := hlenH.out; omega)
        have hx3 : IntKind.i64.wrap (((lnk j (M.drop (own M j k))).2 : Int) + 1 - ((k : Int) - ((own M j k : Nat) : Int) + 1)) = ((lnk j (M.drop (own M j k))).2 : Int) - ((k : Int) - ((own M j k : Nat) : Int)) := by rw [show ((lnk j (M.drop (own M j k))).2 : Int) + 1 - ((k : Int) - ((own M j k : Nat) : Int) + 1) = ((lnk j (M.drop (own M j k))).2 : Int) - ((k : Int) - ((own M j k : Nat) : Int)) by omega]; exact IntWalk.i64_in _ (by have := hkH.out; have := hlenH.out; omega)
        generalize hw4 : wo.setCell ⟨b', o' + j * 2 + 1, none⟩ (.int .i64 ((lnk j (M.drop (own M j k))).2 + 1 : Int)) = w4 at *
        generalize hue : ((lnk j (M.drop (own M j k))).2 : Int) = u at *
        generalize hqe : ((own M j k : Nat) : Int) = q at *
        have z7 : w4.frozen? ⟨b', o' + j * 2, none⟩ = false := by simp [World.frozen?, z6]
        have z8 : w4.frozen? ⟨b', o' + j * 2 + 1, none⟩ = false := by simp [World.frozen?, z6]
        have hix4 := run_lk n.lb 0 n.h j (j : Int) rfl hjn
        rw [Nat.zero_add] at hix4
        obtain ⟨v0, hv0⟩ : ∃ v, CL[j * 2]? = some v := ⟨_, Array.getElem?_eq_getElem (by omega)⟩
        obtain ⟨v1, hv1⟩ : ∃ v, CL[j * 2 + 1]? = some v := ⟨_, Array.getElem?_eq_getElem (by omega)⟩
        have y0 : w4.cell? ⟨n.lb, j * 2, none⟩ = some v0 := by simp [World.cell?, z5, hv0]
        have y1 : ∀ v, (w4.setCell ⟨n.lb, j * 2, none⟩ v).cell? ⟨n.lb, j * 2 + 1, none⟩ = some v1 := fun v => by rw [set_other _ (Or.inr (by omega))]; simp [World.cell?, z5, hv1]
        have y2 : ∀ i, w4.frozen? ⟨n.lb, i, none⟩ = false := fun i => by simp [World.frozen?, z5]
        have y3 : ∀ v i, (w4.setCell ⟨n.lb, j * 2, none⟩ v).frozen? ⟨n.lb, i, none⟩ = false := fun v i => set_frozen v z5
        go_wp2_with fail
        go_region
        go_wp2_with fail
        go_region
        have x6 : (((w4.setCell ⟨n.lb, j * 2, none⟩ (.pointer a0)).setCell ⟨n.lb, j * 2 + 1, none⟩ (.int .i64 (u - ((k : Int) - q)))).drew.drew).heap[b']? = some (.cells (CB.setIfInBounds (o' + j * 2 + 1) (.int .i64 (u + 1))) tB (0, 0)) := by
          show ((w4.setCell ⟨n.lb, j * 2, none⟩ (.pointer a0)).setCell ⟨n.lb, j * 2 + 1, none⟩ (.int .i64 (u - ((k : Int) - q)))).heap[b']? = _
          rw [Below.heap_setCell _ _ _ _ hbl, Below.heap_setCell _ _ _ _ hbl]
          exact z6
        have x0 : (((w4.setCell ⟨n.lb, j * 2, none⟩ (.pointer a0)).setCell ⟨n.lb, j * 2 + 1, none⟩ (.int .i64 (u - ((k : Int) - q)))).drew.drew).cell? ⟨b', o' + j * 2, none⟩ = some (.pointer a0) := by
          rw [drew_cell, drew_cell, set_other _ (Or.inl hbl), set_other _ (Or.inl hbl)]; exact z3
        have x1 : ∀ v, ((((w4.setCell ⟨n.lb, j * 2, none⟩ (.pointer a0)).setCell ⟨n.lb, j * 2 + 1, none⟩ (.int .i64 (u - ((k : Int) - q)))).drew.drew).setCell ⟨b', o' + j * 2, none⟩ v).cell? ⟨b', o' + j * 2 + 1, none⟩ = some (.int .i64 (u + 1)) := fun v => by
          rw [set_other _ (Or.inr (by omega)), drew_cell, drew_cell, set_other _ (Or.inl hbl), set_other _ (Or.inl hbl)]; exact z4
        generalize ((w4.setCell ⟨n.lb, j * 2, none⟩ (.pointer a0)).setCell ⟨n.lb, j * 2 + 1, none⟩ (.int .i64 (u - ((k : Int) - q)))).drew.drew = w5 at *
        have x2 : ∀ i, w5.frozen? ⟨b', i, none⟩ = false := fun i => by simp [World.frozen?, x6]
        have x3 : ∀ v i, (w5.setCell ⟨b', o' + j * 2, none⟩ v).frozen? ⟨b', i, none⟩ = false := fun v i => set_frozen v x6
        clear z0 z1 z2 z3 z4 z5 z6 z7 z8 y0 y1 y2 y3 hix4 hx1 hx2 hx3 hu1
        go_wp2_with fail
        go_roundw
        case rel => exact ⟨j + 1, hltH.out, by go_num, hhitH⟩
        case measure => have := hltH.out; simp [intOf]; omega
      · have hdn : decide ((j : Int) < (n.h : Int)) = false := decide_eq_false (by omega)
        have hdn2 : decide (j < n.h) = false := decide_eq_false hjn
        have hmiss := Lib.hid (hTo.miss hkH.out hlt hjn ho ((lnk j (M.drop (own M j k))).2 + 1 : Int) rfl)
        have hub0 : 0 ≤ ((lnk j (M.drop (own M j k))).2 : Int) := by omega
        have hub1 : ((lnk j (M.drop (own M j k))).2 : Int) ≤ 1000000 := by omega
        generalize ((lnk j (M.drop (own M j k))).2 : Int) = u at *
        clear hjn
        go_wp2_with fail
        go_roundw
        case rel => exact ⟨j + 1, hltH.out, by go_num, hmiss⟩
        case measure => have := hltH.out; simp [intOf]; omega
    · have hj16 : j = 16 := by omega
      subst hj16
      go_wp2_with fail
      go_end0
      exact ⟨rfl, hT.out⟩
end Go.Proofs.YtijfipghoilpeaaDoor
