/-
  The walk of part. Premises: a path to a place of a list as it lies; the pair that goes is at the place.
-/
import Derived.Test.YtijfipghoilpeaaDoorH
namespace Go.Proofs.YtijfipghoilpeaaDoor
open Go.RowKit

/-- While a pair goes: j levels are done. -/
structure Pt (w W : World) (g D : Nat) (sd c : Int) (M : List Nd) (k : Nat) (n : Nd) (j : Nat) : Prop where
  only : Only (wrs D (ins M k n)) w W
  base : Base W D sd c (ins M k n)
  done : ∀ L, L < j → LvAt W D M L
  rest : ∀ L, j ≤ L → L < 16 → LvAt W D (ins M k n) L
  path : PathAt W g D (ins M k n) k
  off : g ∉ blks D (ins M k n)
theorem Pt.same {w W W' : World} {g D : Nat} {sd c : Int} {M : List Nd} {k : Nat} {n : Nd} {j : Nat} (h : Pt w W g D sd c M k n j) (ho : Only [] W W') (hk : k ≤ M.length) : Pt w W' g D sd c M k n j :=
  ⟨h.only.trans ho (by simp), h.base.keep ho (fun _ _ => List.not_mem_nil), fun L hL => (h.done L hL).keep (fun q b o hq => by
    obtain ⟨q', hq'⟩ := ow_mem_ins hk n hq
    have hb := h.base.lt (wrs_blks (h.base.ow_mem hq'))
    have := ho.2 b hb List.not_mem_nil
    exact ⟨World.cell?_of_block (w := W) (a := ⟨b, _, none⟩) this, World.cell?_of_block (w := W) (a := ⟨b, _, none⟩) this⟩), fun L h1 h2 => h.base.lv ho (fun _ _ => List.not_mem_nil) (h.rest L h1 h2), h.path.keep ho List.not_mem_nil, h.off⟩
theorem Pt.facts {w W : World} {g D : Nat} {sd c : Int} {M : List Nd} {k : Nat} {n : Nd} {j : Nat} (h : Pt w W g D sd c M k n j) (hj : j < 16) (hk : k ≤ M.length) :
    ∃ b o m, Ow D M j (own M j k) b o ∧ j < m ∧ W.cell? ⟨g, j * 2, none⟩ = some (.slice (some ⟨b, o, none⟩) m m) ∧ W.cell? ⟨g, j * 2 + 1, none⟩ = some (.int .i64 ((own M j k : Nat) : Int)) ∧
      W.cell? ⟨b, o + j * 2, none⟩ = some (.pointer (lnk j ((ins M k n).drop (own M j k))).1) ∧ W.cell? ⟨b, o + j * 2 + 1, none⟩ = some (.int .i64 (((lnk j ((ins M k n).drop (own M j k))).2 : Nat) : Int)) ∧ (∀ i, W.frozen? ⟨b, i, none⟩ = false) := by
  obtain ⟨b, o, ho⟩ := ow_own D M j k
  have hI := ow_at_ins hk n ho
  obtain ⟨m, hm, hlm⟩ := ow_lkb hI
  obtain ⟨c0, c1⟩ := h.path.cells j hj
  rw [own_ins hk] at c0 c1
  obtain ⟨l1, l2⟩ := h.rest j (Nat.le_refl j) hj _ _ _ hI
  unfold lkV at c0
  rw [hm] at c0
  exact ⟨b, o, m, ho, hlm hj, c0, c1, by rw [Nat.mul_comm]; exact l1, by rw [Nat.mul_comm]; exact l2, h.base.ow_free hI⟩
/-- Behind a level's writes. -/
theorem Pt.after {w W W' : World} {g D : Nat} {sd c : Int} {M : List Nd} {k : Nat} {n : Nd} {j : Nat} (h : Pt w W g D sd c M k n j) (hk : k ≤ M.length) (hj : j < 16) {b o : Nat} (ho : Ow D M j (own M j k) b o)
    (hO : Only (wrs D (ins M k n)) W W') (hB : Base W' D sd c (ins M k n)) (hT : Turned W W' b o n.lb j) (hn : LvAt W' D M j) : Pt w W' g D sd c M k n (j + 1) := by
  have hI := ow_at_ins hk n ho
  have hne := (h.base.sep n (mem_ins M k n)).1
  refine ⟨h.only.trans hO (fun x hx => Or.inl hx), hB, fun L hL => ?_, fun L h1 h2 => ?_, h.path.keep hO (fun hg => h.off (wrs_blks hg)), h.off⟩
  · by_cases he : L = j
    · subst he; exact hn
    · exact lv_other h.base hI (fun q' b' o' hq' => ow_mem_ins hk n hq') hne hT he (h.done L (by omega))
  · exact lv_other h.base hI (fun q' b' o' hq' => ⟨q', hq'⟩) hne hT (by omega) (h.rest L (by omega) h2)
theorem Pt.hit {w W : World} {g D : Nat} {sd c : Int} {M : List Nd} {k : Nat} {n : Nd} {j : Nat} (h : Pt w W g D sd c M k n j) (hk : k ≤ M.length) (hj : j < 16) {b o : Nat} (ho : Ow D M j (own M j k) b o) (x y : Int) (a : Option Addr)
    (ha : a = (lnk j (M.drop k)).1) (hy : y = (k : Int) - ((own M j k : Nat) : Int) + ((lnk j (M.drop k)).2 : Int)) :
    Pt w ((((W.setCell ⟨b, o + j * 2 + 1, none⟩ (.int .i64 x)).setCell ⟨b, o + j * 2, none⟩ (.pointer a))).setCell ⟨b, o + j * 2 + 1, none⟩ (.int .i64 y)).drew g D sd c M k n (j + 1) := by
  have hI := ow_at_ins hk n ho
  have hle := own_le M j k
  have w1 : b ∈ wrs D (ins M k n) := h.base.ow_mem hI
  obtain ⟨l1, l2⟩ := h.rest j (Nat.le_refl j) hj _ _ _ hI
  rw [Nat.mul_comm] at l1 l2
  have hBs := (((h.base.set (ow_wr h.base hI hj 1 (by omega)) (.int .i64 x)).set (ow_wr h.base hI hj 0 (by omega)) (.pointer a)).set (ow_wr h.base hI hj 1 (by omega)) (.int .i64 y)).drew
  have hOs := ((((Only.refl (wrs D (ins M k n)) W).set (p := ⟨b, o + j * 2 + 1, none⟩) (Or.inl w1) (.int .i64 x)).set (p := ⟨b, o + j * 2, none⟩) (Or.inl w1) (.pointer a)).set (p := ⟨b, o + j * 2 + 1, none⟩) (Or.inl w1) (.int .i64 y)).drew
  have hl := lnk_own (M := M) (L := j) hk
  refine h.after hk hj ho hOs hBs (fun b' i h1 h2 => ?_) (part_any h.base hk ho (h.rest j (Nat.le_refl j) hj) (fun b' i h1 => ?_) ?_ ?_)
  · rw [drew_cell, set_other _ (by omega), set_other _ (by omega), set_other _ (by omega)]
  · rw [drew_cell, set_other _ (by omega), set_other _ (by omega), set_other _ (by omega)]
  · rw [Nat.mul_comm 2 j, drew_cell, set_other _ (by omega), hl, ← ha]
    refine World.cell?_setCell_same _ _ _ (u := .pointer (lnk j ((ins M k n).drop (own M j k))).1) ?_
    rw [set_other _ (by omega)]
    exact l1
  · rw [Nat.mul_comm 2 j, drew_cell, show (((lnk j (M.drop (own M j k))).2 : Nat) : Int) = y by rw [hy, hl]; simp only; omega]
    refine World.cell?_setCell_same _ _ _ (u := .int .i64 x) ?_
    rw [set_other _ (by omega)]
    exact World.cell?_setCell_same _ _ _ l2
theorem Pt.miss {w W : World} {g D : Nat} {sd c : Int} {M : List Nd} {k : Nat} {n : Nd} {j : Nat} (h : Pt w W g D sd c M k n j) (hk : k ≤ M.length) (hj : j < 16) (hjn : ¬ j < n.h) {b o : Nat} (ho : Ow D M j (own M j k) b o) (x : Int)
    (hx : x = ((lnk j ((ins M k n).drop (own M j k))).2 : Int) - 1) : Pt w (W.setCell ⟨b, o + j * 2 + 1, none⟩ (.int .i64 x)) g D sd c M k n (j + 1) := by
  have hI := ow_at_ins hk n ho
  obtain ⟨l1, l2⟩ := h.rest j (Nat.le_refl j) hj _ _ _ hI
  rw [Nat.mul_comm] at l1 l2
  have hm := lnk_own_miss (M := M) hk hjn
  refine h.after hk hj ho ((Only.refl _ W).set (p := ⟨b, o + j * 2 + 1, none⟩) (Or.inl (h.base.ow_mem hI)) _) (h.base.set (ow_wr h.base hI hj 1 (by omega)) _) (fun b' i h1 h2 => set_other _ (by omega)) (part_any h.base hk ho (h.rest j (Nat.le_refl j) hj) (fun b' i h1 => set_other _ (by omega)) ?_ ?_)
  · rw [Nat.mul_comm 2 j, set_other _ (by omega), l1, hm]
  · rw [Nat.mul_comm 2 j, show (((lnk j (M.drop (own M j k))).2 : Nat) : Int) = x by rw [hx, hm]; simp only; omega]
    exact World.cell?_setCell_same _ _ _ l2
set_option maxHeartbeats 4000000 in
theorem part_walk {w : World} {g D : Nat} {sd c : Int} {M : List Nd} {k : Nat} {n : Nd} (hk : k ≤ M.length) (hlen : M.length ≤ 1000000) (hJ : Pt w w g D sd c M k n 0) :
    Calls Tryd.prog 27 #[.pointer (some ⟨g, 0, none⟩), .pointer (some ⟨n.nb, 0, none⟩)] w fun e w' => e = .returned (.tuple #[]) ∧ Pt w w' g D sd c M k n 16 := by
  have hJH := Lib.hid hJ
  have hkH := Lib.hid hk
  have hlenH := Lib.hid hlen
  clear hJ hk hlen
  go_enter Tryd.func27, Tryd.ntmps27
  go_wp2_with fail
  go_loopw [9] (fun s9 wr => ∃ (j : Nat), j ≤ 16 ∧ s9 = .int .i64 j ∧ Hid (Pt w wr g D sd c M k n j)) (fun s9 _ => 16 - (intOf s9).toNat)
  case atStart => exact ⟨0, by omega, rfl, hJH⟩
  case round =>
    obtain ⟨j, hj, rfl, hT⟩ := hrel
    by_cases hlt : j < 16
    · obtain ⟨b, o, m, ho, hjm, p0, p1, l0, l1, fz⟩ := hT.out.facts hlt hkH.out
      have hdj : decide ((j : Int) < 16) = true := decide_eq_true (by omega)
      have hltH := Lib.hid hlt
      have hpa := run_pa g j (j : Int) rfl hlt
      have hix := run_lk b o m j (j : Int) rfl hjm
      have p0p := fun o => cell_past p0 o
      have p1p := fun o => cell_past p1 o
      go_wp2_with fail
      go_region
      have hTo := hT.out.same (((Only.refl [] wr).alloc (.cells #[.slice (some ⟨b, o, none⟩) m m, .int .i64 ((own M j k : Nat) : Int)] 59)).drew) hkH.out
      have hTn := heap_alloc_new wr (.cells #[.slice (some ⟨b, o, none⟩) m m, .int .i64 ((own M j k : Nat) : Int)] 59)
      have hTn : (wr.alloc (.cells #[.slice (some ⟨b, o, none⟩) m m, .int .i64 ((own M j k : Nat) : Int)] 59)).drew.heap[wr.heap.size]? = some (.cells #[.slice (some ⟨b, o, none⟩) m m, .int .i64 ((own M j k : Nat) : Int)] 59 (0, 0)) := hTn
      have hTT : ∀ x ∈ blks D (ins M k n), x ≠ wr.heap.size := fun x hx e => by have := hT.out.base.lt hx; omega
      generalize (wr.alloc (.cells #[.slice (some ⟨b, o, none⟩) m m, .int .i64 ((own M j k : Nat) : Int)] 59)).drew = wo at *
      generalize wr.heap.size = T at *
      clear p0 p1 l0 l1 fz p0p p1p hT
      have t0 : wo.cell? ⟨T, 0, none⟩ = some (.slice (some ⟨b, o, none⟩) m m) := Lib.cell_of_heap hTn 0
      have t1 : wo.cell? ⟨T, 1, none⟩ = some (.int .i64 ((own M j k : Nat) : Int)) := Lib.cell_of_heap hTn 1
      obtain ⟨b', o', m', ho', _, _, _, l0, l1, fz⟩ := hTo.facts hlt hkH.out
      obtain ⟨rfl, rfl⟩ := ow_fun ho ho'
      have hB := hTo.base
      have hmn : n ∈ ins M k n := mem_ins M k n
      obtain ⟨_, _, n2⟩ := hB.node_cells hmn
      have hO := ow_at_ins hkH.out n ho
      have hnb : n.nb ≠ b' := hB.nb_ne hmn hO
      have n2p : ∀ i v, (wo.setCell ⟨b', i, none⟩ v).cell? ⟨n.nb, 2, none⟩ = some (.slice (some ⟨n.lb, 0, none⟩) n.h n.h) := fun i v => by rw [set_other _ (Or.inl hnb)]; exact n2
      have hq : own M j k ≤ k := own_le M j k
      obtain ⟨CB, tB, hCB⟩ := ow_block hB hO
      by_cases hjn : j < n.h
      · have hdn : decide ((j : Int) < (n.h : Int)) = true := decide_eq_true (by omega)
        have hdn2 : decide (j < n.h) = true := decide_eq_true hjn
        have hjnH := Lib.hid hjn
        have hlt2 := lnk_own_hit (M := M) hkH.out hjn
        rw [hlt2] at l0 l1
        obtain ⟨m0, m1⟩ := part_link hkH.out hjn (hTo.rest j (Nat.le_refl j) hlt)
        rw [Nat.mul_comm] at m0 m1
        have hu : (lnk j (M.drop k)).2 ≤ 1000000 := by have := lnk_len j (M.drop k); have := hlenH.out; simp only [List.length_drop] at *; omega
        have hbl : b' ≠ n.lb := fun e => by
          have := (hB.ow_inj hO (e ▸ ow_new hkH.out n (D := D) hjn)).1
          omega
        have hkl := hkH.out
        have hll := hlenH.out
        have hhit := Lib.hid (hTo.hit hkH.out hlt ho ((k : Int) - ((own M j k : Nat) : Int)) ((k : Int) - ((own M j k : Nat) : Int) + ((lnk j (M.drop k)).2 : Int)) _ rfl rfl)
        generalize (lnk j (M.drop k)).1 = a0 at *
        have hub0 : 0 ≤ ((lnk j (M.drop k)).2 : Int) := by omega
        have hub1 : ((lnk j (M.drop k)).2 : Int) ≤ 1000000 := by omega
        generalize ((lnk j (M.drop k)).2 : Int) = u at *
        simp only [Int.natCast_add, Int.natCast_one, Int.natCast_sub hq] at l0 l1
        have hq0 : 0 ≤ ((own M j k : Nat) : Int) := by omega
        have hq1 : ((own M j k : Nat) : Int) ≤ (k : Int) := by omega
        have hk1 : (k : Int) ≤ 1000000 := by omega
        generalize ((own M j k : Nat) : Int) = q at *
        generalize (k : Int) = kI at *
        have hw1 : wrap64 (kI - q + 1 - 1) = kI - q := by rw [show kI - q + 1 - 1 = kI - q by omega]; exact IntWalk.wrap64_in _ (by omega)
        have m0p : ∀ i v, (wo.setCell ⟨b', i, none⟩ v).cell? ⟨n.lb, j * 2, none⟩ = some (.pointer a0) := fun i v => by rw [set_other _ (Or.inl hbl.symm)]; exact m0
        have l0p : ∀ v, (wo.setCell ⟨b', o' + j * 2 + 1, none⟩ v).cell? ⟨b', o' + j * 2, none⟩ = some (.pointer (some ⟨n.nb, 0, none⟩)) := fun v => by rw [set_other _ (Or.inr (by omega))]; exact l0
        have fzp : ∀ i v i', (wo.setCell ⟨b', i, none⟩ v).frozen? ⟨b', i', none⟩ = false := fun i v i' => set_frozen v hCB
        clear hjn hkl hll
        go_upto_region 7 with (fail)
        have v0 : ((wo.setCell ⟨b', o' + j * 2 + 1, none⟩ (.int .i64 (kI - q))).setCell ⟨b', o' + j * 2, none⟩ (.pointer a0)).cell? ⟨b', o' + j * 2 + 1, none⟩ = some (.int .i64 (kI - q)) := by
          rw [set_other _ (Or.inr (by omega))]; exact World.cell?_setCell_same _ _ _ l1
        have v1 : ((wo.setCell ⟨b', o' + j * 2 + 1, none⟩ (.int .i64 (kI - q))).setCell ⟨b', o' + j * 2, none⟩ (.pointer a0)).cell? ⟨n.nb, 2, none⟩ = some (.slice (some ⟨n.lb, 0, none⟩) n.h n.h) := by
          rw [set_other _ (Or.inl hnb), set_other _ (Or.inl hnb)]; exact n2
        have v2 : ((wo.setCell ⟨b', o' + j * 2 + 1, none⟩ (.int .i64 (kI - q))).setCell ⟨b', o' + j * 2, none⟩ (.pointer a0)).cell? ⟨n.lb, j * 2 + 1, none⟩ = some (.int .i64 u) := by
          rw [set_other _ (Or.inl hbl.symm), set_other _ (Or.inl hbl.symm)]; exact m1
        have v3 := Joins.block_setCell (i := o' + j * 2) (Joins.block_setCell (i := o' + j * 2 + 1) hCB (.int .i64 (kI - q))) (.pointer a0)
        generalize (wo.setCell ⟨b', o' + j * 2 + 1, none⟩ (.int .i64 (kI - q))).setCell ⟨b', o' + j * 2, none⟩ (.pointer a0) = w2 at *
        have v4 : ∀ i, w2.frozen? ⟨b', i, none⟩ = false := fun i => by simp [World.frozen?, v3]
        have hix4 := run_lk n.lb 0 n.h j (j : Int) rfl hjnH.out
        rw [Nat.zero_add] at hix4
        have hx3 : IntKind.i64.wrap (kI - q + u) = kI - q + u := IntWalk.i64_in _ (by omega)
        clear l0 l1 m0 m1 l0p m0p fzp n2 n2p v3
        go_region
        go_wp2_with fail
        go_roundw
        case rel => exact ⟨j + 1, hltH.out, by go_num, hhit⟩
        case measure => have := hltH.out; simp [intOf]; omega
      · have hdn : decide ((j : Int) < (n.h : Int)) = false := decide_eq_false (by omega)
        have hdn2 : decide (j < n.h) = false := decide_eq_false hjn
        have hmm := lnk_own_miss (M := M) hkH.out hjn
        have hu : (lnk j ((ins M k n).drop (own M j k))).2 ≤ 1000001 := by have := lnk_len j ((ins M k n).drop (own M j k)); have := hlenH.out; have := ins_len hkH.out n; simp only [List.length_drop] at *; omega
        have hub2 : 1 ≤ (lnk j ((ins M k n).drop (own M j k))).2 := by rw [hmm]; simp
        have hmiss := Lib.hid (hTo.miss hkH.out hlt hjn ho (((lnk j ((ins M k n).drop (own M j k))).2 : Int) - 1) rfl)
        have hub0 : 1 ≤ ((lnk j ((ins M k n).drop (own M j k))).2 : Int) := by omega
        have hub1 : ((lnk j ((ins M k n).drop (own M j k))).2 : Int) ≤ 1000001 := by omega
        clear hmm
        generalize ((lnk j ((ins M k n).drop (own M j k))).2 : Int) = u at *
        clear hjn
        go_wp2_with fail
        go_roundw
        case rel => exact ⟨j + 1, hltH.out, by go_num, hmiss⟩
        case measure => have := hltH.out; simp [intOf]; omega
    · have hj16 : j = 16 := by omega
      subst hj16
      go_wp2_with fail
      go_end0
      exact ⟨rfl, hT.out⟩
end Go.Proofs.YtijfipghoilpeaaDoor
