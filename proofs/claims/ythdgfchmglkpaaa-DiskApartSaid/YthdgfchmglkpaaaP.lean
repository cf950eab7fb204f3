/-
  The law's does: an op done by the program. Premises: the disk and the op are not too long.
-/
import Derived.Test.YthdgfchmglkpaaaChecked
import Derived.Test.YthdgfchmglkpaaaMath
import Derived.Test.YthdgfchmglkpaaaA
import Derived.Test.YthdgfchmglkpaaaB
import Derived.Test.YthdgfchmglkpaaaC
import Derived.Test.YthdgfchmglkpaaaD
import Derived.Test.YthdgfchmglkpaaaE
import Derived.Test.YthdgfchmglkpaaaF
import Derived.Test.YthdgfchmglkpaaaG
import Derived.Test.YthdgfchmglkpaaaH
import Derived.Test.YthdgfchmglkpaaaI
import Derived.Test.YthdgfchmglkpaaaJ
import Derived.Test.YthdgfchmglkpaaaK
import Derived.Test.YthdgfchmglkpaaaL
import Derived.Test.YthdgfchmglkpaaaM
import Derived.Test.YthdgfchmglkpaaaN
import Derived.Test.YthdgfchmglkpaaaO
import Derived.Test.YthdgfchmglkpaaaU
import Derived.Test.YthdgfchmglkpaaaR
import Derived.Test.YthdgfchmglkpaaaS
import Derived.Test.YthdgfchmglkpaaaVS
import Derived.Test.YthdgfchmglkpaaaVF
import Derived.Test.YthdgfchmglkpaaaVD
import Derived.Test.YthdgfchmglkpaaaVT
import Derived.Test.YthdgfchmglkpaaaVW
import Derived.Test.YthdgfchmglkpaaaVX
import Derived.Test.YthdgfchmglkpaaaWJ
import Derived.Test.YthdgfchmglkpaaaWB
import Derived.Test.YthdgfchmglkpaaaWC
import Derived.Test.YthdgfchmglkpaaaWD
import Derived.Test.YthdgfchmglkpaaaWE
import Derived.Test.YthdgfchmglkpaaaWF
import Derived.Test.YthdgfchmglkpaaaWI
import Derived.WalkKit
import Derived.WalkSpells
import Derived.WalkLawsBesides
import Derived.Deep.QuietTactic
import Derived.BigQuiet
import Derived.Lib.Hide
import Derived.Lib.SmallJoins
import Derived.Outline
import Derived.OwnWalk
import Derived.Deep.CutBlock
import Derived.BigRegion
import Derived.StillTailTactics
import Derived.Laws.AppendOwnNone
import Derived.Maps.AppendAt
import Derived.Deep.RegionLaw
import Derived.Deep.RegionHeld3
import Derived.Lib.BufferRead
import Derived.Deep.AppendLies
import Derived.Lib.SliceRun
import Derived.Laws.CopyOwn
import Derived.Maps.OwnSet
import Derived.StringKeys
import Derived.Lib.AppendZeros
namespace Go.Proofs.Ythdgfchmglkpaaa
open Go.RowKit
theorem Nm.eqv {P R : Dk} (h : ∀ k, findF P.1 k = findF R.1 k) (hR : Nm R) : Nm P := fun f hf => by
  obtain ⟨g, hg⟩ := (find_iff P.1 f.1).2 (List.mem_map_of_mem hf)
  rw [h] at hg
  obtain ⟨g2, hg2, e⟩ := List.mem_map.1 ((find_iff R.1 f.1).1 ⟨g, hg⟩)
  have := hR g2 hg2
  rw [e] at this
  exact this
theorem nm_of {D : Dk} (h : ∀ k f, findF D.1 k = some f → k.size ≤ maxLen) : Nm D := fun f hf => by
  obtain ⟨g, hg⟩ := (find_iff D.1 f.1).2 (List.mem_map_of_mem hf)
  exact h f.1 g hg
theorem Nm.find {D : Dk} (h : Nm D) {k : ByteArray} {f : Fl} (hf : findF D.1 k = some f) : k.size ≤ maxLen := by
  obtain ⟨g, hg, e⟩ := List.mem_map.1 ((find_iff D.1 k).1 ⟨f, hf⟩)
  have := h g hg
  rw [e] at this
  exact this
theorem did_apart {D : Dk} {o : Od} {k : ByteArray} (h5 : o.1 ≠ 5) (hk : o.2.1 ≠ k) (h2 : ¬ (o.1 = 2 ∧ o.2.2.1 = k)) : findF (didF D o).1.1 k = findF D.1 k := by
  unfold didF
  by_cases e0 : o.1 = 0
  · rw [if_pos e0]; simp only [writeF]; rw [find_with, if_neg hk]
  rw [if_neg e0]
  by_cases e1 : o.1 = 1
  · rw [if_pos e1]
    simp only [syncF]
    split
    · rfl
    · rename_i x hx
      split
      · rfl
      · simp only []; rw [find_with, if_neg (by rw [(find_some hx).1]; exact hk)]
  rw [if_neg e1]
  by_cases e2 : o.1 = 2
  · rw [if_pos e2]
    simp only [renameF]
    split
    · rfl
    · rename_i x hx
      split
      · rfl
      · simp only []; rw [find_rename hx, if_neg (fun e => h2 ⟨e2, e⟩), if_neg hk]
  rw [if_neg e2]
  by_cases e3 : o.1 = 3
  · rw [if_pos e3]; simp only []; rw [find_remove, if_neg hk]
  rw [if_neg e3]
  by_cases e4 : o.1 = 4
  · rw [if_pos e4]
    simp only [cutF]
    split
    · rfl
    · rename_i x hx
      simp only []; rw [find_with, if_neg (by rw [(find_some hx).1]; exact hk)]
  rw [if_neg e4, if_neg h5]
  rfl
theorem nm_did {D : Dk} {o : Od} (h : Nm D) (h1 : o.2.1.size ≤ maxLen) (h2 : o.2.2.1.size ≤ maxLen) : Nm (didF D o).1 := nm_of (fun k f hf => by
  by_cases e1 : o.2.1 = k
  · rw [← e1]; exact h1
  by_cases e2 : o.2.2.1 = k
  · rw [← e2]; exact h2
  by_cases e5 : o.1 = 5
  · unfold didF at hf
    rw [if_neg (by omega), if_neg (by omega), if_neg (by omega), if_neg (by omega), if_neg (by omega), if_pos e5] at hf
    simp only [] at hf
    rw [find_crash] at hf
    cases hg : findF D.1 k with
    | none => rw [hg] at hf; cases hf
    | some g => exact h.find hg
  · rw [did_apart e5 e1 (fun e => e2 e.2)] at hf
    exact h.find hf)
theorem To.more {w' : World} {v' : Value} {D R : Dk} {s s' : Nat} (h : To w' v' D R s) (hs : s ≤ s') : To w' v' D R s' := by
  obtain ⟨D', h1, h2, h3⟩ := h
  exact ⟨D', h1, h2, fun n m hn => (h3 n m hn).mono (Nat.le_refl _) (by omega)⟩
theorem to_more {P : Program} {f : FuncId} {args : Array Value} {X : World} {B : Nat} {D R : Dk} {s s' : Nat} {c : Value → Value} (hs : s ≤ s') (h : Calls P f args X fun r w' => (∃ v', r = .returned (c v') ∧ To w' v' D R s) ∧ Below B X w') :
    Calls P f args X fun r w' => (∃ v', r = .returned (c v') ∧ To w' v' D R s') ∧ Below B X w' :=
  h.mono (fun _ _ ⟨⟨v', h1, h2⟩, h3⟩ => ⟨⟨v', h1, h2.more hs⟩, h3⟩)
theorem faultyT {w : World} {v : Value} {D : Dk} (o : Od) (h : DkAt w v D) (hl : Okd D) :
    Calls Try.prog 24 #[v, opV o] w fun r w' => (∃ v', r = .returned v' ∧ To w' v' D (faultyF D o) o.2.2.1.size) ∧ Below w.heap.size w w' :=
  (faulty_any o h hl.few).mono (fun _ _ ⟨⟨v', h1, h2⟩, h3⟩ => ⟨⟨v', h1, faultyF D o, h2, Eqv.refl _, fun n m hn => ⟨by have := hn.fl; simp only [faultyF]; omega, by have := hn.ft; simp only [faultyF, List.length_append, List.length_singleton]; omega, fun f hf => by have := hn.sz f hf; omega⟩⟩, h3⟩)
set_option maxRecDepth 100000 in
set_option maxHeartbeats 4000000 in
theorem does_write {w : World} {v : Value} {D : Dk} {o1 o2 : ByteArray} {o3 : Int} (h : DkAt w v D) (hl : Okd D) (hos : o2.size ≤ 1099511627776) :
    Calls Try.prog 8 #[v, .agg #[.int .i64 0, .string o1, .string o2, .int .i64 o3]] w fun r w' => (∃ v', r = .returned (.tuple #[v', .int .i64 ((((writeF D o1 o2).2.1 : Nat) : Int)), .int .i64 ((writeF D o1 o2).2.2)]) ∧ To w' v' D ((writeF D o1 o2).1) o2.size) ∧ Below w.heap.size w w' := by
  obtain ⟨A, c, B, d, rfl, hA, hB⟩ := h
  obtain ⟨W4, hW4, k1, k3, k4, kb, ks⟩ := three_boxes w (.cells #[.slice A D.1.length c, .slice B D.2.length d] 25) (.cells #[.int .i64 0, .string o1, .string o2, .int .i64 o3] 30) (.cells #[.slice none 0 0, .slice none 0 0] 25)
  have kbH := Lib.hid kb
  have hDX : ∀ X, Below W4.heap.size W4 X → DkAt X (.agg #[.slice A D.1.length c, .slice B D.2.length d]) D := fun X hX => ⟨A, c, B, d, rfl, (hA.on kb).on hX, (hB.on kb).on hX⟩
  have hC : Hid (∀ X, Below W4.heap.size W4 X → Calls Try.prog 19 #[.agg #[.slice A D.1.length c, .slice B D.2.length d], .string o1, .string o2] X fun r w' => (∃ v', r = .returned (.tuple #[v', .int .i64 ((((writeF D o1 o2).2.1 : Nat) : Int)), .int .i64 ((writeF D o1 o2).2.2)]) ∧ To w' v' D ((writeF D o1 o2).1) o2.size) ∧ Below X.heap.size X w') := Lib.hid (fun X hX => pwrite_any o1 o2 (hDX X hX) hl hos)
  obtain ⟨RD, hRD⟩ : ∃ RD, RD = ((writeF D o1 o2).1 : Dk) := ⟨_, rfl⟩
  rw [← hRD] at hC ⊢
  clear hRD
  generalize (((writeF D o1 o2).2.1 : Nat) : Int) = rn at *
  generalize (writeF D o1 o2).2.2 = re at *
  obtain ⟨x0, x1, -, -⟩ := two k1
  have k1H := Lib.hid k1
  have k3H := Lib.hid k3
  have k4H := Lib.hid k4
  have y0 : W4.cell? ⟨w.heap.size + 1, 0, none⟩ = some (.int .i64 (0)) := Lib.cell_of_heap k3 0
  have y1 : W4.cell? ⟨w.heap.size + 1, 1, none⟩ = some (.string o1) := Lib.cell_of_heap k3 1
  have y2 : W4.cell? ⟨w.heap.size + 1, 2, none⟩ = some (.string o2) := Lib.cell_of_heap k3 2
  have y3 : W4.cell? ⟨w.heap.size + 1, 3, none⟩ = some (.int .i64 o3) := Lib.cell_of_heap k3 3
  clear k1 k3 k4 hA hB kb hDX
  go_enter Try.func8, Try.ntmps8
  go_upto_region 1 with fail
  rw [← hW4]
  clear hW4
  go_upto_region 5 with fail
  go_upto_region 16 with (go_at_call 19; ((with_reducible refine (hC.out _ (Below.refl _ _)).mono ?_); rintro r w5 ⟨⟨v', rfl, hD'⟩, hb5⟩; obtain ⟨D', ⟨A', c', B', d', rfl, hA', hB'⟩, hEq, hLm⟩ := hD'; have j1 := (hb5.block w.heap.size (by omega)).trans k1H.out; obtain ⟨r0, r1, r2, r3⟩ := two j1))
  have j4 := (hb5.block (w.heap.size + 1 + 1) (by omega)).trans k4H.out
  have hDX := (show DkAt w5 (.agg #[.slice A' D'.1.length c', .slice B' D'.2.length d']) D' from ⟨A', c', B', d', rfl, hA', hB'⟩).assign j1 (.slice A' D'.1.length c') (.slice B' D'.2.length d')
  have e1 := store2 j1 (.slice A' D'.1.length c') (.slice B' D'.2.length d')
  have e4 := set2_other j4 (g := w.heap.size) (by omega) (.slice A' D'.1.length c') (.slice B' D'.2.length d')
  have hbX := below_set2 (kbH.out.trans (hb5.mono kbH.out.size)) (b := w.heap.size) (Nat.le_refl _) (.slice A' D'.1.length c') (.slice B' D'.2.length d')
  generalize ((w5.setCell ⟨w.heap.size, 0, none⟩ (.slice A' D'.1.length c')).setCell ⟨w.heap.size, 1, none⟩ (.slice B' D'.2.length d')) = X at hDX e1 e4 hbX ⊢
  obtain ⟨z0, z1, -, -⟩ := two e1
  obtain ⟨z2, z3, q0, q1⟩ := two e4
  have hDXH := Lib.hid hDX
  have hEqH := Lib.hid hEq
  have hLmH := Lib.hid hLm
  clear hEq hLm
  have e4H := Lib.hid e4
  have hbXH := Lib.hid hbX
  clear hDX e1 e4 hbX j1 j4 hA' hB' r0 r1 r2 r3 x0 x1 y0 y1 y2 y3 hb5 hC
  go_wp2_with fail
  have hDY := hDXH.out.assign e4H.out (.slice A' D'.1.length c') (.slice B' D'.2.length d')
  have hbY := below_set2 hbXH.out (b := w.heap.size + 1 + 1) (by omega) (.slice A' D'.1.length c') (.slice B' D'.2.length d')
  obtain ⟨p0, p1, -, -⟩ := two (store2 e4H.out (.slice A' D'.1.length c') (.slice B' D'.2.length d'))
  refine bodyPost_ret (v := .tuple #[.agg #[.slice A' D'.1.length c', .slice B' D'.2.length d'], .int .i64 (rn), .int .i64 (re)]) (by simp [results, Try.results8, go_sem, p0, p1]) rfl ⟨⟨_, rfl, D', hDY, hEqH.out, hLmH.out⟩, hbY⟩
set_option maxRecDepth 100000 in
set_option maxHeartbeats 4000000 in
theorem does_sync {w : World} {v : Value} {D : Dk} {o1 o2 : ByteArray} {o3 : Int} (h : DkAt w v D) (hl : Okd D) :
    Calls Try.prog 8 #[v, .agg #[.int .i64 1, .string o1, .string o2, .int .i64 o3]] w fun r w' => (∃ v', r = .returned (.tuple #[v', .int .i64 (0), .int .i64 ((syncF D o1).2)]) ∧ To w' v' D ((syncF D o1).1) o2.size) ∧ Below w.heap.size w w' := by
  obtain ⟨A, c, B, d, rfl, hA, hB⟩ := h
  obtain ⟨W4, hW4, k1, k3, k4, kb, ks⟩ := three_boxes w (.cells #[.slice A D.1.length c, .slice B D.2.length d] 25) (.cells #[.int .i64 1, .string o1, .string o2, .int .i64 o3] 30) (.cells #[.slice none 0 0, .slice none 0 0] 25)
  have kbH := Lib.hid kb
  have hDX : ∀ X, Below W4.heap.size W4 X → DkAt X (.agg #[.slice A D.1.length c, .slice B D.2.length d]) D := fun X hX => ⟨A, c, B, d, rfl, (hA.on kb).on hX, (hB.on kb).on hX⟩
  have hC : Hid (∀ X, Below W4.heap.size W4 X → Calls Try.prog 20 #[.agg #[.slice A D.1.length c, .slice B D.2.length d], .string o1] X fun r w' => (∃ v', r = .returned (.tuple #[v', .int .i64 ((syncF D o1).2)]) ∧ To w' v' D ((syncF D o1).1) o2.size) ∧ Below X.heap.size X w') := Lib.hid (fun X hX => to_more (c := fun v' => .tuple #[v', .int .i64 (syncF D o1).2]) (Nat.zero_le _) (psync_any o1 (hDX X hX) hl))
  obtain ⟨RD, hRD⟩ : ∃ RD, RD = ((syncF D o1).1 : Dk) := ⟨_, rfl⟩
  rw [← hRD] at hC ⊢
  clear hRD
  generalize (syncF D o1).2 = re at *
  obtain ⟨x0, x1, -, -⟩ := two k1
  have k1H := Lib.hid k1
  have k3H := Lib.hid k3
  have k4H := Lib.hid k4
  have y0 : W4.cell? ⟨w.heap.size + 1, 0, none⟩ = some (.int .i64 (1)) := Lib.cell_of_heap k3 0
  have y1 : W4.cell? ⟨w.heap.size + 1, 1, none⟩ = some (.string o1) := Lib.cell_of_heap k3 1
  have y2 : W4.cell? ⟨w.heap.size + 1, 2, none⟩ = some (.string o2) := Lib.cell_of_heap k3 2
  have y3 : W4.cell? ⟨w.heap.size + 1, 3, none⟩ = some (.int .i64 o3) := Lib.cell_of_heap k3 3
  clear k1 k3 k4 hA hB kb hDX
  go_enter Try.func8, Try.ntmps8
  go_upto_region 1 with fail
  rw [← hW4]
  clear hW4
  go_upto_region 7 with fail
  go_upto_region 16 with (go_at_call 20; ((with_reducible refine (hC.out _ (Below.refl _ _)).mono ?_); rintro r w5 ⟨⟨v', rfl, hD'⟩, hb5⟩; obtain ⟨D', ⟨A', c', B', d', rfl, hA', hB'⟩, hEq, hLm⟩ := hD'; have j1 := (hb5.block w.heap.size (by omega)).trans k1H.out; obtain ⟨r0, r1, r2, r3⟩ := two j1))
  have j4 := (hb5.block (w.heap.size + 1 + 1) (by omega)).trans k4H.out
  have hDX := (show DkAt w5 (.agg #[.slice A' D'.1.length c', .slice B' D'.2.length d']) D' from ⟨A', c', B', d', rfl, hA', hB'⟩).assign j1 (.slice A' D'.1.length c') (.slice B' D'.2.length d')
  have e1 := store2 j1 (.slice A' D'.1.length c') (.slice B' D'.2.length d')
  have e4 := set2_other j4 (g := w.heap.size) (by omega) (.slice A' D'.1.length c') (.slice B' D'.2.length d')
  have hbX := below_set2 (kbH.out.trans (hb5.mono kbH.out.size)) (b := w.heap.size) (Nat.le_refl _) (.slice A' D'.1.length c') (.slice B' D'.2.length d')
  generalize ((w5.setCell ⟨w.heap.size, 0, none⟩ (.slice A' D'.1.length c')).setCell ⟨w.heap.size, 1, none⟩ (.slice B' D'.2.length d')) = X at hDX e1 e4 hbX ⊢
  obtain ⟨z0, z1, -, -⟩ := two e1
  obtain ⟨z2, z3, q0, q1⟩ := two e4
  have hDXH := Lib.hid hDX
  have hEqH := Lib.hid hEq
  have hLmH := Lib.hid hLm
  clear hEq hLm
  have e4H := Lib.hid e4
  have hbXH := Lib.hid hbX
  clear hDX e1 e4 hbX j1 j4 hA' hB' r0 r1 r2 r3 x0 x1 y0 y1 y2 y3 hb5 hC
  go_wp2_with fail
  have hDY := hDXH.out.assign e4H.out (.slice A' D'.1.length c') (.slice B' D'.2.length d')
  have hbY := below_set2 hbXH.out (b := w.heap.size + 1 + 1) (by omega) (.slice A' D'.1.length c') (.slice B' D'.2.length d')
  obtain ⟨p0, p1, -, -⟩ := two (store2 e4H.out (.slice A' D'.1.length c') (.slice B' D'.2.length d'))
  refine bodyPost_ret (v := .tuple #[.agg #[.slice A' D'.1.length c', .slice B' D'.2.length d'], .int .i64 (0), .int .i64 (re)]) (by simp [results, Try.results8, go_sem, p0, p1]) rfl ⟨⟨_, rfl, D', hDY, hEqH.out, hLmH.out⟩, hbY⟩
set_option maxRecDepth 100000 in
set_option maxHeartbeats 4000000 in
theorem does_rename {w : World} {v : Value} {D : Dk} {o1 o2 : ByteArray} {o3 : Int} (h : DkAt w v D) (hl : Okd D) :
    Calls Try.prog 8 #[v, .agg #[.int .i64 2, .string o1, .string o2, .int .i64 o3]] w fun r w' => (∃ v', r = .returned (.tuple #[v', .int .i64 (0), .int .i64 ((renameF D o1 o2).2)]) ∧ To w' v' D ((renameF D o1 o2).1) o2.size) ∧ Below w.heap.size w w' := by
  obtain ⟨A, c, B, d, rfl, hA, hB⟩ := h
  obtain ⟨W4, hW4, k1, k3, k4, kb, ks⟩ := three_boxes w (.cells #[.slice A D.1.length c, .slice B D.2.length d] 25) (.cells #[.int .i64 2, .string o1, .string o2, .int .i64 o3] 30) (.cells #[.slice none 0 0, .slice none 0 0] 25)
  have kbH := Lib.hid kb
  have hDX : ∀ X, Below W4.heap.size W4 X → DkAt X (.agg #[.slice A D.1.length c, .slice B D.2.length d]) D := fun X hX => ⟨A, c, B, d, rfl, (hA.on kb).on hX, (hB.on kb).on hX⟩
  have hC : Hid (∀ X, Below W4.heap.size W4 X → Calls Try.prog 21 #[.agg #[.slice A D.1.length c, .slice B D.2.length d], .string o1, .string o2] X fun r w' => (∃ v', r = .returned (.tuple #[v', .int .i64 ((renameF D o1 o2).2)]) ∧ To w' v' D ((renameF D o1 o2).1) o2.size) ∧ Below X.heap.size X w') := Lib.hid (fun X hX => to_more (c := fun v' => .tuple #[v', .int .i64 (renameF D o1 o2).2]) (Nat.zero_le _) (prename_any o1 o2 (hDX X hX) hl))
  obtain ⟨RD, hRD⟩ : ∃ RD, RD = ((renameF D o1 o2).1 : Dk) := ⟨_, rfl⟩
  rw [← hRD] at hC ⊢
  clear hRD
  generalize (renameF D o1 o2).2 = re at *
  obtain ⟨x0, x1, -, -⟩ := two k1
  have k1H := Lib.hid k1
  have k3H := Lib.hid k3
  have k4H := Lib.hid k4
  have y0 : W4.cell? ⟨w.heap.size + 1, 0, none⟩ = some (.int .i64 (2)) := Lib.cell_of_heap k3 0
  have y1 : W4.cell? ⟨w.heap.size + 1, 1, none⟩ = some (.string o1) := Lib.cell_of_heap k3 1
  have y2 : W4.cell? ⟨w.heap.size + 1, 2, none⟩ = some (.string o2) := Lib.cell_of_heap k3 2
  have y3 : W4.cell? ⟨w.heap.size + 1, 3, none⟩ = some (.int .i64 o3) := Lib.cell_of_heap k3 3
  clear k1 k3 k4 hA hB kb hDX
  go_enter Try.func8, Try.ntmps8
  go_upto_region 1 with fail
  rw [← hW4]
  clear hW4
  go_upto_region 9 with fail
  go_upto_region 16 with (go_at_call 21; ((with_reducible refine (hC.out _ (Below.refl _ _)).mono ?_); rintro r w5 ⟨⟨v', rfl, hD'⟩, hb5⟩; obtain ⟨D', ⟨A', c', B', d', rfl, hA', hB'⟩, hEq, hLm⟩ := hD'; have j1 := (hb5.block w.heap.size (by omega)).trans k1H.out; obtain ⟨r0, r1, r2, r3⟩ := two j1))
  have j4 := (hb5.block (w.heap.size + 1 + 1) (by omega)).trans k4H.out
  have hDX := (show DkAt w5 (.agg #[.slice A' D'.1.length c', .slice B' D'.2.length d']) D' from ⟨A', c', B', d', rfl, hA', hB'⟩).assign j1 (.slice A' D'.1.length c') (.slice B' D'.2.length d')
  have e1 := store2 j1 (.slice A' D'.1.length c') (.slice B' D'.2.length d')
  have e4 := set2_other j4 (g := w.heap.size) (by omega) (.slice A' D'.1.length c') (.slice B' D'.2.length d')
  have hbX := below_set2 (kbH.out.trans (hb5.mono kbH.out.size)) (b := w.heap.size) (Nat.le_refl _) (.slice A' D'.1.length c') (.slice B' D'.2.length d')
  generalize ((w5.setCell ⟨w.heap.size, 0, none⟩ (.slice A' D'.1.length c')).setCell ⟨w.heap.size, 1, none⟩ (.slice B' D'.2.length d')) = X at hDX e1 e4 hbX ⊢
  obtain ⟨z0, z1, -, -⟩ := two e1
  obtain ⟨z2, z3, q0, q1⟩ := two e4
  have hDXH := Lib.hid hDX
  have hEqH := Lib.hid hEq
  have hLmH := Lib.hid hLm
  clear hEq hLm
  have e4H := Lib.hid e4
  have hbXH := Lib.hid hbX
  clear hDX e1 e4 hbX j1 j4 hA' hB' r0 r1 r2 r3 x0 x1 y0 y1 y2 y3 hb5 hC
  go_wp2_with fail
  have hDY := hDXH.out.assign e4H.out (.slice A' D'.1.length c') (.slice B' D'.2.length d')
  have hbY := below_set2 hbXH.out (b := w.heap.size + 1 + 1) (by omega) (.slice A' D'.1.length c') (.slice B' D'.2.length d')
  obtain ⟨p0, p1, -, -⟩ := two (store2 e4H.out (.slice A' D'.1.length c') (.slice B' D'.2.length d'))
  refine bodyPost_ret (v := .tuple #[.agg #[.slice A' D'.1.length c', .slice B' D'.2.length d'], .int .i64 (0), .int .i64 (re)]) (by simp [results, Try.results8, go_sem, p0, p1]) rfl ⟨⟨_, rfl, D', hDY, hEqH.out, hLmH.out⟩, hbY⟩
set_option maxRecDepth 100000 in
set_option maxHeartbeats 4000000 in
theorem does_remove {w : World} {v : Value} {D : Dk} {o1 o2 : ByteArray} {o3 : Int} (h : DkAt w v D) (hl : Okd D) :
    Calls Try.prog 8 #[v, .agg #[.int .i64 3, .string o1, .string o2, .int .i64 o3]] w fun r w' => (∃ v', r = .returned (.tuple #[v', .int .i64 (0), .int .i64 (0)]) ∧ To w' v' D ((removeF D.1 o1, D.2)) o2.size) ∧ Below w.heap.size w w' := by
  obtain ⟨A, c, B, d, rfl, hA, hB⟩ := h
  obtain ⟨W4, hW4, k1, k3, k4, kb, ks⟩ := three_boxes w (.cells #[.slice A D.1.length c, .slice B D.2.length d] 25) (.cells #[.int .i64 3, .string o1, .string o2, .int .i64 o3] 30) (.cells #[.slice none 0 0, .slice none 0 0] 25)
  have kbH := Lib.hid kb
  have hDX : ∀ X, Below W4.heap.size W4 X → DkAt X (.agg #[.slice A D.1.length c, .slice B D.2.length d]) D := fun X hX => ⟨A, c, B, d, rfl, (hA.on kb).on hX, (hB.on kb).on hX⟩
  have hC : Hid (∀ X, Below W4.heap.size W4 X → Calls Try.prog 22 #[.agg #[.slice A D.1.length c, .slice B D.2.length d], .string o1] X fun r w' => (∃ v', r = .returned (v') ∧ To w' v' D ((removeF D.1 o1, D.2)) o2.size) ∧ Below X.heap.size X w') := Lib.hid (fun X hX => to_more (c := fun v' => v') (Nat.zero_le _) (premove_any o1 (hDX X hX) hl))
  obtain ⟨RD, hRD⟩ : ∃ RD, RD = ((removeF D.1 o1, D.2) : Dk) := ⟨_, rfl⟩
  rw [← hRD] at hC ⊢
  clear hRD
  obtain ⟨x0, x1, -, -⟩ := two k1
  have k1H := Lib.hid k1
  have k3H := Lib.hid k3
  have k4H := Lib.hid k4
  have y0 : W4.cell? ⟨w.heap.size + 1, 0, none⟩ = some (.int .i64 (3)) := Lib.cell_of_heap k3 0
  have y1 : W4.cell? ⟨w.heap.size + 1, 1, none⟩ = some (.string o1) := Lib.cell_of_heap k3 1
  have y2 : W4.cell? ⟨w.heap.size + 1, 2, none⟩ = some (.string o2) := Lib.cell_of_heap k3 2
  have y3 : W4.cell? ⟨w.heap.size + 1, 3, none⟩ = some (.int .i64 o3) := Lib.cell_of_heap k3 3
  clear k1 k3 k4 hA hB kb hDX
  go_enter Try.func8, Try.ntmps8
  go_upto_region 1 with fail
  rw [← hW4]
  clear hW4
  go_upto_region 11 with fail
  go_upto_region 16 with (go_at_call 22; ((with_reducible refine (hC.out _ (Below.refl _ _)).mono ?_); rintro r w5 ⟨⟨v', rfl, hD'⟩, hb5⟩; obtain ⟨D', ⟨A', c', B', d', rfl, hA', hB'⟩, hEq, hLm⟩ := hD'; have j1 := (hb5.block w.heap.size (by omega)).trans k1H.out; obtain ⟨r0, r1, r2, r3⟩ := two j1))
  have j4 := (hb5.block (w.heap.size + 1 + 1) (by omega)).trans k4H.out
  have hDX := (show DkAt w5 (.agg #[.slice A' D'.1.length c', .slice B' D'.2.length d']) D' from ⟨A', c', B', d', rfl, hA', hB'⟩).assign j1 (.slice A' D'.1.length c') (.slice B' D'.2.length d')
  have e1 := store2 j1 (.slice A' D'.1.length c') (.slice B' D'.2.length d')
  have e4 := set2_other j4 (g := w.heap.size) (by omega) (.slice A' D'.1.length c') (.slice B' D'.2.length d')
  have hbX := below_set2 (kbH.out.trans (hb5.mono kbH.out.size)) (b := w.heap.size) (Nat.le_refl _) (.slice A' D'.1.length c') (.slice B' D'.2.length d')
  generalize ((w5.setCell ⟨w.heap.size, 0, none⟩ (.slice A' D'.1.length c')).setCell ⟨w.heap.size, 1, none⟩ (.slice B' D'.2.length d')) = X at hDX e1 e4 hbX ⊢
  obtain ⟨z0, z1, -, -⟩ := two e1
  obtain ⟨z2, z3, q0, q1⟩ := two e4
  have hDXH := Lib.hid hDX
  have hEqH := Lib.hid hEq
  have hLmH := Lib.hid hLm
  clear hEq hLm
  have e4H := Lib.hid e4
  have hbXH := Lib.hid hbX
  clear hDX e1 e4 hbX j1 j4 hA' hB' r0 r1 r2 r3 x0 x1 y0 y1 y2 y3 hb5 hC
  go_wp2_with fail
  have hDY := hDXH.out.assign e4H.out (.slice A' D'.1.length c') (.slice B' D'.2.length d')
  have hbY := below_set2 hbXH.out (b := w.heap.size + 1 + 1) (by omega) (.slice A' D'.1.length c') (.slice B' D'.2.length d')
  obtain ⟨p0, p1, -, -⟩ := two (store2 e4H.out (.slice A' D'.1.length c') (.slice B' D'.2.length d'))
  refine bodyPost_ret (v := .tuple #[.agg #[.slice A' D'.1.length c', .slice B' D'.2.length d'], .int .i64 (0), .int .i64 (0)]) (by simp [results, Try.results8, go_sem, p0, p1]) rfl ⟨⟨_, rfl, D', hDY, hEqH.out, hLmH.out⟩, hbY⟩
set_option maxRecDepth 100000 in
set_option maxHeartbeats 4000000 in
theorem does_cut {w : World} {v : Value} {D : Dk} {o1 o2 : ByteArray} {o3 : Int} (h : DkAt w v D) (hl : Okd D) (hb1 : -9223372036854775808 ≤ o3) (hb2 : o3 ≤ 9223372036854775807) :
    Calls Try.prog 8 #[v, .agg #[.int .i64 4, .string o1, .string o2, .int .i64 o3]] w fun r w' => (∃ v', r = .returned (.tuple #[v', .int .i64 (0), .int .i64 ((cutF D o1 o3).2)]) ∧ To w' v' D ((cutF D o1 o3).1) o2.size) ∧ Below w.heap.size w w' := by
  obtain ⟨A, c, B, d, rfl, hA, hB⟩ := h
  obtain ⟨W4, hW4, k1, k3, k4, kb, ks⟩ := three_boxes w (.cells #[.slice A D.1.length c, .slice B D.2.length d] 25) (.cells #[.int .i64 4, .string o1, .string o2, .int .i64 o3] 30) (.cells #[.slice none 0 0, .slice none 0 0] 25)
  have kbH := Lib.hid kb
  have hDX : ∀ X, Below W4.heap.size W4 X → DkAt X (.agg #[.slice A D.1.length c, .slice B D.2.length d]) D := fun X hX => ⟨A, c, B, d, rfl, (hA.on kb).on hX, (hB.on kb).on hX⟩
  have hC : Hid (∀ X, Below W4.heap.size W4 X → Calls Try.prog 23 #[.agg #[.slice A D.1.length c, .slice B D.2.length d], .string o1, .int .i64 o3] X fun r w' => (∃ v', r = .returned (.tuple #[v', .int .i64 ((cutF D o1 o3).2)]) ∧ To w' v' D ((cutF D o1 o3).1) o2.size) ∧ Below X.heap.size X w') := Lib.hid (fun X hX => to_more (c := fun v' => .tuple #[v', .int .i64 (cutF D o1 o3).2]) (Nat.zero_le _) (pcut_any o1 o3 (hDX X hX) hl hb1 hb2))
  obtain ⟨RD, hRD⟩ : ∃ RD, RD = ((cutF D o1 o3).1 : Dk) := ⟨_, rfl⟩
  rw [← hRD] at hC ⊢
  clear hRD
  generalize (cutF D o1 o3).2 = re at *
  obtain ⟨x0, x1, -, -⟩ := two k1
  have k1H := Lib.hid k1
  have k3H := Lib.hid k3
  have k4H := Lib.hid k4
  have y0 : W4.cell? ⟨w.heap.size + 1, 0, none⟩ = some (.int .i64 (4)) := Lib.cell_of_heap k3 0
  have y1 : W4.cell? ⟨w.heap.size + 1, 1, none⟩ = some (.string o1) := Lib.cell_of_heap k3 1
  have y2 : W4.cell? ⟨w.heap.size + 1, 2, none⟩ = some (.string o2) := Lib.cell_of_heap k3 2
  have y3 : W4.cell? ⟨w.heap.size + 1, 3, none⟩ = some (.int .i64 o3) := Lib.cell_of_heap k3 3
  clear k1 k3 k4 hA hB kb hDX
  go_enter Try.func8, Try.ntmps8
  go_upto_region 1 with fail
  rw [← hW4]
  clear hW4
  go_upto_region 13 with fail
  go_upto_region 16 with (go_at_call 23; ((with_reducible refine (hC.out _ (Below.refl _ _)).mono ?_); rintro r w5 ⟨⟨v', rfl, hD'⟩, hb5⟩; obtain ⟨D', ⟨A', c', B', d', rfl, hA', hB'⟩, hEq, hLm⟩ := hD'; have j1 := (hb5.block w.heap.size (by omega)).trans k1H.out; obtain ⟨r0, r1, r2, r3⟩ := two j1))
  have j4 := (hb5.block (w.heap.size + 1 + 1) (by omega)).trans k4H.out
  have hDX := (show DkAt w5 (.agg #[.slice A' D'.1.length c', .slice B' D'.2.length d']) D' from ⟨A', c', B', d', rfl, hA', hB'⟩).assign j1 (.slice A' D'.1.length c') (.slice B' D'.2.length d')
  have e1 := store2 j1 (.slice A' D'.1.length c') (.slice B' D'.2.length d')
  have e4 := set2_other j4 (g := w.heap.size) (by omega) (.slice A' D'.1.length c') (.slice B' D'.2.length d')
  have hbX := below_set2 (kbH.out.trans (hb5.mono kbH.out.size)) (b := w.heap.size) (Nat.le_refl _) (.slice A' D'.1.length c') (.slice B' D'.2.length d')
  generalize ((w5.setCell ⟨w.heap.size, 0, none⟩ (.slice A' D'.1.length c')).setCell ⟨w.heap.size, 1, none⟩ (.slice B' D'.2.length d')) = X at hDX e1 e4 hbX ⊢
  obtain ⟨z0, z1, -, -⟩ := two e1
  obtain ⟨z2, z3, q0, q1⟩ := two e4
  have hDXH := Lib.hid hDX
  have hEqH := Lib.hid hEq
  have hLmH := Lib.hid hLm
  clear hEq hLm
  have e4H := Lib.hid e4
  have hbXH := Lib.hid hbX
  clear hDX e1 e4 hbX j1 j4 hA' hB' r0 r1 r2 r3 x0 x1 y0 y1 y2 y3 hb5 hC
  go_wp2_with fail
  have hDY := hDXH.out.assign e4H.out (.slice A' D'.1.length c') (.slice B' D'.2.length d')
  have hbY := below_set2 hbXH.out (b := w.heap.size + 1 + 1) (by omega) (.slice A' D'.1.length c') (.slice B' D'.2.length d')
  obtain ⟨p0, p1, -, -⟩ := two (store2 e4H.out (.slice A' D'.1.length c') (.slice B' D'.2.length d'))
  refine bodyPost_ret (v := .tuple #[.agg #[.slice A' D'.1.length c', .slice B' D'.2.length d'], .int .i64 (0), .int .i64 (re)]) (by simp [results, Try.results8, go_sem, p0, p1]) rfl ⟨⟨_, rfl, D', hDY, hEqH.out, hLmH.out⟩, hbY⟩
set_option maxRecDepth 100000 in
set_option maxHeartbeats 4000000 in
theorem does_crash {w : World} {v : Value} {D : Dk} {o1 o2 : ByteArray} {o3 : Int} (h : DkAt w v D) (hl : Okd D) (hN : Nm D) (hk1 : o1.size ≤ maxLen) (hb1 : -9223372036854775808 ≤ o3) (hb2 : o3 ≤ 9223372036854775807) :
    Calls Try.prog 8 #[v, .agg #[.int .i64 5, .string o1, .string o2, .int .i64 o3]] w fun r w' => (∃ v', r = .returned (.tuple #[v', .int .i64 (0), .int .i64 (0)]) ∧ To w' v' D (((filesF D.1).map (crashF [(o1, o3), (o1, 1)]), [])) o2.size) ∧ Below w.heap.size w w' := by
  obtain ⟨A, c, B, d, rfl, hA, hB⟩ := h
  obtain ⟨W4, hW4, k1, k3, k4, kb, ks⟩ := three_boxes w (.cells #[.slice A D.1.length c, .slice B D.2.length d] 25) (.cells #[.int .i64 5, .string o1, .string o2, .int .i64 o3] 30) (.cells #[.slice none 0 0, .slice none 0 0] 25)
  have kbH := Lib.hid kb
  have hDX : ∀ X, Below W4.heap.size W4 X → DkAt X (.agg #[.slice A D.1.length c, .slice B D.2.length d]) D := fun X hX => ⟨A, c, B, d, rfl, (hA.on kb).on hX, (hB.on kb).on hX⟩
  have hC : Hid (Calls Try.prog 17 #[.agg #[.slice A D.1.length c, .slice B D.2.length d], .slice (some ⟨w.heap.size + 3, 0, none⟩) 2 2] (W4.alloc (.cells #[.string o1, .int .i64 o3, .string o1, .int .i64 1] 56)) fun r w' => (∃ v', r = .returned v' ∧ To w' v' D (((filesF D.1).map (crashF [(o1, o3), (o1, 1)]), [])) o2.size) ∧ Below W4.heap.size W4 w') := Lib.hid (by
    rw [← ks]
    exact (to_more (c := fun v' => v') (Nat.zero_le _) (pcrash_any (K := [(o1, o3), (o1, 1)]) (hDX _ box_below) hl hN (keeps_two W4 o1 o3) (by simp) (by simp; omega) (fun q hq => by simp at hq; rcases hq with rfl | rfl <;> exact hk1))).mono (fun r w' hh => ⟨hh.1, box_below.trans (hh.2.mono box_below.size)⟩))
  obtain ⟨RD, hRD⟩ : ∃ RD, RD = (((filesF D.1).map (crashF [(o1, o3), (o1, 1)]), []) : Dk) := ⟨_, rfl⟩
  rw [← hRD] at hC ⊢
  clear hRD
  obtain ⟨x0, x1, -, -⟩ := two k1
  have k1H := Lib.hid k1
  have k3H := Lib.hid k3
  have k4H := Lib.hid k4
  have y0 : W4.cell? ⟨w.heap.size + 1, 0, none⟩ = some (.int .i64 (5)) := Lib.cell_of_heap k3 0
  have y1 : W4.cell? ⟨w.heap.size + 1, 1, none⟩ = some (.string o1) := Lib.cell_of_heap k3 1
  have y2 : W4.cell? ⟨w.heap.size + 1, 2, none⟩ = some (.string o2) := Lib.cell_of_heap k3 2
  have y3 : W4.cell? ⟨w.heap.size + 1, 3, none⟩ = some (.int .i64 o3) := Lib.cell_of_heap k3 3
  clear k1 k3 k4 hA hB kb hDX
  go_enter Try.func8, Try.ntmps8
  go_upto_region 1 with fail
  rw [← hW4]
  clear hW4
  go_upto_region 15 with fail
  go_upto_region 16 with (go_at_call 17; ((with_reducible refine (hC.out).mono ?_); rintro r w5 ⟨⟨v', rfl, hD'⟩, hb5⟩; obtain ⟨D', ⟨A', c', B', d', rfl, hA', hB'⟩, hEq, hLm⟩ := hD'; have j1 := (hb5.block w.heap.size (by omega)).trans k1H.out; obtain ⟨r0, r1, r2, r3⟩ := two j1))
  have j4 := (hb5.block (w.heap.size + 1 + 1) (by omega)).trans k4H.out
  have hDX := (show DkAt w5 (.agg #[.slice A' D'.1.length c', .slice B' D'.2.length d']) D' from ⟨A', c', B', d', rfl, hA', hB'⟩).assign j1 (.slice A' D'.1.length c') (.slice B' D'.2.length d')
  have e1 := store2 j1 (.slice A' D'.1.length c') (.slice B' D'.2.length d')
  have e4 := set2_other j4 (g := w.heap.size) (by omega) (.slice A' D'.1.length c') (.slice B' D'.2.length d')
  have hbX := below_set2 (kbH.out.trans (hb5.mono kbH.out.size)) (b := w.heap.size) (Nat.le_refl _) (.slice A' D'.1.length c') (.slice B' D'.2.length d')
  generalize ((w5.setCell ⟨w.heap.size, 0, none⟩ (.slice A' D'.1.length c')).setCell ⟨w.heap.size, 1, none⟩ (.slice B' D'.2.length d')) = X at hDX e1 e4 hbX ⊢
  obtain ⟨z0, z1, -, -⟩ := two e1
  obtain ⟨z2, z3, q0, q1⟩ := two e4
  have hDXH := Lib.hid hDX
  have hEqH := Lib.hid hEq
  have hLmH := Lib.hid hLm
  clear hEq hLm
  have e4H := Lib.hid e4
  have hbXH := Lib.hid hbX
  clear hDX e1 e4 hbX j1 j4 hA' hB' r0 r1 r2 r3 x0 x1 y0 y1 y2 y3 hb5 hC
  go_wp2_with fail
  have hDY := hDXH.out.assign e4H.out (.slice A' D'.1.length c') (.slice B' D'.2.length d')
  have hbY := below_set2 hbXH.out (b := w.heap.size + 1 + 1) (by omega) (.slice A' D'.1.length c') (.slice B' D'.2.length d')
  obtain ⟨p0, p1, -, -⟩ := two (store2 e4H.out (.slice A' D'.1.length c') (.slice B' D'.2.length d'))
  refine bodyPost_ret (v := .tuple #[.agg #[.slice A' D'.1.length c', .slice B' D'.2.length d'], .int .i64 (0), .int .i64 (0)]) (by simp [results, Try.results8, go_sem, p0, p1]) rfl ⟨⟨_, rfl, D', hDY, hEqH.out, hLmH.out⟩, hbY⟩
set_option maxRecDepth 100000 in
set_option maxHeartbeats 4000000 in
theorem does_fault {w : World} {v : Value} {D : Dk} {o0 : Int} {o1 o2 : ByteArray} {o3 : Int} (hne : o0 ≠ 0 ∧ o0 ≠ 1 ∧ o0 ≠ 2 ∧ o0 ≠ 3 ∧ o0 ≠ 4 ∧ o0 ≠ 5) (h : DkAt w v D) (hl : Okd D) :
    Calls Try.prog 8 #[v, .agg #[.int .i64 o0, .string o1, .string o2, .int .i64 o3]] w fun r w' => (∃ v', r = .returned (.tuple #[v', .int .i64 (0), .int .i64 (0)]) ∧ To w' v' D (faultyF D (o0, o1, o2, o3)) o2.size) ∧ Below w.heap.size w w' := by
  obtain ⟨A, c, B, d, rfl, hA, hB⟩ := h
  obtain ⟨W4, hW4, k1, k3, k4, kb, ks⟩ := three_boxes w (.cells #[.slice A D.1.length c, .slice B D.2.length d] 25) (.cells #[.int .i64 o0, .string o1, .string o2, .int .i64 o3] 30) (.cells #[.slice none 0 0, .slice none 0 0] 25)
  have kbH := Lib.hid kb
  have hDX : ∀ X, Below W4.heap.size W4 X → DkAt X (.agg #[.slice A D.1.length c, .slice B D.2.length d]) D := fun X hX => ⟨A, c, B, d, rfl, (hA.on kb).on hX, (hB.on kb).on hX⟩
  have t0 : (o0 == (0 : Int)) = false := beq_false_of_ne hne.1
  have t1 : (o0 == (1 : Int)) = false := beq_false_of_ne hne.2.1
  have t2 : (o0 == (2 : Int)) = false := beq_false_of_ne hne.2.2.1
  have t3 : (o0 == (3 : Int)) = false := beq_false_of_ne hne.2.2.2.1
  have t4 : (o0 == (4 : Int)) = false := beq_false_of_ne hne.2.2.2.2.1
  have t5 : (o0 == (5 : Int)) = false := beq_false_of_ne hne.2.2.2.2.2
  clear hne
  have hC : Hid (∀ X, Below W4.heap.size W4 X → Calls Try.prog 24 #[.agg #[.slice A D.1.length c, .slice B D.2.length d], .agg #[.int .i64 o0, .string o1, .string o2, .int .i64 o3]] X fun r w' => (∃ v', r = .returned (v') ∧ To w' v' D (faultyF D (o0, o1, o2, o3)) o2.size) ∧ Below X.heap.size X w') := Lib.hid (fun X hX => faultyT (o0, o1, o2, o3) (hDX X hX) hl)
  obtain ⟨RD, hRD⟩ : ∃ RD, RD = (faultyF D (o0, o1, o2, o3) : Dk) := ⟨_, rfl⟩
  rw [← hRD] at hC ⊢
  clear hRD
  obtain ⟨x0, x1, -, -⟩ := two k1
  have k1H := Lib.hid k1
  have k3H := Lib.hid k3
  have k4H := Lib.hid k4
  have y0 : W4.cell? ⟨w.heap.size + 1, 0, none⟩ = some (.int .i64 (o0)) := Lib.cell_of_heap k3 0
  have y1 : W4.cell? ⟨w.heap.size + 1, 1, none⟩ = some (.string o1) := Lib.cell_of_heap k3 1
  have y2 : W4.cell? ⟨w.heap.size + 1, 2, none⟩ = some (.string o2) := Lib.cell_of_heap k3 2
  have y3 : W4.cell? ⟨w.heap.size + 1, 3, none⟩ = some (.int .i64 o3) := Lib.cell_of_heap k3 3
  clear k1 k3 k4 hA hB kb hDX
  go_enter Try.func8, Try.ntmps8
  go_upto_region 1 with fail
  rw [← hW4]
  clear hW4
  go_upto_region 3 with fail
  go_upto_region 16 with (go_at_call 24; ((with_reducible refine (hC.out _ (Below.refl _ _)).mono ?_); rintro r w5 ⟨⟨v', rfl, hD'⟩, hb5⟩; obtain ⟨D', ⟨A', c', B', d', rfl, hA', hB'⟩, hEq, hLm⟩ := hD'; have j1 := (hb5.block w.heap.size (by omega)).trans k1H.out; obtain ⟨r0, r1, r2, r3⟩ := two j1))
  have j4 := (hb5.block (w.heap.size + 1 + 1) (by omega)).trans k4H.out
  have hDX := (show DkAt w5 (.agg #[.slice A' D'.1.length c', .slice B' D'.2.length d']) D' from ⟨A', c', B', d', rfl, hA', hB'⟩).assign j1 (.slice A' D'.1.length c') (.slice B' D'.2.length d')
  have e1 := store2 j1 (.slice A' D'.1.length c') (.slice B' D'.2.length d')
  have e4 := set2_other j4 (g := w.heap.size) (by omega) (.slice A' D'.1.length c') (.slice B' D'.2.length d')
  have hbX := below_set2 (kbH.out.trans (hb5.mono kbH.out.size)) (b := w.heap.size) (Nat.le_refl _) (.slice A' D'.1.length c') (.slice B' D'.2.length d')
  generalize ((w5.setCell ⟨w.heap.size, 0, none⟩ (.slice A' D'.1.length c')).setCell ⟨w.heap.size, 1, none⟩ (.slice B' D'.2.length d')) = X at hDX e1 e4 hbX ⊢
  obtain ⟨z0, z1, -, -⟩ := two e1
  obtain ⟨z2, z3, q0, q1⟩ := two e4
  have hDXH := Lib.hid hDX
  have hEqH := Lib.hid hEq
  have hLmH := Lib.hid hLm
  clear hEq hLm
  have e4H := Lib.hid e4
  have hbXH := Lib.hid hbX
  clear hDX e1 e4 hbX j1 j4 hA' hB' r0 r1 r2 r3 x0 x1 y0 y1 y2 y3 hb5 hC
  go_wp2_with fail
  have hDY := hDXH.out.assign e4H.out (.slice A' D'.1.length c') (.slice B' D'.2.length d')
  have hbY := below_set2 hbXH.out (b := w.heap.size + 1 + 1) (by omega) (.slice A' D'.1.length c') (.slice B' D'.2.length d')
  obtain ⟨p0, p1, -, -⟩ := two (store2 e4H.out (.slice A' D'.1.length c') (.slice B' D'.2.length d'))
  refine bodyPost_ret (v := .tuple #[.agg #[.slice A' D'.1.length c', .slice B' D'.2.length d'], .int .i64 (0), .int .i64 (0)]) (by simp [results, Try.results8, go_sem, p0, p1]) rfl ⟨⟨_, rfl, D', hDY, hEqH.out, hLmH.out⟩, hbY⟩
/-- An op, in the document's own. -/
theorem does_any {w : World} {v : Value} {D : Dk} (o : Od) (h : DkAt w v D) (hl : Okd D) (hN : Nm D) (hk1 : o.2.1.size ≤ maxLen) (hos : o.2.2.1.size ≤ 1099511627776) (hb : -9223372036854775808 ≤ o.2.2.2 ∧ o.2.2.2 ≤ 9223372036854775807) :
    Calls Try.prog 8 #[v, opV o] w fun r w' => (∃ v', r = .returned (.tuple #[v', .int .i64 (didF D o).2.1, .int .i64 (didF D o).2.2]) ∧ To w' v' D (didF D o).1 o.2.2.1.size) ∧ Below w.heap.size w w' := by
  obtain ⟨o0, o1, o2, o3⟩ := o
  unfold didF opV
  simp only
  by_cases e0 : o0 = 0
  · subst e0; simp only [if_true]; exact does_write h hl hos
  by_cases e1 : o0 = 1
  · subst e1; rw [if_neg e0, if_pos rfl]; exact does_sync h hl
  by_cases e2 : o0 = 2
  · subst e2; rw [if_neg e0, if_neg e1, if_pos rfl]; exact does_rename h hl
  by_cases e3 : o0 = 3
  · subst e3; rw [if_neg e0, if_neg e1, if_neg e2, if_pos rfl]; exact does_remove h hl
  by_cases e4 : o0 = 4
  · subst e4; rw [if_neg e0, if_neg e1, if_neg e2, if_neg e3, if_pos rfl]; exact does_cut h hl hb.1 hb.2
  by_cases e5 : o0 = 5
  · subst e5; rw [if_neg e0, if_neg e1, if_neg e2, if_neg e3, if_neg e4, if_pos rfl]; exact does_crash h hl hN hk1 hb.1 hb.2
  rw [if_neg e0, if_neg e1, if_neg e2, if_neg e3, if_neg e4, if_neg e5]
  exact does_fault ⟨e0, e1, e2, e3, e4, e5⟩ h hl
end Go.Proofs.Ythdgfchmglkpaaa
