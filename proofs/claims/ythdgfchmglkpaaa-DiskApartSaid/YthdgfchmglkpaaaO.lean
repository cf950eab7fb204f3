/-
  The law's did: an op done in the document's own. Premises: the disk and the op are not too long.
-/
import Derived.Test.YthdgfchmglkpaaaChecked
import Derived.Test.YthdgfchmglkpaaaMath
import Derived.Test.YthdgfchmglkpaaaA
import Derived.Test.YthdgfchmglkpaaaB
import Derived.Test.YthdgfchmglkpaaaC
import Derived.Test.YthdgfchmglkpaaaD
import Derived.Test.YthdgfchmglkpaaaE
import Derived.Test.YthdgfchmglkpaaaF
import Derived.Test.YthdgfchmglkpaaaG
import Derived.Test.YthdgfchmglkpaaaH
import Derived.Test.YthdgfchmglkpaaaI
import Derived.Test.YthdgfchmglkpaaaJ
import Derived.Test.YthdgfchmglkpaaaK
import Derived.Test.YthdgfchmglkpaaaL
import Derived.Test.YthdgfchmglkpaaaM
import Derived.Test.YthdgfchmglkpaaaN
import Derived.WalkKit
import Derived.WalkSpells
import Derived.WalkLawsBesides
import Derived.Deep.QuietTactic
import Derived.BigQuiet
import Derived.Lib.Hide
import Derived.Lib.SmallJoins
import Derived.Outline
import Derived.OwnWalk
import Derived.Deep.CutBlock
import Derived.BigRegion
import Derived.StillTailTactics
import Derived.Laws.AppendOwnNone
import Derived.Maps.AppendAt
import Derived.Deep.RegionLaw
import Derived.Deep.RegionHeld3
import Derived.Lib.BufferRead
import Derived.Deep.AppendLies
namespace Go.Proofs.Ythdgfchmglkpaaa
open Go.RowKit
/-- What an op does to a disk, by the document; how many bytes were written; its error. -/
def didF (D : Dk) (o : Od) : Dk × Int × Int :=
  if o.1 = 0 then ((writeF D o.2.1 o.2.2.1).1, (((writeF D o.2.1 o.2.2.1).2.1 : Nat) : Int), (writeF D o.2.1 o.2.2.1).2.2)
  else if o.1 = 1 then ((syncF D o.2.1).1, 0, (syncF D o.2.1).2)
  else if o.1 = 2 then ((renameF D o.2.1 o.2.2.1).1, 0, (renameF D o.2.1 o.2.2.1).2)
  else if o.1 = 3 then ((removeF D.1 o.2.1, D.2), 0, 0)
  else if o.1 = 4 then ((cutF D o.2.1 o.2.2.2).1, 0, (cutF D o.2.1 o.2.2.2).2)
  else if o.1 = 5 then (((filesF D.1).map (crashF [(o.2.1, o.2.2.2), (o.2.1, 1)]), []), 0, 0)
  else (faultyF D o, 0, 0)
theorem cell_poke {W : World} {p : Addr} {x : Option Addr} {n c : Nat} (hp : W.cell? p = some (.slice x n c)) (u : Value) {q : Addr} {z : Value} (hq : W.cell? q = some z) (hz : ∀ x n c, z ≠ .slice x n c) : (W.setCell p u).cell? q = some z := by
  rw [World.cell?_setCell_other _ _ _ _ (fun e => by
    rw [← e, hp] at hq
    exact hz _ _ _ (Option.some.inj hq).symm)]
  exact hq
theorem FilesAt.poke {W : World} {A : Option Addr} {L : List Fl} (h : FilesAt W A L) {p : Addr} {x : Option Addr} {n c : Nat} (hp : W.cell? p = some (.slice x n c)) (u : Value) : FilesAt (W.setCell p u) A L := fun i f hi => by
  obtain ⟨a, h1, h2, h3, h4, h5⟩ := h i f hi
  exact ⟨a, h1, h2.set _ _, cell_poke hp u h3 (fun _ _ _ e => by cases e), cell_poke hp u h4 (fun _ _ _ e => by cases e), cell_poke hp u h5 (fun _ _ _ e => by cases e)⟩
theorem FaultsAt.poke {W : World} {A : Option Addr} {L : List Ft} (h : FaultsAt W A L) {p : Addr} {x : Option Addr} {n c : Nat} (hp : W.cell? p = some (.slice x n c)) (u : Value) : FaultsAt (W.setCell p u) A L := fun i f hi => by
  obtain ⟨a, h1, h2, h3, h4, h5⟩ := h i f hi
  exact ⟨a, h1, h2.set _ _, cell_poke hp u h3 (fun _ _ _ e => by cases e), cell_poke hp u h4 (fun _ _ _ e => by cases e), cell_poke hp u h5 (fun _ _ _ e => by cases e)⟩
theorem DkAt.poke {W : World} {v : Value} {D : Dk} (h : DkAt W v D) {p : Addr} {x : Option Addr} {n c : Nat} (hp : W.cell? p = some (.slice x n c)) (u : Value) : DkAt (W.setCell p u) v D := by
  obtain ⟨A, c, B, d, h1, h2, h3⟩ := h
  exact ⟨A, c, B, d, h1, h2.poke hp u, h3.poke hp u⟩
/-- A disk assigned to a variable that held rows. -/
theorem DkAt.assign {W : World} {v : Value} {D : Dk} (h : DkAt W v D) {g : Nat} {x y : Option Addr} {n c m d : Nat} {ty : TypeId} (hg : W.heap[g]? = some (.cells #[.slice x n c, .slice y m d] ty (0, 0))) (u0 u1 : Value) : DkAt ((W.setCell ⟨g, 0, none⟩ u0).setCell ⟨g, 1, none⟩ u1) v D := by
  refine (h.poke (Lib.cell_of_heap hg 0) u0).poke (p := ⟨g, 1, none⟩) (x := y) (n := m) (c := d) ?_ u1
  rw [World.cell?_setCell_other _ _ _ _ (fun e => by cases e)]
  exact Lib.cell_of_heap hg 1
theorem set2_other {X : World} {g b : Nat} {o : Obj} (h : X.heap[b]? = some o) (hn : b ≠ g) (v0 v1 : Value) : ((X.setCell ⟨g, 0, none⟩ v0).setCell ⟨g, 1, none⟩ v1).heap[b]? = some o := by
  rw [Below.heap_setCell _ _ _ _ hn, Below.heap_setCell _ _ _ _ hn]
  exact h
theorem rremoveD {w : World} {v : Value} {D : Dk} (k : ByteArray) (h : DkAt w v D) (hl : Few D) :
    Calls Try.prog 28 #[v, .string k] w fun r w' => (∃ v', r = .returned v' ∧ DkAt w' v' (removeF D.1 k, D.2)) ∧ Below w.heap.size w w' := by
  obtain ⟨A, c, B, d, rfl, hA, hB⟩ := h
  refine (rremove_any k hA hl.1).mono ?_
  rintro r w' ⟨⟨v, rfl, hv⟩, hb⟩
  obtain ⟨A', c', rfl, hF⟩ := hv.files
  exact ⟨⟨_, rfl, A', c', B, d, rfl, hF, hB.on hb⟩, hb⟩
theorem rcrashD {w : World} {v : Value} {D : Dk} {E : Option Addr} {e : Nat} {K : List Kp} (h : DkAt w v D) (hl : Few D) (hs : ∀ f ∈ D.1, f.2.1.size ≤ 4611686018427387904) (hK : KeepsAt w E K) (hkl : K.length ≤ 1000000) :
    Calls Try.prog 30 #[v, .slice E K.length e] w fun r w' => (∃ v', r = .returned v' ∧ DkAt w' v' ((filesF D.1).map (crashF K), [])) ∧ Below w.heap.size w w' := by
  obtain ⟨A, c, B, d, rfl, hA, hB⟩ := h
  refine (rcrash_any hA hl.1 hs hK hkl).mono ?_
  rintro r w' ⟨⟨v, rfl, hv⟩, hb⟩
  obtain ⟨A', c', rfl, hF⟩ := hv.files
  exact ⟨⟨_, rfl, A', c', none, 0, rfl, hF, fun i f hf => by simp at hf⟩, hb⟩
theorem keeps_two (w : World) (k : ByteArray) (n : Int) : KeepsAt (w.alloc (.cells #[.string k, .int .i64 n, .string k, .int .i64 1] 56)) (some ⟨w.heap.size, 0, none⟩) [(k, n), (k, 1)] := fun i f hf => by
  have hn := heap_alloc_new w (.cells #[.string k, .int .i64 n, .string k, .int .i64 1] 56)
  match i, hf with
  | 0, hf =>
    cases hf
    exact ⟨_, rfl, by simp, Lib.cell_of_heap hn 0, Lib.cell_of_heap hn 1⟩
  | 1, hf =>
    cases hf
    exact ⟨_, rfl, by simp, Lib.cell_of_heap hn 2, Lib.cell_of_heap hn 3⟩
set_option maxRecDepth 100000 in
set_option maxHeartbeats 4000000 in
theorem did_write {w : World} {v : Value} {D : Dk} {o1 o2 : ByteArray} {o3 : Int} (h : DkAt w v D) (hl : Few D) (hs : ∀ f ∈ D.1, f.2.1.size ≤ 4611686018427387904) (hos : o2.size ≤ 4611686018427387903) :
    Calls Try.prog 9 #[v, .agg #[.int .i64 0, .string o1, .string o2, .int .i64 o3]] w fun r w' => (∃ v', r = .returned (.tuple #[v', .int .i64 ((((writeF D o1 o2).2.1 : Nat) : Int)), .int .i64 ((writeF D o1 o2).2.2)]) ∧ DkAt w' v' ((writeF D o1 o2).1)) ∧ Below w.heap.size w w' := by
  obtain ⟨A, c, B, d, rfl, hA, hB⟩ := h
  obtain ⟨W4, hW4, k1, k3, k4, kb, ks⟩ := three_boxes w (.cells #[.slice A D.1.length c, .slice B D.2.length d] 25) (.cells #[.int .i64 0, .string o1, .string o2, .int .i64 o3] 30) (.cells #[.slice none 0 0, .slice none 0 0] 25)
  have kbH := Lib.hid kb
  have hDX : ∀ X, Below W4.heap.size W4 X → DkAt X (.agg #[.slice A D.1.length c, .slice B D.2.length d]) D := fun X hX => ⟨A, c, B, d, rfl, (hA.on kb).on hX, (hB.on kb).on hX⟩
  have hC : Hid (∀ X, Below W4.heap.size W4 X → Calls Try.prog 25 #[.agg #[.slice A D.1.length c, .slice B D.2.length d], .string o1, .string o2] X fun r w' => (∃ v', r = .returned (.tuple #[v', .int .i64 ((((writeF D o1 o2).2.1 : Nat) : Int)), .int .i64 ((writeF D o1 o2).2.2)]) ∧ DkAt w' v' ((writeF D o1 o2).1)) ∧ Below X.heap.size X w') := Lib.hid (fun X hX => rwrite_any o1 o2 (hDX X hX) hl hs hos)
  obtain ⟨RD, hRD⟩ : ∃ RD, RD = ((writeF D o1 o2).1 : Dk) := ⟨_, rfl⟩
  rw [← hRD] at hC ⊢
  clear hRD
  generalize (((writeF D o1 o2).2.1 : Nat) : Int) = rn at *
  generalize (writeF D o1 o2).2.2 = re at *
  obtain ⟨x0, x1, -, -⟩ := two k1
  have k1H := Lib.hid k1
  have k3H := Lib.hid k3
  have k4H := Lib.hid k4
  have y0 : W4.cell? ⟨w.heap.size + 1, 0, none⟩ = some (.int .i64 (0)) := Lib.cell_of_heap k3 0
  have y1 : W4.cell? ⟨w.heap.size + 1, 1, none⟩ = some (.string o1) := Lib.cell_of_heap k3 1
  have y2 : W4.cell? ⟨w.heap.size + 1, 2, none⟩ = some (.string o2) := Lib.cell_of_heap k3 2
  have y3 : W4.cell? ⟨w.heap.size + 1, 3, none⟩ = some (.int .i64 o3) := Lib.cell_of_heap k3 3
  clear k1 k3 k4 hA hB kb hDX
  go_enter Try.func9, Try.ntmps9
  go_upto_region 1 with fail
  rw [← hW4]
  clear hW4
  go_upto_region 5 with fail
  go_upto_region 16 with (go_at_call 25; ((with_reducible refine (hC.out _ (Below.refl _ _)).mono ?_); rintro r w5 ⟨⟨v', rfl, hD'⟩, hb5⟩; obtain ⟨A', c', B', d', rfl, hA', hB'⟩ := hD'; have j1 := (hb5.block w.heap.size (by omega)).trans k1H.out; obtain ⟨r0, r1, r2, r3⟩ := two j1))
  have j4 := (hb5.block (w.heap.size + 1 + 1) (by omega)).trans k4H.out
  have hDX := (show DkAt w5 (.agg #[.slice A' RD.1.length c', .slice B' RD.2.length d']) RD from ⟨A', c', B', d', rfl, hA', hB'⟩).assign j1 (.slice A' RD.1.length c') (.slice B' RD.2.length d')
  have e1 := store2 j1 (.slice A' RD.1.length c') (.slice B' RD.2.length d')
  have e4 := set2_other j4 (g := w.heap.size) (by omega) (.slice A' RD.1.length c') (.slice B' RD.2.length d')
  have hbX := below_set2 (kbH.out.trans (hb5.mono kbH.out.size)) (b := w.heap.size) (Nat.le_refl _) (.slice A' RD.1.length c') (.slice B' RD.2.length d')
  generalize ((w5.setCell ⟨w.heap.size, 0, none⟩ (.slice A' RD.1.length c')).setCell ⟨w.heap.size, 1, none⟩ (.slice B' RD.2.length d')) = X at hDX e1 e4 hbX ⊢
  obtain ⟨z0, z1, -, -⟩ := two e1
  obtain ⟨z2, z3, q0, q1⟩ := two e4
  have hDXH := Lib.hid hDX
  have e4H := Lib.hid e4
  have hbXH := Lib.hid hbX
  clear hDX e1 e4 hbX j1 j4 hA' hB' r0 r1 r2 r3 x0 x1 y0 y1 y2 y3 hb5 hC
  go_wp2_with fail
  have hDY := hDXH.out.assign e4H.out (.slice A' RD.1.length c') (.slice B' RD.2.length d')
  have hbY := below_set2 hbXH.out (b := w.heap.size + 1 + 1) (by omega) (.slice A' RD.1.length c') (.slice B' RD.2.length d')
  obtain ⟨p0, p1, -, -⟩ := two (store2 e4H.out (.slice A' RD.1.length c') (.slice B' RD.2.length d'))
  refine bodyPost_ret (v := .tuple #[.agg #[.slice A' RD.1.length c', .slice B' RD.2.length d'], .int .i64 (rn), .int .i64 (re)]) (by simp [results, Try.results9, go_sem, p0, p1]) rfl ⟨⟨_, rfl, hDY⟩, hbY⟩
set_option maxRecDepth 100000 in
set_option maxHeartbeats 4000000 in
theorem did_sync {w : World} {v : Value} {D : Dk} {o1 o2 : ByteArray} {o3 : Int} (h : DkAt w v D) (hl : Few D) :
    Calls Try.prog 9 #[v, .agg #[.int .i64 1, .string o1, .string o2, .int .i64 o3]] w fun r w' => (∃ v', r = .returned (.tuple #[v', .int .i64 (0), .int .i64 ((syncF D o1).2)]) ∧ DkAt w' v' ((syncF D o1).1)) ∧ Below w.heap.size w w' := by
  obtain ⟨A, c, B, d, rfl, hA, hB⟩ := h
  obtain ⟨W4, hW4, k1, k3, k4, kb, ks⟩ := three_boxes w (.cells #[.slice A D.1.length c, .slice B D.2.length d] 25) (.cells #[.int .i64 1, .string o1, .string o2, .int .i64 o3] 30) (.cells #[.slice none 0 0, .slice none 0 0] 25)
  have kbH := Lib.hid kb
  have hDX : ∀ X, Below W4.heap.size W4 X → DkAt X (.agg #[.slice A D.1.length c, .slice B D.2.length d]) D := fun X hX => ⟨A, c, B, d, rfl, (hA.on kb).on hX, (hB.on kb).on hX⟩
  have hC : Hid (∀ X, Below W4.heap.size W4 X → Calls Try.prog 26 #[.agg #[.slice A D.1.length c, .slice B D.2.length d], .string o1] X fun r w' => (∃ v', r = .returned (.tuple #[v', .int .i64 ((syncF D o1).2)]) ∧ DkAt w' v' ((syncF D o1).1)) ∧ Below X.heap.size X w') := Lib.hid (fun X hX => rsync_any o1 (hDX X hX) hl)
  obtain ⟨RD, hRD⟩ : ∃ RD, RD = ((syncF D o1).1 : Dk) := ⟨_, rfl⟩
  rw [← hRD] at hC ⊢
  clear hRD
  generalize (syncF D o1).2 = re at *
  obtain ⟨x0, x1, -, -⟩ := two k1
  have k1H := Lib.hid k1
  have k3H := Lib.hid k3
  have k4H := Lib.hid k4
  have y0 : W4.cell? ⟨w.heap.size + 1, 0, none⟩ = some (.int .i64 (1)) := Lib.cell_of_heap k3 0
  have y1 : W4.cell? ⟨w.heap.size + 1, 1, none⟩ = some (.string o1) := Lib.cell_of_heap k3 1
  have y2 : W4.cell? ⟨w.heap.size + 1, 2, none⟩ = some (.string o2) := Lib.cell_of_heap k3 2
  have y3 : W4.cell? ⟨w.heap.size + 1, 3, none⟩ = some (.int .i64 o3) := Lib.cell_of_heap k3 3
  clear k1 k3 k4 hA hB kb hDX
  go_enter Try.func9, Try.ntmps9
  go_upto_region 1 with fail
  rw [← hW4]
  clear hW4
  go_upto_region 7 with fail
  go_upto_region 16 with (go_at_call 26; ((with_reducible refine (hC.out _ (Below.refl _ _)).mono ?_); rintro r w5 ⟨⟨v', rfl, hD'⟩, hb5⟩; obtain ⟨A', c', B', d', rfl, hA', hB'⟩ := hD'; have j1 := (hb5.block w.heap.size (by omega)).trans k1H.out; obtain ⟨r0, r1, r2, r3⟩ := two j1))
  have j4 := (hb5.block (w.heap.size + 1 + 1) (by omega)).trans k4H.out
  have hDX := (show DkAt w5 (.agg #[.slice A' RD.1.length c', .slice B' RD.2.length d']) RD from ⟨A', c', B', d', rfl, hA', hB'⟩).assign j1 (.slice A' RD.1.length c') (.slice B' RD.2.length d')
  have e1 := store2 j1 (.slice A' RD.1.length c') (.slice B' RD.2.length d')
  have e4 := set2_other j4 (g := w.heap.size) (by omega) (.slice A' RD.1.length c') (.slice B' RD.2.length d')
  have hbX := below_set2 (kbH.out.trans (hb5.mono kbH.out.size)) (b := w.heap.size) (Nat.le_refl _) (.slice A' RD.1.length c') (.slice B' RD.2.length d')
  generalize ((w5.setCell ⟨w.heap.size, 0, none⟩ (.slice A' RD.1.length c')).setCell ⟨w.heap.size, 1, none⟩ (.slice B' RD.2.length d')) = X at hDX e1 e4 hbX ⊢
  obtain ⟨z0, z1, -, -⟩ := two e1
  obtain ⟨z2, z3, q0, q1⟩ := two e4
  have hDXH := Lib.hid hDX
  have e4H := Lib.hid e4
  have hbXH := Lib.hid hbX
  clear hDX e1 e4 hbX j1 j4 hA' hB' r0 r1 r2 r3 x0 x1 y0 y1 y2 y3 hb5 hC
  go_wp2_with fail
  have hDY := hDXH.out.assign e4H.out (.slice A' RD.1.length c') (.slice B' RD.2.length d')
  have hbY := below_set2 hbXH.out (b := w.heap.size + 1 + 1) (by omega) (.slice A' RD.1.length c') (.slice B' RD.2.length d')
  obtain ⟨p0, p1, -, -⟩ := two (store2 e4H.out (.slice A' RD.1.length c') (.slice B' RD.2.length d'))
  refine bodyPost_ret (v := .tuple #[.agg #[.slice A' RD.1.length c', .slice B' RD.2.length d'], .int .i64 (0), .int .i64 (re)]) (by simp [results, Try.results9, go_sem, p0, p1]) rfl ⟨⟨_, rfl, hDY⟩, hbY⟩
set_option maxRecDepth 100000 in
set_option maxHeartbeats 4000000 in
theorem did_rename {w : World} {v : Value} {D : Dk} {o1 o2 : ByteArray} {o3 : Int} (h : DkAt w v D) (hl : Few D) :
    Calls Try.prog 9 #[v, .agg #[.int .i64 2, .string o1, .string o2, .int .i64 o3]] w fun r w' => (∃ v', r = .returned (.tuple #[v', .int .i64 (0), .int .i64 ((renameF D o1 o2).2)]) ∧ DkAt w' v' ((renameF D o1 o2).1)) ∧ Below w.heap.size w w' := by
  obtain ⟨A, c, B, d, rfl, hA, hB⟩ := h
  obtain ⟨W4, hW4, k1, k3, k4, kb, ks⟩ := three_boxes w (.cells #[.slice A D.1.length c, .slice B D.2.length d] 25) (.cells #[.int .i64 2, .string o1, .string o2, .int .i64 o3] 30) (.cells #[.slice none 0 0, .slice none 0 0] 25)
  have kbH := Lib.hid kb
  have hDX : ∀ X, Below W4.heap.size W4 X → DkAt X (.agg #[.slice A D.1.length c, .slice B D.2.length d]) D := fun X hX => ⟨A, c, B, d, rfl, (hA.on kb).on hX, (hB.on kb).on hX⟩
  have hC : Hid (∀ X, Below W4.heap.size W4 X → Calls Try.prog 27 #[.agg #[.slice A D.1.length c, .slice B D.2.length d], .string o1, .string o2] X fun r w' => (∃ v', r = .returned (.tuple #[v', .int .i64 ((renameF D o1 o2).2)]) ∧ DkAt w' v' ((renameF D o1 o2).1)) ∧ Below X.heap.size X w') := Lib.hid (fun X hX => rrename_any o1 o2 (hDX X hX) hl)
  obtain ⟨RD, hRD⟩ : ∃ RD, RD = ((renameF D o1 o2).1 : Dk) := ⟨_, rfl⟩
  rw [← hRD] at hC ⊢
  clear hRD
  generalize (renameF D o1 o2).2 = re at *
  obtain ⟨x0, x1, -, -⟩ := two k1
  have k1H := Lib.hid k1
  have k3H := Lib.hid k3
  have k4H := Lib.hid k4
  have y0 : W4.cell? ⟨w.heap.size + 1, 0, none⟩ = some (.int .i64 (2)) := Lib.cell_of_heap k3 0
  have y1 : W4.cell? ⟨w.heap.size + 1, 1, none⟩ = some (.string o1) := Lib.cell_of_heap k3 1
  have y2 : W4.cell? ⟨w.heap.size + 1, 2, none⟩ = some (.string o2) := Lib.cell_of_heap k3 2
  have y3 : W4.cell? ⟨w.heap.size + 1, 3, none⟩ = some (.int .i64 o3) := Lib.cell_of_heap k3 3
  clear k1 k3 k4 hA hB kb hDX
  go_enter Try.func9, Try.ntmps9
  go_upto_region 1 with fail
  rw [← hW4]
  clear hW4
  go_upto_region 9 with fail
  go_upto_region 16 with (go_at_call 27; ((with_reducible refine (hC.out _ (Below.refl _ _)).mono ?_); rintro r w5 ⟨⟨v', rfl, hD'⟩, hb5⟩; obtain ⟨A', c', B', d', rfl, hA', hB'⟩ := hD'; have j1 := (hb5.block w.heap.size (by omega)).trans k1H.out; obtain ⟨r0, r1, r2, r3⟩ := two j1))
  have j4 := (hb5.block (w.heap.size + 1 + 1) (by omega)).trans k4H.out
  have hDX := (show DkAt w5 (.agg #[.slice A' RD.1.length c', .slice B' RD.2.length d']) RD from ⟨A', c', B', d', rfl, hA', hB'⟩).assign j1 (.slice A' RD.1.length c') (.slice B' RD.2.length d')
  have e1 := store2 j1 (.slice A' RD.1.length c') (.slice B' RD.2.length d')
  have e4 := set2_other j4 (g := w.heap.size) (by omega) (.slice A' RD.1.length c') (.slice B' RD.2.length d')
  have hbX := below_set2 (kbH.out.trans (hb5.mono kbH.out.size)) (b := w.heap.size) (Nat.le_refl _) (.slice A' RD.1.length c') (.slice B' RD.2.length d')
  generalize ((w5.setCell ⟨w.heap.size, 0, none⟩ (.slice A' RD.1.length c')).setCell ⟨w.heap.size, 1, none⟩ (.slice B' RD.2.length d')) = X at hDX e1 e4 hbX ⊢
  obtain ⟨z0, z1, -, -⟩ := two e1
  obtain ⟨z2, z3, q0, q1⟩ := two e4
  have hDXH := Lib.hid hDX
  have e4H := Lib.hid e4
  have hbXH := Lib.hid hbX
  clear hDX e1 e4 hbX j1 j4 hA' hB' r0 r1 r2 r3 x0 x1 y0 y1 y2 y3 hb5 hC
  go_wp2_with fail
  have hDY := hDXH.out.assign e4H.out (.slice A' RD.1.length c') (.slice B' RD.2.length d')
  have hbY := below_set2 hbXH.out (b := w.heap.size + 1 + 1) (by omega) (.slice A' RD.1.length c') (.slice B' RD.2.length d')
  obtain ⟨p0, p1, -, -⟩ := two (store2 e4H.out (.slice A' RD.1.length c') (.slice B' RD.2.length d'))
  refine bodyPost_ret (v := .tuple #[.agg #[.slice A' RD.1.length c', .slice B' RD.2.length d'], .int .i64 (0), .int .i64 (re)]) (by simp [results, Try.results9, go_sem, p0, p1]) rfl ⟨⟨_, rfl, hDY⟩, hbY⟩
set_option maxRecDepth 100000 in
set_option maxHeartbeats 4000000 in
theorem did_remove {w : World} {v : Value} {D : Dk} {o1 o2 : ByteArray} {o3 : Int} (h : DkAt w v D) (hl : Few D) :
    Calls Try.prog 9 #[v, .agg #[.int .i64 3, .string o1, .string o2, .int .i64 o3]] w fun r w' => (∃ v', r = .returned (.tuple #[v', .int .i64 (0), .int .i64 (0)]) ∧ DkAt w' v' ((removeF D.1 o1, D.2))) ∧ Below w.heap.size w w' := by
  obtain ⟨A, c, B, d, rfl, hA, hB⟩ := h
  obtain ⟨W4, hW4, k1, k3, k4, kb, ks⟩ := three_boxes w (.cells #[.slice A D.1.length c, .slice B D.2.length d] 25) (.cells #[.int .i64 3, .string o1, .string o2, .int .i64 o3] 30) (.cells #[.slice none 0 0, .slice none 0 0] 25)
  have kbH := Lib.hid kb
  have hDX : ∀ X, Below W4.heap.size W4 X → DkAt X (.agg #[.slice A D.1.length c, .slice B D.2.length d]) D := fun X hX => ⟨A, c, B, d, rfl, (hA.on kb).on hX, (hB.on kb).on hX⟩
  have hC : Hid (∀ X, Below W4.heap.size W4 X → Calls Try.prog 28 #[.agg #[.slice A D.1.length c, .slice B D.2.length d], .string o1] X fun r w' => (∃ v', r = .returned (v') ∧ DkAt w' v' ((removeF D.1 o1, D.2))) ∧ Below X.heap.size X w') := Lib.hid (fun X hX => rremoveD o1 (hDX X hX) hl)
  obtain ⟨RD, hRD⟩ : ∃ RD, RD = ((removeF D.1 o1, D.2) : Dk) := ⟨_, rfl⟩
  rw [← hRD] at hC ⊢
  clear hRD
  obtain ⟨x0, x1, -, -⟩ := two k1
  have k1H := Lib.hid k1
  have k3H := Lib.hid k3
  have k4H := Lib.hid k4
  have y0 : W4.cell? ⟨w.heap.size + 1, 0, none⟩ = some (.int .i64 (3)) := Lib.cell_of_heap k3 0
  have y1 : W4.cell? ⟨w.heap.size + 1, 1, none⟩ = some (.string o1) := Lib.cell_of_heap k3 1
  have y2 : W4.cell? ⟨w.heap.size + 1, 2, none⟩ = some (.string o2) := Lib.cell_of_heap k3 2
  have y3 : W4.cell? ⟨w.heap.size + 1, 3, none⟩ = some (.int .i64 o3) := Lib.cell_of_heap k3 3
  clear k1 k3 k4 hA hB kb hDX
  go_enter Try.func9, Try.ntmps9
  go_upto_region 1 with fail
  rw [← hW4]
  clear hW4
  go_upto_region 11 with fail
  go_upto_region 16 with (go_at_call 28; ((with_reducible refine (hC.out _ (Below.refl _ _)).mono ?_); rintro r w5 ⟨⟨v', rfl, hD'⟩, hb5⟩; obtain ⟨A', c', B', d', rfl, hA', hB'⟩ := hD'; have j1 := (hb5.block w.heap.size (by omega)).trans k1H.out; obtain ⟨r0, r1, r2, r3⟩ := two j1))
  have j4 := (hb5.block (w.heap.size + 1 + 1) (by omega)).trans k4H.out
  have hDX := (show DkAt w5 (.agg #[.slice A' RD.1.length c', .slice B' RD.2.length d']) RD from ⟨A', c', B', d', rfl, hA', hB'⟩).assign j1 (.slice A' RD.1.length c') (.slice B' RD.2.length d')
  have e1 := store2 j1 (.slice A' RD.1.length c') (.slice B' RD.2.length d')
  have e4 := set2_other j4 (g := w.heap.size) (by omega) (.slice A' RD.1.length c') (.slice B' RD.2.length d')
  have hbX := below_set2 (kbH.out.trans (hb5.mono kbH.out.size)) (b := w.heap.size) (Nat.le_refl _) (.slice A' RD.1.length c') (.slice B' RD.2.length d')
  generalize ((w5.setCell ⟨w.heap.size, 0, none⟩ (.slice A' RD.1.length c')).setCell ⟨w.heap.size, 1, none⟩ (.slice B' RD.2.length d')) = X at hDX e1 e4 hbX ⊢
  obtain ⟨z0, z1, -, -⟩ := two e1
  obtain ⟨z2, z3, q0, q1⟩ := two e4
  have hDXH := Lib.hid hDX
  have e4H := Lib.hid e4
  have hbXH := Lib.hid hbX
  clear hDX e1 e4 hbX j1 j4 hA' hB' r0 r1 r2 r3 x0 x1 y0 y1 y2 y3 hb5 hC
  go_wp2_with fail
  have hDY := hDXH.out.assign e4H.out (.slice A' RD.1.length c') (.slice B' RD.2.length d')
  have hbY := below_set2 hbXH.out (b := w.heap.size + 1 + 1) (by omega) (.slice A' RD.1.length c') (.slice B' RD.2.length d')
  obtain ⟨p0, p1, -, -⟩ := two (store2 e4H.out (.slice A' RD.1.length c') (.slice B' RD.2.length d'))
  refine bodyPost_ret (v := .tuple #[.agg #[.slice A' RD.1.length c', .slice B' RD.2.length d'], .int .i64 (0), .int .i64 (0)]) (by simp [results, Try.results9, go_sem, p0, p1]) rfl ⟨⟨_, rfl, hDY⟩, hbY⟩
set_option maxRecDepth 100000 in
set_option maxHeartbeats 4000000 in
theorem did_cut {w : World} {v : Value} {D : Dk} {o1 o2 : ByteArray} {o3 : Int} (h : DkAt w v D) (hl : Few D) :
    Calls Try.prog 9 #[v, .agg #[.int .i64 4, .string o1, .string o2, .int .i64 o3]] w fun r w' => (∃ v', r = .returned (.tuple #[v', .int .i64 (0), .int .i64 ((cutF D o1 o3).2)]) ∧ DkAt w' v' ((cutF D o1 o3).1)) ∧ Below w.heap.size w w' := by
  obtain ⟨A, c, B, d, rfl, hA, hB⟩ := h
  obtain ⟨W4, hW4, k1, k3, k4, kb, ks⟩ := three_boxes w (.cells #[.slice A D.1.length c, .slice B D.2.length d] 25) (.cells #[.int .i64 4, .string o1, .string o2, .int .i64 o3] 30) (.cells #[.slice none 0 0, .slice none 0 0] 25)
  have kbH := Lib.hid kb
  have hDX : ∀ X, Below W4.heap.size W4 X → DkAt X (.agg #[.slice A D.1.length c, .slice B D.2.length d]) D := fun X hX => ⟨A, c, B, d, rfl, (hA.on kb).on hX, (hB.on kb).on hX⟩
  have hC : Hid (∀ X, Below W4.heap.size W4 X → Calls Try.prog 29 #[.agg #[.slice A D.1.length c, .slice B D.2.length d], .string o1, .int .i64 o3] X fun r w' => (∃ v', r = .returned (.tuple #[v', .int .i64 ((cutF D o1 o3).2)]) ∧ DkAt w' v' ((cutF D o1 o3).1)) ∧ Below X.heap.size X w') := Lib.hid (fun X hX => rcut_any o1 o3 (hDX X hX) hl)
  obtain ⟨RD, hRD⟩ : ∃ RD, RD = ((cutF D o1 o3).1 : Dk) := ⟨_, rfl⟩
  rw [← hRD] at hC ⊢
  clear hRD
  generalize (cutF D o1 o3).2 = re at *
  obtain ⟨x0, x1, -, -⟩ := two k1
  have k1H := Lib.hid k1
  have k3H := Lib.hid k3
  have k4H := Lib.hid k4
  have y0 : W4.cell? ⟨w.heap.size + 1, 0, none⟩ = some (.int .i64 (4)) := Lib.cell_of_heap k3 0
  have y1 : W4.cell? ⟨w.heap.size + 1, 1, none⟩ = some (.string o1) := Lib.cell_of_heap k3 1
  have y2 : W4.cell? ⟨w.heap.size + 1, 2, none⟩ = some (.string o2) := Lib.cell_of_heap k3 2
  have y3 : W4.cell? ⟨w.heap.size + 1, 3, none⟩ = some (.int .i64 o3) := Lib.cell_of_heap k3 3
  clear k1 k3 k4 hA hB kb hDX
  go_enter Try.func9, Try.ntmps9
  go_upto_region 1 with fail
  rw [← hW4]
  clear hW4
  go_upto_region 13 with fail
  go_upto_region 16 with (go_at_call 29; ((with_reducible refine (hC.out _ (Below.refl _ _)).mono ?_); rintro r w5 ⟨⟨v', rfl, hD'⟩, hb5⟩; obtain ⟨A', c', B', d', rfl, hA', hB'⟩ := hD'; have j1 := (hb5.block w.heap.size (by omega)).trans k1H.out; obtain ⟨r0, r1, r2, r3⟩ := two j1))
  have j4 := (hb5.block (w.heap.size + 1 + 1) (by omega)).trans k4H.out
  have hDX := (show DkAt w5 (.agg #[.slice A' RD.1.length c', .slice B' RD.2.length d']) RD from ⟨A', c', B', d', rfl, hA', hB'⟩).assign j1 (.slice A' RD.1.length c') (.slice B' RD.2.length d')
  have e1 := store2 j1 (.slice A' RD.1.length c') (.slice B' RD.2.length d')
  have e4 := set2_other j4 (g := w.heap.size) (by omega) (.slice A' RD.1.length c') (.slice B' RD.2.length d')
  have hbX := below_set2 (kbH.out.trans (hb5.mono kbH.out.size)) (b := w.heap.size) (Nat.le_refl _) (.slice A' RD.1.length c') (.slice B' RD.2.length d')
  generalize ((w5.setCell ⟨w.heap.size, 0, none⟩ (.slice A' RD.1.length c')).setCell ⟨w.heap.size, 1, none⟩ (.slice B' RD.2.length d')) = X at hDX e1 e4 hbX ⊢
  obtain ⟨z0, z1, -, -⟩ := two e1
  obtain ⟨z2, z3, q0, q1⟩ := two e4
  have hDXH := Lib.hid hDX
  have e4H := Lib.hid e4
  have hbXH := Lib.hid hbX
  clear hDX e1 e4 hbX j1 j4 hA' hB' r0 r1 r2 r3 x0 x1 y0 y1 y2 y3 hb5 hC
  go_wp2_with fail
  have hDY := hDXH.out.assign e4H.out (.slice A' RD.1.length c') (.slice B' RD.2.length d')
  have hbY := below_set2 hbXH.out (b := w.heap.size + 1 + 1) (by omega) (.slice A' RD.1.length c') (.slice B' RD.2.length d')
  obtain ⟨p0, p1, -, -⟩ := two (store2 e4H.out (.slice A' RD.1.length c') (.slice B' RD.2.length d'))
  refine bodyPost_ret (v := .tuple #[.agg #[.slice A' RD.1.length c', .slice B' RD.2.length d'], .int .i64 (0), .int .i64 (re)]) (by simp [results, Try.results9, go_sem, p0, p1]) rfl ⟨⟨_, rfl, hDY⟩, hbY⟩
set_option maxRecDepth 100000 in
set_option maxHeartbeats 4000000 in
theorem did_crash {w : World} {v : Value} {D : Dk} {o1 o2 : ByteArray} {o3 : Int} (h : DkAt w v D) (hl : Few D) (hs : ∀ f ∈ D.1, f.2.1.size ≤ 4611686018427387904) :
    Calls Try.prog 9 #[v, .agg #[.int .i64 5, .string o1, .string o2, .int .i64 o3]] w fun r w' => (∃ v', r = .returned (.tuple #[v', .int .i64 (0), .int .i64 (0)]) ∧ DkAt w' v' (((filesF D.1).map (crashF [(o1, o3), (o1, 1)]), []))) ∧ Below w.heap.size w w' := by
  obtain ⟨A, c, B, d, rfl, hA, hB⟩ := h
  obtain ⟨W4, hW4, k1, k3, k4, kb, ks⟩ := three_boxes w (.cells #[.slice A D.1.length c, .slice B D.2.length d] 25) (.cells #[.int .i64 5, .string o1, .string o2, .int .i64 o3] 30) (.cells #[.slice none 0 0, .slice none 0 0] 25)
  have kbH := Lib.hid kb
  have hDX : ∀ X, Below W4.heap.size W4 X → DkAt X (.agg #[.slice A D.1.length c, .slice B D.2.length d]) D := fun X hX => ⟨A, c, B, d, rfl, (hA.on kb).on hX, (hB.on kb).on hX⟩
  have hC : Hid (Calls Try.prog 30 #[.agg #[.slice A D.1.length c, .slice B D.2.length d], .slice (some ⟨w.heap.size + 3, 0, none⟩) 2 2] (W4.alloc (.cells #[.string o1, .int .i64 o3, .string o1, .int .i64 1] 56)) fun r w' => (∃ v', r = .returned v' ∧ DkAt w' v' (((filesF D.1).map (crashF [(o1, o3), (o1, 1)]), []))) ∧ Below W4.heap.size W4 w') := Lib.hid (by
    rw [← ks]
    exact (rcrashD (K := [(o1, o3), (o1, 1)]) (hDX _ box_below) hl hs (keeps_two W4 o1 o3) (by simp)).mono (fun r w' hh => ⟨hh.1, box_below.trans (hh.2.mono box_below.size)⟩))
  obtain ⟨RD, hRD⟩ : ∃ RD, RD = (((filesF D.1).map (crashF [(o1, o3), (o1, 1)]), []) : Dk) := ⟨_, rfl⟩
  rw [← hRD] at hC ⊢
  clear hRD
  obtain ⟨x0, x1, -, -⟩ := two k1
  have k1H := Lib.hid k1
  have k3H := Lib.hid k3
  have k4H := Lib.hid k4
  have y0 : W4.cell? ⟨w.heap.size + 1, 0, none⟩ = some (.int .i64 (5)) := Lib.cell_of_heap k3 0
  have y1 : W4.cell? ⟨w.heap.size + 1, 1, none⟩ = some (.string o1) := Lib.cell_of_heap k3 1
  have y2 : W4.cell? ⟨w.heap.size + 1, 2, none⟩ = some (.string o2) := Lib.cell_of_heap k3 2
  have y3 : W4.cell? ⟨w.heap.size + 1, 3, none⟩ = some (.int .i64 o3) := Lib.cell_of_heap k3 3
  clear k1 k3 k4 hA hB kb hDX
  go_enter Try.func9, Try.ntmps9
  go_upto_region 1 with fail
  rw [← hW4]
  clear hW4
  go_upto_region 15 with fail
  go_upto_region 16 with (go_at_call 30; ((with_reducible refine (hC.out).mono ?_); rintro r w5 ⟨⟨v', rfl, hD'⟩, hb5⟩; obtain ⟨A', c', B', d', rfl, hA', hB'⟩ := hD'; have j1 := (hb5.block w.heap.size (by omega)).trans k1H.out; obtain ⟨r0, r1, r2, r3⟩ := two j1))
  have j4 := (hb5.block (w.heap.size + 1 + 1) (by omega)).trans k4H.out
  have hDX := (show DkAt w5 (.agg #[.slice A' RD.1.length c', .slice B' RD.2.length d']) RD from ⟨A', c', B', d', rfl, hA', hB'⟩).assign j1 (.slice A' RD.1.length c') (.slice B' RD.2.length d')
  have e1 := store2 j1 (.slice A' RD.1.length c') (.slice B' RD.2.length d')
  have e4 := set2_other j4 (g := w.heap.size) (by omega) (.slice A' RD.1.length c') (.slice B' RD.2.length d')
  have hbX := below_set2 (kbH.out.trans (hb5.mono kbH.out.size)) (b := w.heap.size) (Nat.le_refl _) (.slice A' RD.1.length c') (.slice B' RD.2.length d')
  generalize ((w5.setCell ⟨w.heap.size, 0, none⟩ (.slice A' RD.1.length c')).setCell ⟨w.heap.size, 1, none⟩ (.slice B' RD.2.length d')) = X at hDX e1 e4 hbX ⊢
  obtain ⟨z0, z1, -, -⟩ := two e1
  obtain ⟨z2, z3, q0, q1⟩ := two e4
  have hDXH := Lib.hid hDX
  have e4H := Lib.hid e4
  have hbXH := Lib.hid hbX
  clear hDX e1 e4 hbX j1 j4 hA' hB' r0 r1 r2 r3 x0 x1 y0 y1 y2 y3 hb5 hC
  go_wp2_with fail
  have hDY := hDXH.out.assign e4H.out (.slice A' RD.1.length c') (.slice B' RD.2.length d')
  have hbY := below_set2 hbXH.out (b := w.heap.size + 1 + 1) (by omega) (.slice A' RD.1.length c') (.slice B' RD.2.length d')
  obtain ⟨p0, p1, -, -⟩ := two (store2 e4H.out (.slice A' RD.1.length c') (.slice B' RD.2.length d'))
  refine bodyPost_ret (v := .tuple #[.agg #[.slice A' RD.1.length c', .slice B' RD.2.length d'], .int .i64 (0), .int .i64 (0)]) (by simp [results, Try.results9, go_sem, p0, p1]) rfl ⟨⟨_, rfl, hDY⟩, hbY⟩
set_option maxRecDepth 100000 in
set_option maxHeartbeats 4000000 in
theorem did_fault {w : World} {v : Value} {D : Dk} {o0 : Int} {o1 o2 : ByteArray} {o3 : Int} (hne : o0 ≠ 0 ∧ o0 ≠ 1 ∧ o0 ≠ 2 ∧ o0 ≠ 3 ∧ o0 ≠ 4 ∧ o0 ≠ 5) (h : DkAt w v D) (hl : Few D) :
    Calls Try.prog 9 #[v, .agg #[.int .i64 o0, .string o1, .string o2, .int .i64 o3]] w fun r w' => (∃ v', r = .returned (.tuple #[v', .int .i64 (0), .int .i64 (0)]) ∧ DkAt w' v' (faultyF D (o0, o1, o2, o3))) ∧ Below w.heap.size w w' := by
  obtain ⟨A, c, B, d, rfl, hA, hB⟩ := h
  obtain ⟨W4, hW4, k1, k3, k4, kb, ks⟩ := three_boxes w (.cells #[.slice A D.1.length c, .slice B D.2.length d] 25) (.cells #[.int .i64 o0, .string o1, .string o2, .int .i64 o3] 30) (.cells #[.slice none 0 0, .slice none 0 0] 25)
  have kbH := Lib.hid kb
  have hDX : ∀ X, Below W4.heap.size W4 X → DkAt X (.agg #[.slice A D.1.length c, .slice B D.2.length d]) D := fun X hX => ⟨A, c, B, d, rfl, (hA.on kb).on hX, (hB.on kb).on hX⟩
  have t0 : (o0 == (0 : Int)) = false := beq_false_of_ne hne.1
  have t1 : (o0 == (1 : Int)) = false := beq_false_of_ne hne.2.1
  have t2 : (o0 == (2 : Int)) = false := beq_false_of_ne hne.2.2.1
  have t3 : (o0 == (3 : Int)) = false := beq_false_of_ne hne.2.2.2.1
  have t4 : (o0 == (4 : Int)) = false := beq_false_of_ne hne.2.2.2.2.1
  have t5 : (o0 == (5 : Int)) = false := beq_false_of_ne hne.2.2.2.2.2
  clear hne
  have hC : Hid (∀ X, Below W4.heap.size W4 X → Calls Try.prog 24 #[.agg #[.slice A D.1.length c, .slice B D.2.length d], .agg #[.int .i64 o0, .string o1, .string o2, .int .i64 o3]] X fun r w' => (∃ v', r = .returned (v') ∧ DkAt w' v' (faultyF D (o0, o1, o2, o3))) ∧ Below X.heap.size X w') := Lib.hid (fun X hX => faulty_any (o0, o1, o2, o3) (hDX X hX) hl)
  obtain ⟨RD, hRD⟩ : ∃ RD, RD = (faultyF D (o0, o1, o2, o3) : Dk) := ⟨_, rfl⟩
  rw [← hRD] at hC ⊢
  clear hRD
  obtain ⟨x0, x1, -, -⟩ := two k1
  have k1H := Lib.hid k1
  have k3H := Lib.hid k3
  have k4H := Lib.hid k4
  have y0 : W4.cell? ⟨w.heap.size + 1, 0, none⟩ = some (.int .i64 (o0)) := Lib.cell_of_heap k3 0
  have y1 : W4.cell? ⟨w.heap.size + 1, 1, none⟩ = some (.string o1) := Lib.cell_of_heap k3 1
  have y2 : W4.cell? ⟨w.heap.size + 1, 2, none⟩ = some (.string o2) := Lib.cell_of_heap k3 2
  have y3 : W4.cell? ⟨w.heap.size + 1, 3, none⟩ = some (.int .i64 o3) := Lib.cell_of_heap k3 3
  clear k1 k3 k4 hA hB kb hDX
  go_enter Try.func9, Try.ntmps9
  go_upto_region 1 with fail
  rw [← hW4]
  clear hW4
  go_upto_region 3 with fail
  go_upto_region 16 with (go_at_call 24; ((with_reducible refine (hC.out _ (Below.refl _ _)).mono ?_); rintro r w5 ⟨⟨v', rfl, hD'⟩, hb5⟩; obtain ⟨A', c', B', d', rfl, hA', hB'⟩ := hD'; have j1 := (hb5.block w.heap.size (by omega)).trans k1H.out; obtain ⟨r0, r1, r2, r3⟩ := two j1))
  have j4 := (hb5.block (w.heap.size + 1 + 1) (by omega)).trans k4H.out
  have hDX := (show DkAt w5 (.agg #[.slice A' RD.1.length c', .slice B' RD.2.length d']) RD from ⟨A', c', B', d', rfl, hA', hB'⟩).assign j1 (.slice A' RD.1.length c') (.slice B' RD.2.length d')
  have e1 := store2 j1 (.slice A' RD.1.length c') (.slice B' RD.2.length d')
  have e4 := set2_other j4 (g := w.heap.size) (by omega) (.slice A' RD.1.length c') (.slice B' RD.2.length d')
  have hbX := below_set2 (kbH.out.trans (hb5.mono kbH.out.size)) (b := w.heap.size) (Nat.le_refl _) (.slice A' RD.1.length c') (.slice B' RD.2.length d')
  generalize ((w5.setCell ⟨w.heap.size, 0, none⟩ (.slice A' RD.1.length c')).setCell ⟨w.heap.size, 1, none⟩ (.slice B' RD.2.length d')) = X at hDX e1 e4 hbX ⊢
  obtain ⟨z0, z1, -, -⟩ := two e1
  obtain ⟨z2, z3, q0, q1⟩ := two e4
  have hDXH := Lib.hid hDX
  have e4H := Lib.hid e4
  have hbXH := Lib.hid hbX
  clear hDX e1 e4 hbX j1 j4 hA' hB' r0 r1 r2 r3 x0 x1 y0 y1 y2 y3 hb5 hC
  go_wp2_with fail
  have hDY := hDXH.out.assign e4H.out (.slice A' RD.1.length c') (.slice B' RD.2.length d')
  have hbY := below_set2 hbXH.out (b := w.heap.size + 1 + 1) (by omega) (.slice A' RD.1.length c') (.slice B' RD.2.length d')
  obtain ⟨p0, p1, -, -⟩ := two (store2 e4H.out (.slice A' RD.1.length c') (.slice B' RD.2.length d'))
  refine bodyPost_ret (v := .tuple #[.agg #[.slice A' RD.1.length c', .slice B' RD.2.length d'], .int .i64 (0), .int .i64 (0)]) (by simp [results, Try.results9, go_sem, p0, p1]) rfl ⟨⟨_, rfl, hDY⟩, hbY⟩
/-- An op, in the document's own. -/
theorem did_any {w : World} {v : Value} {D : Dk} (o : Od) (h : DkAt w v D) (hl : Few D) (hs : ∀ f ∈ D.1, f.2.1.size ≤ 4611686018427387904) (hos : o.2.2.1.size ≤ 4611686018427387903) :
    Calls Try.prog 9 #[v, opV o] w fun r w' => (∃ v', r = .returned (.tuple #[v', .int .i64 (didF D o).2.1, .int .i64 (didF D o).2.2]) ∧ DkAt w' v' (didF D o).1) ∧ Below w.heap.size w w' := by
  obtain ⟨o0, o1, o2, o3⟩ := o
  unfold didF opV
  simp only
  by_cases e0 : o0 = 0
  · subst e0; simp only [if_true]; exact did_write h hl hs hos
  by_cases e1 : o0 = 1
  · subst e1; rw [if_neg e0, if_pos rfl]; exact did_sync h hl
  by_cases e2 : o0 = 2
  · subst e2; rw [if_neg e0, if_neg e1, if_pos rfl]; exact did_rename h hl
  by_cases e3 : o0 = 3
  · subst e3; rw [if_neg e0, if_neg e1, if_neg e2, if_pos rfl]; exact did_remove h hl
  by_cases e4 : o0 = 4
  · subst e4; rw [if_neg e0, if_neg e1, if_neg e2, if_neg e3, if_pos rfl]; exact did_cut h hl
  by_cases e5 : o0 = 5
  · subst e5; rw [if_neg e0, if_neg e1, if_neg e2, if_neg e3, if_neg e4, if_pos rfl]; exact did_crash h hl hs
  rw [if_neg e0, if_neg e1, if_neg e2, if_neg e3, if_neg e4, if_neg e5]
  exact did_fault ⟨e0, e1, e2, e3, e4, e5⟩ h hl
end Go.Proofs.Ythdgfchmglkpaaa
