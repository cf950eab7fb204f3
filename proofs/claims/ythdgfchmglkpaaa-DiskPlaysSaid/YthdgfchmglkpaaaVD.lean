/-
  The program's copied: a disk made anew. Premises: the disk lies in memory, its rows have lengths that Go's own rows have.
-/
import Derived.Test.YthdgfchmglkpaaaChecked
import Derived.Test.YthdgfchmglkpaaaMath
import Derived.Test.YthdgfchmglkpaaaA
import Derived.Test.YthdgfchmglkpaaaB
import Derived.Test.YthdgfchmglkpaaaC
import Derived.Test.YthdgfchmglkpaaaD
import Derived.Test.YthdgfchmglkpaaaE
import Derived.Test.YthdgfchmglkpaaaF
import Derived.Test.YthdgfchmglkpaaaG
import Derived.Test.YthdgfchmglkpaaaJ
import Derived.Test.YthdgfchmglkpaaaK
import Derived.Test.YthdgfchmglkpaaaL
import Derived.Test.YthdgfchmglkpaaaM
import Derived.Test.YthdgfchmglkpaaaU
import Derived.Test.YthdgfchmglkpaaaS
import Derived.Test.YthdgfchmglkpaaaVC
import Derived.WalkKit
import Derived.WalkSpells
import Derived.WalkLawsBesides
import Derived.Deep.QuietTactic
import Derived.BigQuiet
import Derived.Lib.Hide
import Derived.Lib.SmallJoins
import Derived.Outline
import Derived.OwnWalk
import Derived.Deep.CutBlock
import Derived.BigRegion
import Derived.StillTailTactics
import Derived.Laws.AppendOwnNone
import Derived.Maps.AppendAt
import Derived.Deep.RegionLaw
import Derived.Deep.RegionHeld3
import Derived.Lib.BufferRead
import Derived.Deep.AppendLies
namespace Go.Proofs.Ythdgfchmglkpaaa
open Go.RowKit
/-- A disk in rows of its own. -/
def DkOwn (w : World) (base : Nat) (v : Value) (D : Dk) : Prop := ∃ fv tv, v = .agg #[fv, tv] ∧ RowF w base fv D.1 ∧ RowT w base tv D.2
theorem DkOwn.at {w : World} {base : Nat} {v : Value} {D : Dk} (h : DkOwn w base v D) : DkAt w v D := by
  obtain ⟨fv, tv, rfl, h1, h2⟩ := h
  obtain ⟨A, c, rfl, hA⟩ := h1.files
  obtain ⟨B, d, rfl, hB⟩ := h2.faults
  exact ⟨A, c, B, d, rfl, hA, hB⟩
theorem DkOwn.on {w w' : World} {base : Nat} {v : Value} {D : Dk} (h : DkOwn w base v D) (hb : Below w.heap.size w w') : DkOwn w' base v D := by
  obtain ⟨fv, tv, h0, h1, h2⟩ := h
  exact ⟨fv, tv, h0, h1.on hb, h2.on hb⟩
theorem DkOwn.base {w : World} {b b' : Nat} {v : Value} {D : Dk} (h : DkOwn w b v D) (hb : b' ≤ b) : DkOwn w b' v D := by
  obtain ⟨fv, tv, h0, h1, h2⟩ := h
  exact ⟨fv, tv, h0, h1.base hb, h2.base hb⟩
theorem own_end {w W X : World} {g : Nat} {o0 o1 v1 v2 : Value} {ty : TypeId} {L : List Fl} {T : List Ft} (kb : Below w.heap.size w W) (hX : Below W.heap.size W X) (hg : w.heap.size ≤ g) (k : W.heap[g]? = some (.cells #[o0, o1] ty (0, 0))) (r1 : RowF X W.heap.size v1 L) (r2 : RowT X W.heap.size v2 T) :
    DkOwn ((X.setCell ⟨g, 0, none⟩ v1).setCell ⟨g, 1, none⟩ v2) w.heap.size (.agg #[v1, v2]) (L, T) ∧ Below w.heap.size w ((X.setCell ⟨g, 0, none⟩ v1).setCell ⟨g, 1, none⟩ v2) ∧ ((X.setCell ⟨g, 0, none⟩ v1).setCell ⟨g, 1, none⟩ v2).cell? ⟨g, 0, none⟩ = some v1 ∧ ((X.setCell ⟨g, 0, none⟩ v1).setCell ⟨g, 1, none⟩ v2).cell? ⟨g, 1, none⟩ = some v2 := by
  have hgW := some_lt k
  have kX := (hX.block g hgW).trans k
  obtain ⟨q0, q1, -, -⟩ := two (store2 kX v1 v2)
  have ho : Only [g] X ((X.setCell ⟨g, 0, none⟩ v1).setCell ⟨g, 1, none⟩ v2) := ((Only.refl [g] X).set (p := ⟨g, 0, none⟩) (Or.inl (by simp)) v1).set (p := ⟨g, 1, none⟩) (Or.inl (by simp)) v2
  exact ⟨⟨v1, v2, rfl, (r1.only ho (fun k hk => by have := (World.ownsRow.lt r1 k hk).1; simp; omega)).base kb.size, (r2.only ho (fun k hk => by have := (World.ownsRow.lt r2 k hk).1; simp; omega)).base kb.size⟩,
    (kb.trans (hX.mono kb.size)).trans (ho.below (Nat.le_trans kb.size hX.size) (by simpa using hg)), q0, q1⟩
set_option maxRecDepth 100000 in
set_option maxHeartbeats 4000000 in
theorem copied_any {w : World} {v : Value} {D : Dk} (h : DkAt w v D) (hl : Few D) :
    Calls Try.prog 41 #[v] w fun e w' => (∃ v', e = .returned v' ∧ DkOwn w' w.heap.size v' D) ∧ Below w.heap.size w w' := by
  obtain ⟨A, c, B, d, rfl, hA, hB⟩ := h
  obtain ⟨W2, hW2, k1, k2, kb, ks⟩ := two_boxes w (.cells #[.slice A D.1.length c, .slice B D.2.length d] 25) (.cells #[.slice none 0 0, .slice none 0 0] 25)
  have hcf : Hid (∀ X, Below W2.heap.size W2 X → Calls Try.prog 49 #[.slice A D.1.length c] X fun e w' => (∃ A' c', e = .returned (.slice A' D.1.length c') ∧ RowF w' W2.heap.size (.slice A' D.1.length c') D.1) ∧ Below X.heap.size X w') := Lib.hid (fun X hX => (clone_fl (hA.on (kb.trans (hX.mono kb.size))) hl.1).mono (by rintro e w' ⟨⟨v, rfl, hr⟩, hb⟩; obtain ⟨A', c', rfl, -⟩ := hr.files; exact ⟨⟨A', c', rfl, hr.base hX.size⟩, hb⟩))
  have hct : Hid (∀ X, Below W2.heap.size W2 X → Calls Try.prog 44 #[.slice B D.2.length d] X fun e w' => (∃ A' c', e = .returned (.slice A' D.2.length c') ∧ RowT w' W2.heap.size (.slice A' D.2.length c') D.2) ∧ Below X.heap.size X w') := Lib.hid (fun X hX => (clone_ft (hB.on (kb.trans (hX.mono kb.size))) hl.2).mono (by rintro e w' ⟨⟨v, rfl, hr⟩, hb⟩; obtain ⟨A', c', rfl, -⟩ := hr.faults; exact ⟨⟨A', c', rfl, hr.base hX.size⟩, hb⟩))
  have kbH := Lib.hid kb
  have k1H := Lib.hid k1
  have k2H := Lib.hid k2
  clear hA hB kb k1 k2 hl
  go_enter Try.func41, Try.ntmps41
  go_upto_region 1 with fail
  rw [← hW2]
  clear hW2
  have hMk : Hid (∀ X, Below W2.heap.size W2 X → Below W2.heap.size W2 X ∧ X.cell? ⟨w.heap.size, 0, none⟩ = some (.slice A D.1.length c) ∧ X.cell? ⟨w.heap.size, 1, none⟩ = some (.slice B D.2.length d) ∧ X.cell? ⟨w.heap.size + 1, 0, none⟩ = some (.slice none 0 0) ∧ X.cell? ⟨w.heap.size + 1, 1, none⟩ = some (.slice none 0 0) ∧ X.frozen? ⟨w.heap.size + 1, 0, none⟩ = false ∧ X.frozen? ⟨w.heap.size + 1, 1, none⟩ = false) := Lib.hid (fun X hX => by
    obtain ⟨q0, q1, -, -⟩ := two ((hX.block w.heap.size (some_lt k1H.out)).trans k1H.out)
    obtain ⟨q2, q3, q4, q5⟩ := two ((hX.block (w.heap.size + 1) (some_lt k2H.out)).trans k2H.out)
    exact ⟨hX, q0, q1, q2, q3, q4, q5⟩)
  have hK0 := Lib.hid (Below.drew (Below.refl W2.heap.size W2))
  have hOn : Hid (∀ a c, Below a.heap.size a c → Below W2.heap.size W2 a → Below W2.heap.size W2 c) := Lib.hid fun a c k h => h.trans (k.mono h.size)
  obtain ⟨-, p0, p1, p2, p3, p4, p5⟩ := hMk.out _ hK0.out
  go_region_law (go_simp; first
    | (go_at_call 49; (with_reducible refine (hcf.out _ (by first | assumption | exact hK0.out)).mono ?_); rintro e' u1 ⟨⟨A1, c1, rfl, r1⟩, bb1⟩; have n1 := hOn.out _ _ bb1 (by first | assumption | exact hK0.out); obtain ⟨-, a0, a1, a2, a3, a4, a5⟩ := hMk.out _ n1)
    | (go_at_call 44; (with_reducible refine (hct.out _ (by first | assumption | exact hK0.out)).mono ?_); rintro e' u2 ⟨⟨A2, c2, rfl, r2⟩, bb2⟩; have n2 := hOn.out _ _ bb2 (by first | assumption | exact hK0.out); obtain ⟨-, b0, b1, b2, b3, b4, b5⟩ := hMk.out _ n2))
  all_goals go_wp2_with fail
  all_goals first
    | (obtain ⟨e1, e2, q0, q1⟩ := own_end kbH.out n2 (by omega) k2H.out (r1.on bb2) r2; exact bodyPost_ret (v := .agg #[.slice A1 D.1.length c1, .slice A2 D.2.length c2]) (by simp [results, Try.results41, go_sem, q0, q1]) rfl ⟨⟨_, rfl, e1⟩, e2⟩)
    | (obtain ⟨e1, e2, q0, q1⟩ := own_end kbH.out n1 (by omega) k2H.out r1 (r2.on bb1); exact bodyPost_ret (v := .agg #[.slice A1 D.1.length c1, .slice A2 D.2.length c2]) (by simp [results, Try.results41, go_sem, q0, q1]) rfl ⟨⟨_, rfl, e1⟩, e2⟩)
end Go.Proofs.Ythdgfchmglkpaaa
