/-
  The program's meet: a disk made anew without the fault that a call meets. Premises: the disk lies in memory, its rows have lengths that Go's own rows have.
-/
import Derived.Test.YthdgfchmglkpaaaChecked
import Derived.Test.YthdgfchmglkpaaaMath
import Derived.Test.YthdgfchmglkpaaaA
import Derived.Test.YthdgfchmglkpaaaB
import Derived.Test.YthdgfchmglkpaaaC
import Derived.Test.YthdgfchmglkpaaaD
import Derived.Test.YthdgfchmglkpaaaE
import Derived.Test.YthdgfchmglkpaaaF
import Derived.Test.YthdgfchmglkpaaaJ
import Derived.Test.YthdgfchmglkpaaaK
import Derived.Test.YthdgfchmglkpaaaL
import Derived.Test.YthdgfchmglkpaaaM
import Derived.Test.YthdgfchmglkpaaaO
import Derived.Test.YthdgfchmglkpaaaU
import Derived.Test.YthdgfchmglkpaaaS
import Derived.Test.YthdgfchmglkpaaaVB
import Derived.Test.YthdgfchmglkpaaaVS
import Derived.Test.YthdgfchmglkpaaaVF
import Derived.Test.YthdgfchmglkpaaaVK
import Derived.Test.YthdgfchmglkpaaaVD
import Derived.Test.YthdgfchmglkpaaaVY
import Derived.WalkKit
import Derived.WalkSpells
import Derived.WalkLawsBesides
import Derived.Deep.QuietTactic
import Derived.BigQuiet
import Derived.Lib.Hide
import Derived.Lib.SmallJoins
import Derived.Outline
import Derived.OwnWalk
import Derived.Deep.CutBlock
import Derived.BigRegion
import Derived.StillTailTactics
import Derived.Laws.AppendOwnNone
import Derived.Maps.AppendAt
import Derived.Deep.RegionLaw
import Derived.Deep.RegionHeld3
import Derived.Lib.BufferRead
import Derived.Deep.AppendLies
import Derived.Lib.SliceRun
import Derived.Laws.CopyOwn
namespace Go.Proofs.Ythdgfchmglkpaaa
open Go.RowKit
theorem row_apart {w : World} {B B' : Nat} {v v' : Value} {L : List Fl} {T : List Ft} (h : RowF w B v L) (h' : RowT w B' v' T) : ∀ g, v.ownBlock = some g → v'.ownBlock ≠ some g := by
  intro g h1 h2
  rcases h.form with ⟨rfl, _⟩ | ⟨g1, c1, rfl, _, _, _, _, C, k1, _⟩
  · cases h1
  · rcases h'.form with ⟨rfl, _⟩ | ⟨g2, c2, rfl, _, _, _, _, C', k2, _⟩
    · cases h2
    · cases h1
      cases h2
      rw [k1] at k2
      cases k2
theorem meet_none {T : List Ft} {k : ByteArray} {kd : Int} (h : ∀ f ∈ T, ¬ (f.1 = k ∧ f.2.1 = kd)) : meetF T k kd = (T, (⟨#[]⟩, 0, 0), false) := by
  revert h
  refine list_ind (p := fun T => (∀ f ∈ T, ¬ (f.1 = k ∧ f.2.1 = kd)) → meetF T k kd = (T, (⟨#[]⟩, 0, 0), false)) (fun _ => rfl) (fun l o ih h => ?_) T
  rw [meet_snoc, ih (fun f hf => h f (List.mem_append_left _ hf))]
  unfold meetG
  rw [if_neg (fun e => h o (by simp) ⟨e.2.1, e.2.2⟩)]
theorem meet_on {T A : List Ft} {m : Ft} {k : ByteArray} {kd : Int} : T.foldl (meetG k kd) (A, m, true) = (A ++ T, m, true) := by
  refine list_ind (p := fun T => T.foldl (meetG k kd) (A, m, true) = (A ++ T, m, true)) (by simp) (fun l o ih => ?_) T
  rw [List.foldl_append, ih]
  show meetG k kd (A ++ l, m, true) o = _
  unfold meetG
  rw [if_neg (fun e => by cases e.1), List.append_assoc]
theorem meet_at {T : List Ft} {k : ByteArray} {kd : Int} {i : Nat} {f : Ft} (hf : T[i]? = some f) (hp : f.1 = k ∧ f.2.1 = kd) (h0 : ∀ g ∈ T.take i, ¬ (g.1 = k ∧ g.2.1 = kd)) : meetF T k kd = (T.take i ++ T.drop (i + 1), f, true) := by
  obtain ⟨hi, e⟩ := List.getElem?_eq_some_iff.1 hf
  have e2 : T = T.take i ++ f :: T.drop (i + 1) := by
    conv => lhs; rw [← List.take_append_drop i T, List.drop_eq_getElem_cons hi, e]
  conv => lhs; rw [e2]
  unfold meetF
  rw [List.foldl_append]
  have h1 := meet_none h0
  unfold meetF at h1
  rw [h1, List.foldl_cons]
  have h2 : meetG k kd (T.take i, (⟨#[]⟩, 0, 0), false) f = (T.take i, f, true) := by
    unfold meetG
    rw [if_pos ⟨rfl, hp⟩]
  rw [h2, meet_on]
theorem own_store {u W : World} {b base : Nat} {v1 v2 : Value} {L : List Fl} {T : List Ft} {o0 o1 : Value} {ty : TypeId} (hb : b < base) (k : u.heap[b]? = some (.cells #[o0, o1] ty (0, 0))) (r1 : RowF u base v1 L) (r2 : RowT u base v2 T) (hW : W = (u.setCell ⟨b, 0, none⟩ v1).setCell ⟨b, 1, none⟩ v2) :
    W.heap[b]? = some (.cells #[v1, v2] ty (0, 0)) ∧ RowF W base v1 L ∧ RowT W base v2 T ∧ Only [b] u W := by
  subst hW
  have ho : Only [b] u ((u.setCell ⟨b, 0, none⟩ v1).setCell ⟨b, 1, none⟩ v2) := ((Only.refl [b] u).set (p := ⟨b, 0, none⟩) (Or.inl (by simp)) v1).set (p := ⟨b, 1, none⟩) (Or.inl (by simp)) v2
  exact ⟨store2 k v1 v2, r1.only ho (fun g hg => by have := (World.ownsRow.lt r1 g hg).1; simp; omega), r2.only ho (fun g hg => by have := (World.ownsRow.lt r2 g hg).1; simp; omega), ho⟩
theorem oneany (w : World) (o : Obj) : ∃ W, W = w.alloc o ∧ W.heap[w.heap.size]? = some o ∧ Below w.heap.size w W ∧ W.heap.size = w.heap.size + 1 := ⟨_, rfl, heap_alloc_new w _, (Below.refl _ _).alloc (Nat.le_refl _) _, by simp⟩
theorem TRow.keep {w w' : World} {g cap : Nat} {M : List Ft} (h : TRow w g cap M) (hk : ∀ (q : Nat) (o : Obj), w.heap[q]? = some o → w'.heap[q]? = some o) : TRow w' g cap M := by
  obtain ⟨h1, C, h2, h3, h4⟩ := h
  exact ⟨h1, C, hk _ _ h2, h3, h4⟩
theorem row_apart2 {w : World} {B g cap : Nat} {v : Value} {L : List Fl} {M : List Ft} (h : RowF w B v L) (h' : TRow w g cap M) : v.ownBlock ≠ some g := by
  intro h1
  rcases h.form with ⟨rfl, _⟩ | ⟨g1, c1, rfl, _, _, _, _, C, k1, _⟩
  · cases h1
  · obtain ⟨_, C', k2, _⟩ := h'
    cases h1
    rw [k1] at k2
    cases k2
set_option maxRecDepth 100000 in
set_option maxHeartbeats 8000000 in
theorem pmeet_any {w : World} {v : Value} {D : Dk} (k : ByteArray) (kd : Int) (h : DkAt w v D) (hl : Few D) :
    Calls Try.prog 39 #[v, .int .i64 kd, .string k] w fun e w' => (∃ A1 c1 B1 d1, e = .returned (.tuple #[.agg #[.slice A1 D.1.length c1, .slice B1 (meetF D.2 k kd).1.length d1], faultV (meetF D.2 k kd).2.1, .bool (meetF D.2 k kd).2.2]) ∧ RowF w' w.heap.size (.slice A1 D.1.length c1) D.1 ∧ RowT w' w.heap.size (.slice B1 (meetF D.2 k kd).1.length d1) (meetF D.2 k kd).1) ∧ Below w.heap.size w w' := by
  have hDk := h
  obtain ⟨A, c, B, d, rfl, hA, hB⟩ := h
  obtain ⟨W, hW, k1, k2, k3, k4, k5, kb, ks⟩ := five w (.cells #[.slice A D.1.length c, .slice B D.2.length d] 25) (.cells #[.int .i64 kd] 3) (.cells #[.string k] 9) (.cells #[.slice none 0 0, .slice none 0 0] 25) (.cells #[.string ⟨#[]⟩, .int .i64 0, .int .i64 0] 70)
  have hC := Lib.hid (copied_any (hDk.on kb) hl)
  have hmf : ∀ (fn : Fn) (first cap : Array Value) (w : World), (Instr.makeFunc fn first cap).run Try.prog w = .ok (.func fn first cap) w := fun _ _ _ _ => rfl
  obtain ⟨R, hR⟩ : ∃ R, R = meetF D.2 k kd := ⟨_, rfl⟩
  have hRH : Hid (R = meetF D.2 k kd) := Lib.hid hR
  rw [← hR]
  have hft := Lib.hid hl.2
  have kbH := Lib.hid kb
  obtain ⟨x0, x1, -, -⟩ := two k1
  have k1H := Lib.hid k1
  have k2H := Lib.hid k2
  have k3H := Lib.hid k3
  have k4H := Lib.hid k4
  have k5H := Lib.hid k5
  obtain ⟨L, T⟩ := D
  simp only at hW x0 x1 k1H hRH hC hft ⊢
  clear hA hB hDk hl hR kb k1 k2 k3 k4 k5
  obtain ⟨n, hn⟩ : ∃ n, n = L.length := ⟨_, rfl⟩
  obtain ⟨m, hm⟩ : ∃ m, m = T.length := ⟨_, rfl⟩
  have hnH := Lib.hid hn
  have hmH := Lib.hid hm
  rw [← hn] at hW x0 hC k1H ⊢
  rw [← hm] at hW x1 hC k1H hft ⊢
  clear hn hm
  go_enter Try.func39, Try.ntmps39
  go_upto_region 1 with fail
  rw [← hW]
  clear hW
  go_upto_region 2 with (go_at_call 41; (with_reducible refine (hC.out).mono ?_); rintro e u1 ⟨⟨v1, rfl, hv1⟩, hb1⟩; obtain ⟨fv, tv, rfl, hr1, ht1⟩ := hv1; obtain ⟨A1, c1, rfl, -⟩ := hr1.files; obtain ⟨B1, d1, rfl, -⟩ := ht1.faults; have j1 := (hb1.block w.heap.size (some_lt k1H.out)).trans k1H.out; obtain ⟨y0, y1, y2, y3⟩ := two j1)
  obtain ⟨X, hX⟩ : ∃ X, X = (u1.setCell ⟨w.heap.size, 0, none⟩ (.slice A1 L.length c1)).setCell ⟨w.heap.size, 1, none⟩ (.slice B1 T.length d1) := ⟨_, rfl⟩
  obtain ⟨j2, hr2, ht2, ho2⟩ := own_store (base := W.heap.size) (by omega) j1 hr1 ht1 hX
  have hbX : Hid (Below w.heap.size w X) := Lib.hid (kbH.out.trans ((hb1.mono kbH.out.size).trans (ho2.below (Nat.le_trans kbH.out.size hb1.size) (by simp))))
  have hk : ∀ q o, w.heap.size < q → W.heap[q]? = some o → X.heap[q]? = some o := fun q o hq ho => ho2.keep ((hb1.block q (some_lt ho)).trans ho) (by simp; omega)
  have j3 := hk _ _ (by omega) k2H.out
  have j4 := hk _ _ (by omega) k3H.out
  have j5 := hk _ _ (by omega) k4H.out
  have j6 := hk _ _ (by omega) k5H.out
  rw [← hX]
  have hr2H := Lib.hid hr2
  have ht2H := Lib.hid ht2
  clear hr1 ht1 hb1 j1 y0 y1 y2 y3 x0 x1 hX ho2 hk hC k1H k2H k3H k4H k5H hr2 ht2
  have hF9 : FaultsAt X B1 T := by
    obtain ⟨A9, c9, he9, hF9⟩ := ht2H.out.faults
    cases he9
    exact hF9
  have hI := Lib.hid (index_meet_any (c := d1) k kd (w.heap.size + 1 + 1) (w.heap.size + 1) (Lib.cell_of_heap j4 0) (Lib.cell_of_heap j3 0) hF9 (by rw [← hmH.out]; have := hft.out; omega))
  rw [← hnH.out] at j2 hr2H ⊢
  rw [← hmH.out] at j2 ht2H hI ⊢
  have z0 : X.cell? ⟨w.heap.size, 0, none⟩ = some (.slice A1 n c1) := Lib.cell_of_heap j2 0
  have z1 : X.cell? ⟨w.heap.size, 1, none⟩ = some (.slice B1 m d1) := Lib.cell_of_heap j2 1
  go_upto_region 3 with (go_at_call 55; (with_reducible refine (hI.out).mono ?_); rintro e w3 ⟨⟨r, rfl, hr⟩, hb3⟩)
  have hk : ∀ q o, X.heap[q]? = some o → w3.heap[q]? = some o := fun q o ho => (hb3.block q (some_lt ho)).trans ho
  have i2 := hk _ _ j2
  have i5 := hk _ _ j5
  have i6 := hk _ _ j6
  have hr3 := hr2H.out.on hb3
  have ht3 := ht2H.out.on hb3
  have hb3H := Lib.hid (hbX.out.trans (hb3.mono hbX.out.size))
  clear hI hk j2 j3 j4 j5 j6 hr2H ht2H z0 z1 hF9 hb3 hbX
  obtain ⟨a0, a1, a2, a3⟩ := two i2
  obtain ⟨b0, b1, b2, b3⟩ := two i5
  obtain ⟨e0, e1, e2, e3, e4, e5⟩ := three i6
  rcases hr with ⟨rfl, hno⟩ | ⟨i, f, rfl, hi, hp, h0⟩
  · have hRe : Hid (R = (T, (⟨#[]⟩, 0, 0), false)) := Lib.hid (by rw [hRH.out]; exact meet_none hno)
    have e6 := set2_other i6 (g := w.heap.size + 1 + 1 + 1) (by omega) (.slice A1 n c1) (.slice B1 m d1)
    have e7 := store2 i5 (.slice A1 n c1) (.slice B1 m d1)
    have hbE := Lib.hid (below_set3 (below_set2 hb3H.out (b := w.heap.size + 1 + 1 + 1) (by omega) (.slice A1 n c1) (.slice B1 m d1)) (b := w.heap.size + 1 + 1 + 1 + 1) (by omega) (.string ⟨#[]⟩) (.int .i64 0) (.int .i64 0))
    have hoE : Only [w.heap.size + 1 + 1 + 1, w.heap.size + 1 + 1 + 1 + 1] w3 (((((w3.setCell ⟨w.heap.size + 1 + 1 + 1, 0, none⟩ (.slice A1 n c1)).setCell ⟨w.heap.size + 1 + 1 + 1, 1, none⟩ (.slice B1 m d1)).setCell ⟨w.heap.size + 1 + 1 + 1 + 1, 0, none⟩ (.string ⟨#[]⟩)).setCell ⟨w.heap.size + 1 + 1 + 1 + 1, 1, none⟩ (.int .i64 0)).setCell ⟨w.heap.size + 1 + 1 + 1 + 1, 2, none⟩ (.int .i64 0)) :=
      (((((Only.refl _ w3).set (Or.inl (by simp)) _).set (Or.inl (by simp)) _).set (Or.inl (by simp)) _).set (Or.inl (by simp)) _).set (Or.inl (by simp)) _
    have hrE := Lib.hid (hr3.only hoE (fun k hk => by have := (World.ownsRow.lt hr3 k hk).1; simp; omega))
    have htE := Lib.hid (ht3.only hoE (fun k hk => by have := (World.ownsRow.lt ht3 k hk).1; simp; omega))
    obtain ⟨e0', e1', e2', e3', e4', e5'⟩ := three e6
    have e8 := Lib.hid (store3 e6 (.string ⟨#[]⟩) (.int .i64 0) (.int .i64 0))
    have e9 : Hid ((((((w3.setCell ⟨w.heap.size + 1 + 1 + 1, 0, none⟩ (.slice A1 n c1)).setCell ⟨w.heap.size + 1 + 1 + 1, 1, none⟩ (.slice B1 m d1)).setCell ⟨w.heap.size + 1 + 1 + 1 + 1, 0, none⟩ (.string ⟨#[]⟩)).setCell ⟨w.heap.size + 1 + 1 + 1 + 1, 1, none⟩ (.int .i64 0)).setCell ⟨w.heap.size + 1 + 1 + 1 + 1, 2, none⟩ (.int .i64 0)).heap[w.heap.size + 1 + 1 + 1]? = some (.cells #[.slice A1 n c1, .slice B1 m d1] 25 (0, 0))) := Lib.hid (by
      rw [Below.heap_setCell _ _ _ _ (by simp), Below.heap_setCell _ _ _ _ (by simp), Below.heap_setCell _ _ _ _ (by simp)]
      exact e7)
    have hszW : Hid (w.heap.size ≤ W.heap.size) := Lib.hid kbH.out.size
    clear hno hr3 ht3 hoE e7 e6 i2 i5 i6
    go_wp2_with fail
    obtain ⟨q0, q1, -, -⟩ := two e9.out
    obtain ⟨q2, q3, q4, -, -, -⟩ := three e8.out
    refine bodyPost_ret (v := .tuple #[.agg #[.slice A1 n c1, .slice B1 m d1], .agg #[.string ⟨#[]⟩, .int .i64 0, .int .i64 0], .bool false]) (by simp [results, Try.results39, go_sem, q0, q1, q2, q3, q4]) rfl ?_
    rw [hRe.out]
    have hml : m = T.length := hmH.out
    subst hml
    exact ⟨⟨A1, c1, B1, d1, rfl, hrE.out.base hszW.out, htE.out.base hszW.out⟩, hbE.out⟩
  · rcases ht3.form with ⟨-, hnil⟩ | ⟨g, cap, hB1, hg0, hg1, hcm, hT⟩
    · rw [hnil] at hi; cases hi
    · have hg2 : w.heap.size + 5 ≤ g := by omega
      have hRe : Hid (R = (T.take i ++ T.drop (i + 1), f, true)) := Lib.hid (by rw [hRH.out]; exact meet_at hi hp h0)
      have hil : i < m := by rw [hmH.out]; exact (List.getElem?_eq_some_iff.1 hi).1
      have hcB : Value.slice B1 m d1 = .slice (some ⟨g, 0, none⟩) m cap := by rw [hB1, ← hmH.out]
      have hix := run_ixT ⟨g, 0, none⟩ i m cap hil
      obtain ⟨A9, c9, he9, hF9⟩ := ht3.faults
      rw [hB1] at he9
      cases he9
      obtain ⟨a, ha9, -, y0, y1, y2⟩ := hF9 i f hi
      cases ha9
      obtain ⟨q, hq⟩ : ∃ q, q = (⟨g, 0, none⟩ : Addr).add (i * 3) := ⟨_, rfl⟩
      rw [← hq] at y0 y1 y2 hix
      obtain ⟨j, hj⟩ : ∃ j : Nat, j = i + 1 := ⟨_, rfl⟩
      have hwj := wrap_small (x := (i : Int) + 1) (by have := hft.out; omega)
      rw [hcB] at a1
      have dk : decide ((i : Int) < 0) = false := decide_eq_false (by omega)
      have hr3H := Lib.hid hr3
      have hszW : Hid (w.heap.size ≤ W.heap.size) := Lib.hid kbH.out.size
      have hlt3 : w.heap.size + 5 < w3.heap.size := by omega
      clear ht3 hr3 hF9 hq
      go_upto_region 6 with fail
      obtain ⟨W5, hW5, k5, k5b, k5s⟩ := oneany w3 (.cells #[.string k, .int .i64 kd, .int .i64 f.2.2] 70)
      rw [← hW5]
      clear hW5
      have hk5 : ∀ (q : Nat) (o : Obj), w3.heap[q]? = some o → W5.heap[q]? = some o := fun q o ho => (k5b.block q (some_lt ho)).trans ho
      obtain ⟨M2, hM2⟩ : ∃ M2, M2 = T.take i ++ T.drop j := ⟨_, rfl⟩
      have hD := Lib.hid (delete_any (hT.keep hk5) rfl hil hft.out hj)
      rw [← hM2, show ((j : Nat) : Int) = (i : Int) + 1 by omega] at hD
      have hRe2 : Hid (R = (M2, f, true)) := Lib.hid (by rw [hRe.out, hM2, hj])
      have hr5 := Lib.hid (hr3H.out.on k5b)
      have hb5 := Lib.hid (hb3H.out.trans (k5b.mono hb3H.out.size))
      obtain ⟨x0, x1, x2, x3⟩ := two (hk5 _ _ i2)
      have l2 := Lib.hid (hk5 _ _ i2)
      have l5 := Lib.hid (hk5 _ _ i5)
      have l6 := Lib.hid (hk5 _ _ i6)
      have hap := Lib.hid (row_apart2 hr5.out (hT.keep hk5))
      clear hT hr3H hb3H k5b hk5 i2 i5 i6 a0 a1 a2 a3 b0 b1 b2 b3 e0 e1 e2 e3 e4 e5 y0 y1 y2 hix hRe hM2
      have k5H := Lib.hid k5
      clear k5
      go_upto_region 7 with (go_at_call 57; (with_reducible refine (hD.out).mono ?_); rintro e w6 ⟨rfl, hT6, ho6⟩; have j2 := ho6.keep l2.out (by simp; omega); obtain ⟨x0, x1, x2, x3⟩ := two j2)
      obtain ⟨W7, hW7⟩ : ∃ W7, W7 = w6.setCell ⟨w.heap.size, 1, none⟩ (.slice (some ⟨g, 0, none⟩) M2.length d1) := ⟨_, rfl⟩
      have hO6 : Only [w.heap.size] w6 W7 := by rw [hW7]; exact (Only.refl _ w6).set (Or.inl (by simp)) _
      have hO : Only [g, w.heap.size] W5 W7 := (ho6.mono (by simp)).trans (hO6.mono (by simp)) (fun k hk => Or.inl hk)
      have m2 : W7.heap[w.heap.size]? = some (.cells #[.slice A1 n c1, .slice (some ⟨g, 0, none⟩) M2.length d1] 25 (0, 0)) := by
        rw [hW7]
        simp [World.setCell, Array.getElem?_modify, j2]
      have m5 := hO.keep l5.out (by simp; omega)
      have m6 := hO.keep l6.out (by simp; omega)
      have mk := hO.keep k5H.out (by simp; omega)
      have hr7 := hr5.out.only hO (fun k hk => by have h1 := (World.ownsRow.lt hr5.out k hk).1; have h2 := hap.out; simp only [List.mem_cons, List.not_mem_nil, or_false, not_or]; exact ⟨fun e => h2 (by rw [hk, e]), by omega⟩)
      have hT7 := hT6.only hO6 (by simp; omega)
      have hb7 := Lib.hid (hb5.out.trans (hO.below hb5.out.size (by simp; omega)))
      rw [← hW7]
      clear hW7 hO6 hO j2 hT6 ho6 l2 l5 l6 hr5 hb5 k5H x0 x1 x2 x3 hD
      obtain ⟨a0, a1, a2, a3⟩ := two m2
      obtain ⟨b0, b1, b2, b3⟩ := two m5
      obtain ⟨e0, e1, e2, e3, e4, e5⟩ := three m6
      obtain ⟨y0, y1, y2, y3, y4, y5⟩ := three mk
      have n5 := store2 m5 (.slice A1 n c1) (.slice (some ⟨g, 0, none⟩) M2.length d1)
      have n6 := set2_other m6 (g := w.heap.size + 1 + 1 + 1) (by omega) (.slice A1 n c1) (.slice (some ⟨g, 0, none⟩) M2.length d1)
      have n8 := Lib.hid (store3 n6 (.string k) (.int .i64 kd) (.int .i64 f.2.2))
      obtain ⟨W8, hW8⟩ : ∃ W8, W8 = (((((W7.setCell ⟨w.heap.size + 1 + 1 + 1, 0, none⟩ (.slice A1 n c1)).setCell ⟨w.heap.size + 1 + 1 + 1, 1, none⟩ (.slice (some ⟨g, 0, none⟩) M2.length d1)).setCell ⟨w.heap.size + 1 + 1 + 1 + 1, 0, none⟩ (.string k)).setCell ⟨w.heap.size + 1 + 1 + 1 + 1, 1, none⟩ (.int .i64 kd)).setCell ⟨w.heap.size + 1 + 1 + 1 + 1, 2, none⟩ (.int .i64 f.2.2)) := ⟨_, rfl⟩
      have hoE : Only [w.heap.size + 1 + 1 + 1, w.heap.size + 1 + 1 + 1 + 1] W7 W8 := by
        rw [hW8]
        exact (((((Only.refl _ W7).set (Or.inl (by simp)) _).set (Or.inl (by simp)) _).set (Or.inl (by simp)) _).set (Or.inl (by simp)) _).set (Or.inl (by simp)) _
      have n9 : W8.heap[w.heap.size + 1 + 1 + 1]? = some (.cells #[.slice A1 n c1, .slice (some ⟨g, 0, none⟩) M2.length d1] 25 (0, 0)) := by
        rw [hW8, Below.heap_setCell _ _ _ _ (by simp), Below.heap_setCell _ _ _ _ (by simp), Below.heap_setCell _ _ _ _ (by simp)]
        exact n5
      rw [← hW8] at n8
      have hbE := hb7.out.trans (hoE.below hb7.out.size (by simp; omega))
      have hrE := hr7.only hoE (fun k hk => by have := (World.ownsRow.lt hr7 k hk).1; simp; omega)
      have htE := (hT7.only hoE (by simp; omega)).row (base := w.heap.size) (by omega) hcm
      have hrb := hrE.base hszW.out
      have hEnd := Lib.hid (And.intro n9 (And.intro n8.out (And.intro hbE (And.intro hrb htE))))
      clear n5 n6 n8 n9 hoE hbE hrE htE hrb hr7 hT7 hb7 m2 m5 m6 mk
      have hW8H := Lib.hid hW8.symm
      clear hW8
      go_region
      rw [hW8H.out]
      clear hW8H a0 a1 a2 a3 b0 b1 b2 b3 e0 e1 e2 e3 e4 e5 y0 y1 y2 y3 y4 y5
      go_wp2_with fail
      obtain ⟨n9, n8, hbE, hrE, htE⟩ := hEnd.out
      have hbd : Below W8.heap.size W8 W8.drew := (Below.refl _ _).drew
      obtain ⟨q0, q1, -, -⟩ := two n9
      obtain ⟨q2, q3, q4, -, -, -⟩ := three n8
      refine bodyPost_ret (v := .tuple #[.agg #[.slice A1 n c1, .slice (some ⟨g, 0, none⟩) M2.length d1], .agg #[.string k, .int .i64 kd, .int .i64 f.2.2], .bool true]) (by simp [results, Try.results39, go_sem, q0, q1, q2, q3, q4]) rfl ?_
      rw [hRe2.out]
      have hfv : faultV f = .agg #[.string k, .int .i64 kd, .int .i64 f.2.2] := by obtain ⟨h1, h2⟩ := hp; rw [← h1, ← h2]; rfl
      rw [hfv]
      exact ⟨⟨A1, c1, some ⟨g, 0, none⟩, d1, rfl, hrE.on hbd, htE.on hbd⟩, hbE.trans (hbd.mono hbE.size)⟩
end Go.Proofs.Ythdgfchmglkpaaa
