/-
  The document's Sync. Premise: rows have lengths that Go's own rows have.
-/
import Derived.Test.YthdgfchmglkpaaaChecked
import Derived.Test.YthdgfchmglkpaaaMath
import Derived.Test.YthdgfchmglkpaaaA
import Derived.Test.YthdgfchmglkpaaaB
import Derived.Test.YthdgfchmglkpaaaC
import Derived.Test.YthdgfchmglkpaaaD
import Derived.Test.YthdgfchmglkpaaaE
import Derived.Test.YthdgfchmglkpaaaF
import Derived.WalkKit
import Derived.WalkSpells
import Derived.WalkLawsBesides
import Derived.Deep.QuietTactic
import Derived.BigQuiet
import Derived.Lib.Hide
import Derived.Lib.SmallJoins
import Derived.Outline
import Derived.OwnWalk
import Derived.Deep.CutBlock
import Derived.BigRegion
import Derived.StillTailTactics
import Derived.Laws.AppendOwnNone
import Derived.Maps.AppendAt
import Derived.Deep.RegionLaw
import Derived.Deep.RegionHeld3
import Derived.Lib.BufferRead
import Derived.Deep.AppendLies
namespace Go.Proofs.Ythdgfchmglkpaaa
open Go.RowKit
theorem fin2 {w X : World} {g : Nat} {a0 a1 : Value} (hr : X.heap[g]? = some (.cells #[a0, a1] 25 (0, 0))) (hb : Below w.heap.size w X) (h1 : w.heap.size ≤ g) (v0 v1 : Value) :
    ((X.setCell ⟨g, 0, none⟩ v0).setCell ⟨g, 1, none⟩ v1).heap[g]? = some (.cells #[v0, v1] 25 (0, 0)) ∧ Only [g] X ((X.setCell ⟨g, 0, none⟩ v0).setCell ⟨g, 1, none⟩ v1) ∧ Below w.heap.size w ((X.setCell ⟨g, 0, none⟩ v0).setCell ⟨g, 1, none⟩ v1) :=
  ⟨store2 hr v0 v1, ((Only.refl _ _).set (p := ⟨g, 0, none⟩) (Or.inl (by simp)) _).set (p := ⟨g, 1, none⟩) (Or.inl (by simp)) _, below_set2 hb h1 v0 v1⟩
def syncF (D : Dk) (k : ByteArray) : Dk × Int := match findF D.1 k with
  | none => (D, 8)
  | some x => if (meetF D.2 k 2).2.2 = true then ((D.1, (meetF D.2 k 2).1), 15) else ((withF D.1 (x.1, x.2.1, (x.2.1.size : Int)), (meetF D.2 k 2).1), 0)
/-- Meets, told by its own row and the fault as a value. -/
theorem rmeets_own {w : World} {A B : Option Addr} {n c d : Nat} {T : List Ft} (k : ByteArray) (kd : Int) (h : FaultsAt w B T) (hl : T.length ≤ 1000000) {O : List Ft} {mt : Ft} {q : Bool} (hm : meetF T k kd = (O, mt, q)) :
    Calls Try.prog 45 #[.agg #[.slice A n c, .slice B T.length d], .string k, .int .i64 kd] w fun r w' => (∃ B' d', r = .returned (.tuple #[.agg #[.slice A n c, .slice B' O.length d'], .agg #[.string mt.1, .int .i64 mt.2.1, .int .i64 mt.2.2], .bool q]) ∧ RowT w' w.heap.size (.slice B' O.length d') O) ∧ Below w.heap.size w w' :=
  (rmeets_any (A := A) (n := n) (c := c) (d := d) k kd h hl).mono (by
    rintro e w' ⟨⟨v, rfl, hr⟩, hb⟩
    rw [hm] at hr ⊢
    obtain ⟨B', d', rfl, -⟩ := hr.faults
    exact ⟨⟨B', d', rfl, hr⟩, hb⟩)
theorem two_boxes (w : World) (o1 o2 : Obj) : ∃ W, W = (w.alloc o1).alloc o2 ∧ W.heap[w.heap.size]? = some o1 ∧ W.heap[w.heap.size + 1]? = some o2 ∧ Below w.heap.size w W ∧ W.heap.size = w.heap.size + 2 := by
  refine ⟨_, rfl, ?_, ?_, ((Below.refl _ _).alloc (Nat.le_refl _) _).alloc (by simp) _, by simp⟩
  · rw [Below.heap_alloc _ _ _ (by simp)]
    exact heap_alloc_new w o1
  · rw [show w.heap.size + 1 = (w.alloc o1).heap.size by simp]
    exact heap_alloc_new _ o2
set_option maxRecDepth 100000 in
set_option maxHeartbeats 8000000 in
theorem rsync_any {w : World} {v : Value} {D : Dk} (k : ByteArray) (h : DkAt w v D) (hl : Few D) :
    Calls Try.prog 26 #[v, .string k] w fun r w' => (∃ v', r = .returned (.tuple #[v', .int .i64 (syncF D k).2]) ∧ DkAt w' v' (syncF D k).1) ∧ Below w.heap.size w w' := by
  obtain ⟨A, c, B, d, rfl, hA, hB⟩ := h
  obtain ⟨L, T⟩ := D
  simp only [] at hA hB ⊢
  obtain ⟨hl1, hl2⟩ := hl
  simp only [] at hl1 hl2
  obtain ⟨W2, hW2, hd, hr, hb, hs2⟩ := two_boxes w (.cells #[.slice A L.length c, .slice B T.length d] 25) (.cells #[.slice none 0 0, .slice none 0 0] 25)
  have hFi := Lib.hid (rfind_any (B := B) (c := c) (m := T.length) (d := d) k (hA.on hb) (by omega))
  unfold syncF
  simp only []
  cases hf : findF L k with
  | none =>
    rw [hf] at hFi
    have hFi2 : Hid (Calls Try.prog 11 #[.agg #[.slice A L.length c, .slice B T.length d], .string k] W2 fun r w' => r = .returned (.tuple #[.agg #[.string ⟨#[]⟩, .string ⟨#[]⟩, .int .i64 0], .bool false]) ∧ Below W2.heap.size W2 w') := hFi
    simp only []
    clear hFi hf
    go_enter Try.func26, Try.ntmps26
    go_upto_region 1 with fail
    rw [← hW2]
    clear hW2
    obtain ⟨x0, x1, -, -⟩ := two hd
    go_upto_region 2 with (go_at_call 11; (with_reducible refine (hFi2.out).mono ?_); rintro e w3 ⟨rfl, hb3⟩)
    have hbX : Below W2.heap.size W2 (w3.alloc (.cells #[.string ⟨#[]⟩, .string ⟨#[]⟩, .int .i64 0] 39)) := hb3.alloc hb3.size _
    generalize (w3.alloc (.cells #[.string ⟨#[]⟩, .string ⟨#[]⟩, .int .i64 0] 39)) = X at hbX ⊢
    have hdX := (hbX.block w.heap.size (some_lt hd)).trans hd
    have hrX := (hbX.block (w.heap.size + 1) (some_lt hr)).trans hr
    obtain ⟨y0, y1, -, -⟩ := two hdX
    obtain ⟨p0, p1, p2, p3⟩ := two hrX
    obtain ⟨e1, e2, e3⟩ := fin2 hrX (hb.trans (hbX.mono hb.size)) (by omega) (.slice A L.length c) (.slice B T.length d)
    have e1H := Lib.hid e1
    have e3H := Lib.hid e3
    clear hd hr hdX hrX hb3 x0 x1 e1 e2 e3
    go_wp2_with fail
    obtain ⟨q0, q1, -, -⟩ := two e1H.out
    refine bodyPost_ret (v := .tuple #[.agg #[.slice A L.length c, .slice B T.length d], .int .i64 8]) (by simp [results, Try.results26, go_sem, q0, q1]) rfl ?_
    exact ⟨⟨_, rfl, A, c, B, d, rfl, hA.on e3H.out, hB.on e3H.out⟩, e3H.out⟩
  | some x =>
    rw [hf] at hFi
    have hFi2 : Hid (Calls Try.prog 11 #[.agg #[.slice A L.length c, .slice B T.length d], .string k] W2 fun r w' => r = .returned (.tuple #[.agg #[.string x.1, .string x.2.1, .int .i64 x.2.2], .bool true]) ∧ Below W2.heap.size W2 w') := hFi
    simp only []
    clear hFi hf
    obtain ⟨⟨O, mt, q⟩, hmm⟩ : ∃ z, z = meetF T k 2 := ⟨_, rfl⟩
    rw [← hmm]
    simp only []
    obtain ⟨R, hR⟩ : ∃ R : Dk × Int, R = (if q = true then ((L, O), 15) else ((withF L (x.1, x.2.1, (x.2.1.size : Int)), O), 0)) := ⟨_, rfl⟩
    rw [← hR]
    have hMe := Lib.hid (fun (X : World) (hX : Below w.heap.size w X) => rmeets_own (A := A) (n := L.length) (c := c) (d := d) k 2 (hB.on hX) hl2 hmm.symm)
    have hWi := Lib.hid (fun (X : World) (hX : Below w.heap.size w X) (B' : Option Addr) (e : Nat) => rwith_any (B := B') (c := c) (m := O.length) (d := e) (x.1, x.2.1, (x.2.1.size : Int)) (hA.on hX) hl1)
    clear hmm
    go_enter Try.func26, Try.ntmps26
    go_upto_region 1 with fail
    rw [← hW2]
    clear hW2
    obtain ⟨x0, x1, -, -⟩ := two hd
    go_upto_region 2 with (go_at_call 11; (with_reducible refine (hFi2.out).mono ?_); rintro e w3 ⟨rfl, hb3⟩)
    have hbX : Below W2.heap.size W2 (w3.alloc (.cells #[.string x.1, .string x.2.1, .int .i64 x.2.2] 39)) := hb3.alloc hb3.size _
    have hxX := heap_alloc_new w3 (.cells #[.string x.1, .string x.2.1, .int .i64 x.2.2] 39)
    have hgx : W2.heap.size ≤ w3.heap.size := hb3.size
    generalize (w3.alloc (.cells #[.string x.1, .string x.2.1, .int .i64 x.2.2] 39)) = X at hbX hxX ⊢
    generalize w3.heap.size = gx at hxX hgx ⊢
    have hdX := (hbX.block w.heap.size (some_lt hd)).trans hd
    have hrX := (hbX.block (w.heap.size + 1) (some_lt hr)).trans hr
    have hbwX := hb.trans (hbX.mono hb.size)
    obtain ⟨y0, y1, -, -⟩ := two hdX
    have hMX := Lib.hid (hMe.out X hbwX)
    clear hd hr hb3 x0 x1 hb hbX hMe hFi2
    go_upto_region 5 with (go_at_call 45; (with_reducible refine (hMX.out).mono ?_); rintro e w5 ⟨⟨B3, d3, rfl, hB3⟩, hb5⟩; have hd5 := (hb5.block w.heap.size (some_lt hdX)).trans hdX; have hd4 := (Lib.alloc_old w5 (.cells #[.string ⟨#[]⟩, .int .i64 0, .int .i64 0] 70) w.heap.size (some_lt hd5)).trans hd5; obtain ⟨z0, z1, z2, z3⟩ := two hd4; have hn5 := set2_new w5 w.heap.size (some_lt hd5) (.slice A L.length c) (.slice B3 O.length d3) (.cells #[.string ⟨#[]⟩, .int .i64 0, .int .i64 0] 70); obtain ⟨m0, m1, m2, m3, m4, m5⟩ := three hn5)
    obtain ⟨Y, hY, e1, e2, e3⟩ := met_world hd5 (.slice A L.length c) (.slice B3 O.length d3) (.string mt.1) (.int .i64 mt.2.1) (.int .i64 mt.2.2) (.cells #[.string ⟨#[]⟩, .int .i64 0, .int .i64 0] 70) rfl
    rw [← hY]
    have hgx2 := some_lt hxX
    have hrY := e3.keep ((hb5.block (w.heap.size + 1) (some_lt hrX)).trans hrX) (by simp)
    have hxY := e3.keep ((hb5.block gx (some_lt hxX)).trans hxX) (by simp; omega)
    have hbw5 := hbwX.trans (hb5.mono hbwX.size)
    have hbY : Below w.heap.size w Y := hbw5.trans (e3.below hbw5.size (fun k hk => by rw [List.mem_singleton.1 hk]; exact Nat.le_refl _))
    have hTY := hB3.only e3 (fun k hk => by have := (World.ownsRow.lt hB3 k hk).1; have := some_lt hrX; simp; omega)
    have hlX := some_lt hrX
    clear hY hd4 hn5 hd5 hdX hrX hxX hb5 y0 y1 z0 z1 z2 z3 m0 m1 m2 m3 m4 m5 hMX e3
    generalize w5.heap.size = gm at e2 ⊢
    clear e2
    obtain ⟨y0, y1, -, -⟩ := two e1
    cases q with
    | true =>
      have hRe : R = ((L, O), 15) := hR
      have hReH := Lib.hid hRe
      clear hR hRe
      obtain ⟨p0, p1, p2, p3⟩ := two hrY
      obtain ⟨f1, f2, f3⟩ := fin2 hrY hbY (by omega) (.slice A L.length c) (.slice B3 O.length d3)
      have f1H := Lib.hid f1
      have f3H := Lib.hid f3
      have hT9H := Lib.hid (hTY.only f2 (fun y hy => by have := (World.ownsRow.lt hTY y hy).1; simp; omega))
      clear hrY f1 f2 f3
      go_wp2_with fail
      obtain ⟨B9, d9, he9, hT9⟩ := hT9H.out.faults
      obtain ⟨q0, q1, -, -⟩ := two f1H.out
      refine bodyPost_ret (v := .tuple #[.agg #[.slice A L.length c, .slice B3 O.length d3], .int .i64 15]) (by simp [results, Try.results26, go_sem, q0, q1]) rfl ?_
      rw [hReH.out]
      exact ⟨⟨_, rfl, A, c, B9, d9, by rw [he9], hA.on f3H.out, hT9⟩, f3H.out⟩
    | false =>
      have hRe : R = ((withF L (x.1, x.2.1, (x.2.1.size : Int)), O), 0) := hR
      have hReH := Lib.hid hRe
      clear hR hRe
      obtain ⟨s0, s1, s2, s3, s4, s5⟩ := three hxY
      have o6 : Only [gx] Y (Y.setCell ⟨gx, 2, none⟩ (.int .i64 (x.2.1.size : Int))) := (Only.refl _ _).set (p := ⟨gx, 2, none⟩) (Or.inl (by simp)) _
      have hx6 : (Y.setCell ⟨gx, 2, none⟩ (.int .i64 (x.2.1.size : Int))).heap[gx]? = some (.cells #[.string x.1, .string x.2.1, .int .i64 (x.2.1.size : Int)] 39 (0, 0)) := by simp [World.setCell, Array.getElem?_modify, hxY]
      go_upto_region 8 with fail
      have hd6 := o6.keep e1 (by simp; omega)
      have hr6 := o6.keep hrY (by simp; omega)
      have hT6 := hTY.only o6 (fun y hy => by have := (World.ownsRow.lt hTY y hy).1; simp; omega)
      have hb6 : Below w.heap.size w (Y.setCell ⟨gx, 2, none⟩ (.int .i64 (x.2.1.size : Int))) := hbY.trans (o6.below hbY.size (fun y hy => by rw [List.mem_singleton.1 hy]; omega))
      clear s0 s1 s2 s3 s4 s5 y0 y1 hxY e1 hrY o6 hTY
      generalize (Y.setCell ⟨gx, 2, none⟩ (.int .i64 (x.2.1.size : Int))) = Z6 at hd6 hr6 hx6 hT6 hb6 ⊢
      obtain ⟨y0, y1, -, -⟩ := two hd6
      obtain ⟨s0, s1, s2, -, -, -⟩ := three hx6
      have hWH := Lib.hid (hWi.out Z6 hb6 B3 d3)
      have hr6H := Lib.hid hr6
      have hT6H := Lib.hid hT6
      have hb6H := Lib.hid hb6
      clear hWi hbw5 hbwX hd6 hx6 hr6 hT6 hb6 hbY
      go_wp2_with (go_at_call 46; (with_reducible refine (hWH.out).mono ?_); rintro e w8 ⟨⟨v8, rfl, hR8⟩, hb8⟩; obtain ⟨A8, c8, rfl, -⟩ := hR8.files; have hr8 := (hb8.block (w.heap.size + 1) (some_lt hr6H.out)).trans hr6H.out; obtain ⟨p0, p1, p2, p3⟩ := two hr8)
      have hbw8 := hb6H.out.trans (hb8.mono hb6H.out.size)
      obtain ⟨f1, f2, f3⟩ := fin2 hr8 hbw8 (by omega) (.slice A8 (withF L (x.1, x.2.1, (x.2.1.size : Int))).length c8) (.slice B3 O.length d3)
      obtain ⟨q0, q1, -, -⟩ := two f1
      have hgr := some_lt hr6H.out
      obtain ⟨A9, c9, he9, hF9⟩ := (hR8.only f2 (fun y hy => by have := (World.ownsRow.lt hR8 y hy).1; simp; omega)).files
      obtain ⟨B9, d9, he9', hT9⟩ := ((hT6H.out.on hb8).only f2 (fun y hy => by have := (World.ownsRow.lt (hT6H.out.on hb8) y hy).1; simp; omega)).faults
      refine bodyPost_ret (v := .tuple #[.agg #[.slice A8 (withF L (x.1, x.2.1, (x.2.1.size : Int))).length c8, .slice B3 O.length d3], .int .i64 0]) (by simp [results, Try.results26, go_sem, q0, q1]) rfl ?_
      rw [hReH.out]
      exact ⟨⟨_, rfl, A9, c9, B9, d9, by rw [he9, he9'], hF9, hT9⟩, f3⟩
end Go.Proofs.Ythdgfchmglkpaaa
