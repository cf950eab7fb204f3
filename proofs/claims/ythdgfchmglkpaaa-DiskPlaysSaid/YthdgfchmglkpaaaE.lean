/-
  Rows of faults of one's own; the document's Meets. Premise: rows have lengths that Go's own rows have.
-/
import Derived.Test.YthdgfchmglkpaaaChecked
import Derived.Test.YthdgfchmglkpaaaMath
import Derived.Test.YthdgfchmglkpaaaA
import Derived.Test.YthdgfchmglkpaaaB
import Derived.Test.YthdgfchmglkpaaaC
import Derived.Test.YthdgfchmglkpaaaD
import Derived.WalkKit
import Derived.WalkSpells
import Derived.WalkLawsBesides
import Derived.Deep.QuietTactic
import Derived.BigQuiet
import Derived.Lib.Hide
import Derived.Lib.SmallJoins
import Derived.Outline
import Derived.OwnWalk
import Derived.Deep.CutBlock
import Derived.BigRegion
import Derived.StillTailTactics
import Derived.Laws.AppendOwnNone
import Derived.Maps.AppendAt
import Derived.Deep.RegionLaw
import Derived.Deep.RegionHeld3
import Derived.Lib.BufferRead
import Derived.Deep.AppendLies
namespace Go.Proofs.Ythdgfchmglkpaaa
open Go.RowKit
def tcs (f : Ft) : List Value := [.string f.1, .int .i64 f.2.1, .int .i64 f.2.2]
/-- A row of faults of one's own. -/
def RowT (w : World) (base : Nat) (v : Value) (L : List Ft) : Prop := w.ownsRow base 70 3 v L.length (L.flatMap tcs)
theorem rowT_nil (w : World) (base : Nat) : RowT w base (.slice none 0 0) [] := World.ownsRow_nil w base 70 3
theorem info_fault : (Try.prog.info? 70).map (fun i => (i.zero, i.size, i.bytes)) = some (some (.agg #[.string ⟨#[]⟩, .int .i64 0, .int .i64 0]), 3, 32) := by kernel_rfl
theorem RowT.on {w w' : World} {base : Nat} {v : Value} {L : List Ft} (h : RowT w base v L) (hb : Below w.heap.size w w') : RowT w' base v L :=
  World.ownsRow.kept h (row := some w.heap.size) (grown_on hb _) (Or.inr fun e => by have := (World.ownsRow.lt h _ e).2; omega)
theorem RowT.base {w : World} {b b' : Nat} {v : Value} {L : List Ft} (h : RowT w b v L) (hb : b' ≤ b) : RowT w b' v L := by
  obtain ⟨h1, ⟨h2, h3⟩ | ⟨g, cap, cur, h2, h3, h4⟩⟩ := h
  · exact ⟨h1, Or.inl ⟨h2, h3⟩⟩
  · exact ⟨h1, Or.inr ⟨g, cap, cur, h2, by omega, h4⟩⟩
theorem RowT.faults {w : World} {base : Nat} {v : Value} {L : List Ft} (h : RowT w base v L) : ∃ A c, v = .slice A L.length c ∧ FaultsAt w A L := by
  have h' : w.ownsRow base 70 3 v L.length (L.flatMap tcs) := h
  rcases h'.2 with ⟨hv, h0⟩ | ⟨g, cap, cur, hv, _, hgk, _⟩
  · exact ⟨none, 0, by rw [hv, h0], fun i f hf => by rw [List.eq_nil_of_length_eq_zero h0] at hf; simp at hf⟩
  · have hob : v.ownBlock = some g := by rw [hv]; rfl
    refine ⟨some ⟨g, 0, none⟩, cap, hv, fun i f hf => ⟨_, rfl, LieB.at hgk, ?_⟩⟩
    have hc : ∀ j x, (tcs f)[j]? = some x → w.cell? ⟨g, i * 3 + j, none⟩ = some x := fun j x hx => by
      rw [← add_zero]
      refine h'.cells hob (i * 3 + j) x ?_
      rw [flat3 (fun _ => rfl) L i f hf j (by have := (List.getElem?_eq_some_iff.1 hx).1; exact this)]
      exact hx
    rw [add_zero]
    exact ⟨hc 0 _ rfl, hc 1 _ rfl, hc 2 _ rfl⟩
theorem RowT.snoc {w : World} {base : Nat} {v : Value} {L : List Ft} {x : ByteArray} {y z : Int} (h : w.ownsRow base 70 3 v (L.length + 1) (L.flatMap tcs ++ [.string x, .int .i64 y, .int .i64 z])) : RowT w base v (L ++ [(x, y, z)]) := by
  unfold RowT
  rw [List.length_append, List.flatMap_append]
  exact h
theorem one_fault (w : World) (x : ByteArray) (y z : Int) : ∀ (j : Nat) (u : Value), [Value.string x, .int .i64 y, .int .i64 z][j]? = some u → (w.alloc (.cells #[.string x, .int .i64 y, .int .i64 z] 70)).cell? ((⟨w.heap.size, 0, none⟩ : Addr).add j) = some u := fun j u hj => by
  rw [add_zero]
  rw [Lib.cell_of_heap (heap_alloc_new w _) j]
  simpa using hj
theorem fault_cells (x : ByteArray) (y z : Int) : ∀ u ∈ [Value.string x, .int .i64 y, .int .i64 z], u.oneCell' = true := by intro u hu; simp at hu; rcases hu with rfl | rfl | rfl <;> rfl
theorem RowT.only {w w' : World} {base : Nat} {v : Value} {L : List Ft} {O : List Nat} (h : RowT w base v L) (ho : Only O w w') (hO : ∀ k, v.ownBlock = some k → k ∉ O) : RowT w' base v L := by
  obtain ⟨h1, ⟨rfl, h2⟩ | ⟨g, cap, cur, rfl, h3, h4, h5⟩⟩ := h
  · exact ⟨h1, Or.inl ⟨rfl, h2⟩⟩
  · exact ⟨h1, Or.inr ⟨g, cap, cur, rfl, h3, ho.keep h4 (hO g rfl), h5⟩⟩
/-- Two variables: g holds a disk whose faults are a row of one's own, made since the world w0, gm the fault that was met; nothing else is written. -/
structure OutT (w0 : World) (g gm : Nat) (fv v : Value) (O : List Ft) (mt : Ft) (X : World) : Prop where
  blk : X.heap[g]? = some (.cells #[fv, v] 25 (0, 0))
  met : X.heap[gm]? = some (.cells #[.string mt.1, .int .i64 mt.2.1, .int .i64 mt.2.2] 70 (0, 0))
  row : RowT X w0.heap.size v O
  only : Only [g, gm] w0 X
  lt : g < w0.heap.size ∧ gm < w0.heap.size ∧ g ≠ gm
theorem OutT.on {w0 X Y : World} {g gm : Nat} {fv v : Value} {O : List Ft} {mt : Ft} (h : OutT w0 g gm fv v O mt X) (hb : Below X.heap.size X Y) : OutT w0 g gm fv v O mt Y :=
  ⟨(hb.block g (some_lt h.blk)).trans h.blk, (hb.block gm (some_lt h.met)).trans h.met, h.row.on hb, h.only.trans (of_below hb) (by simp), h.lt⟩
theorem OutT.more {w0 X Y Z : World} {g gm gb cap : Nat} {fv v : Value} {O : List Ft} {mt : Ft} {x : ByteArray} {y z : Int} (h : OutT w0 g gm fv v O mt X) (hb : Below X.heap.size X Y)
    (hown : Z.ownsRow w0.heap.size 70 3 (.slice (some ⟨gb, 0, none⟩) (O.length + 1) cap) (O.length + 1) (O.flatMap tcs ++ [.string x, .int .i64 y, .int .i64 z])) (hg : Y.grownBy Z v.ownBlock) :
    Z.heap[g]? = some (.cells #[fv, v] 25 (0, 0)) ∧ OutT w0 g gm fv (.slice (some ⟨gb, 0, none⟩) (O.length + 1) cap) (O ++ [(x, y, z)]) mt (Z.setCell ⟨g, 1, none⟩ (.slice (some ⟨gb, 0, none⟩) (O.length + 1) cap)) := by
  have h2 := h.on hb
  have hnot : ∀ k, k < w0.heap.size → v.ownBlock ≠ some k := fun k hk e => by have := (World.ownsRow.lt h2.row k e).1; omega
  have hb1 : Z.heap[g]? = some (.cells #[fv, v] 25 (0, 0)) := by rw [hg.block g (some_lt h2.blk) (fun e => hnot g h.lt.1 e.symm)]; exact h2.blk
  have hm1 : Z.heap[gm]? = some (.cells #[.string mt.1, .int .i64 mt.2.1, .int .i64 mt.2.2] 70 (0, 0)) := by rw [hg.block gm (some_lt h2.met) (fun e => hnot gm h.lt.2.1 e.symm)]; exact h2.met
  have hne : (Value.slice (some ⟨gb, 0, none⟩) (O.length + 1) cap).ownBlock ≠ some g := by
    intro e2
    have := (World.ownsRow.lt hown g e2).1
    have := h.lt
    omega
  have ho : Only [g, gm] w0 Z := h2.only.trans (grown_only hg) (fun k hk => Or.inr ((World.ownsRow.lt h2.row k (by simpa using hk)).1))
  refine ⟨hb1, by simp [World.setCell, Array.getElem?_modify, hb1], ?_, ?_, ho.set (Or.inl (by simp)) _, h.lt⟩
  · rw [Below.heap_setCell _ _ _ _ (fun e => h.lt.2.2 e.symm)]
    exact hm1
  · refine RowT.snoc (World.ownsRow.kept hown (row := some g) ?_ (Or.inr hne))
    have hk : Below 0 Z (Z.setCell ⟨g, 1, none⟩ (.slice (some ⟨gb, 0, none⟩) (O.length + 1) cap)) := (Below.refl 0 Z).setCell (p := ⟨g, 1, none⟩) (Nat.zero_le _) _
    exact ⟨hk.os, hk.tape, hk.output, hk.size, fun k _ hn => Below.heap_setCell _ _ _ _ (fun e => hn (by rw [e]))⟩
/-- The fault that is met is stored. -/
theorem OutT.meet {w0 X : World} {g gm : Nat} {fv v : Value} {O : List Ft} {mt : Ft} (h : OutT w0 g gm fv v O mt X) (f : Ft) : OutT w0 g gm fv v O f (((X.setCell ⟨gm, 0, none⟩ (.string f.1)).setCell ⟨gm, 1, none⟩ (.int .i64 f.2.1)).setCell ⟨gm, 2, none⟩ (.int .i64 f.2.2)) := by
  have ho : Only [gm] X (((X.setCell ⟨gm, 0, none⟩ (.string f.1)).setCell ⟨gm, 1, none⟩ (.int .i64 f.2.1)).setCell ⟨gm, 2, none⟩ (.int .i64 f.2.2)) := (((Only.refl [gm] X).set (p := ⟨gm, 0, none⟩) (Or.inl (by simp)) _).set (p := ⟨gm, 1, none⟩) (Or.inl (by simp)) _).set (p := ⟨gm, 2, none⟩) (Or.inl (by simp)) _
  exact ⟨ho.keep h.blk (by simpa using h.lt.2.2), store3 h.met _ _ _, h.row.only ho (fun k hk => by have := (World.ownsRow.lt h.row k hk).1; have := h.lt; simp; omega), h.only.trans ho (by simp), h.lt⟩
theorem OutT.done {w w0 X : World} {g gm gr gf : Nat} {fv v a0 a1 b0 b1 b2 : Value} {O : List Ft} {mt : Ft} (h : OutT w0 g gm fv v O mt X) (hb : Below w.heap.size w w0) (hg : w.heap.size ≤ g ∧ w.heap.size ≤ gm) (h1 : w.heap.size ≤ gr ∧ gr < w0.heap.size) (h2 : w.heap.size ≤ gf ∧ gf < w0.heap.size) (hne : gr ≠ gf)
    (hr : X.heap[gr]? = some (.cells #[a0, a1] 25 (0, 0))) (hf : X.heap[gf]? = some (.cells #[b0, b1, b2] 70 (0, 0))) (v0 v1 u0 u1 u2 : Value) :
    ∃ Y, Y = ((((X.setCell ⟨gr, 0, none⟩ v0).setCell ⟨gr, 1, none⟩ v1).setCell ⟨gf, 0, none⟩ u0).setCell ⟨gf, 1, none⟩ u1).setCell ⟨gf, 2, none⟩ u2 ∧ Y.heap[gr]? = some (.cells #[v0, v1] 25 (0, 0)) ∧ Y.heap[gf]? = some (.cells #[u0, u1, u2] 70 (0, 0)) ∧ RowT Y w.heap.size v O ∧ Below w.heap.size w Y := by
  have o1 : Only [gr] X ((X.setCell ⟨gr, 0, none⟩ v0).setCell ⟨gr, 1, none⟩ v1) := ((Only.refl [gr] X).set (p := ⟨gr, 0, none⟩) (Or.inl (by simp)) v0).set (p := ⟨gr, 1, none⟩) (Or.inl (by simp)) v1
  have hr1 := store2 hr v0 v1
  have hf1 := o1.keep hf (by simp; omega)
  generalize (X.setCell ⟨gr, 0, none⟩ v0).setCell ⟨gr, 1, none⟩ v1 = X1 at o1 hr1 hf1
  have o2 : Only [gf] X1 (((X1.setCell ⟨gf, 0, none⟩ u0).setCell ⟨gf, 1, none⟩ u1).setCell ⟨gf, 2, none⟩ u2) := (((Only.refl [gf] X1).set (p := ⟨gf, 0, none⟩) (Or.inl (by simp)) u0).set (p := ⟨gf, 1, none⟩) (Or.inl (by simp)) u1).set (p := ⟨gf, 2, none⟩) (Or.inl (by simp)) u2
  refine ⟨_, rfl, o2.keep hr1 (by simpa using hne), store3 hf1 u0 u1 u2, ?_, ?_⟩
  · exact (((h.row.only o1 (fun k hk => by have := (World.ownsRow.lt h.row k hk).1; simp; omega)).only o2 (fun k hk => by have := (World.ownsRow.lt h.row k hk).1; simp; omega))).base hb.size
  · have hX : Below w.heap.size w X := hb.trans (h.only.below hb.size (fun k hk => by simp at hk; omega))
    have hX1 : Below w.heap.size w X1 := hX.trans (o1.below hX.size (fun k hk => by rw [List.mem_singleton.1 hk]; exact h1.1))
    exact hX1.trans (o2.below hX1.size (fun k hk => by rw [List.mem_singleton.1 hk]; exact h2.1))
def faultV (f : Ft) : Value := .agg #[.string f.1, .int .i64 f.2.1, .int .i64 f.2.2]
theorem meet_next {T : List Ft} {i : Nat} {f : Ft} (h : T[i]? = some f) (k : ByteArray) (kd : Int) : meetF (T.take (i + 1)) k kd = meetG k kd (meetF (T.take i) k kd) f := by
  have e : T.take (i + 1) = T.take i ++ [f] := by rw [List.take_add_one, h]; rfl
  rw [e, meet_snoc]
theorem five (w : World) (o1 o2 o3 o4 o5 : Obj) : ∃ W, W = ((((w.alloc o1).alloc o2).alloc o3).alloc o4).alloc o5 ∧ W.heap[w.heap.size]? = some o1 ∧ W.heap[w.heap.size + 1]? = some o2 ∧ W.heap[w.heap.size + 1 + 1]? = some o3 ∧ W.heap[w.heap.size + 1 + 1 + 1]? = some o4 ∧ W.heap[w.heap.size + 1 + 1 + 1 + 1]? = some o5 ∧ Below w.heap.size w W ∧ W.heap.size = w.heap.size + 5 := by
  obtain ⟨V, hV, h1, h2, h3, h4, hb, hs⟩ := four w o1 o2 o3 o4
  refine ⟨_, rfl, ?_⟩
  rw [← hV]
  have hk : ∀ k, k < w.heap.size + 4 → (V.alloc o5).heap[k]? = V.heap[k]? := fun k hk => Below.heap_alloc _ _ _ (by omega)
  refine ⟨(hk _ (by omega)).trans h1, (hk _ (by omega)).trans h2, (hk _ (by omega)).trans h3, (hk _ (by omega)).trans h4, ?_, hb.alloc (by omega) _, by simp [hs]⟩
  rw [show w.heap.size + 1 + 1 + 1 + 1 = V.heap.size by omega]
  exact heap_alloc_new V o5
set_option maxRecDepth 100000 in
set_option maxHeartbeats 8000000 in
theorem rmeets_any {w : World} {A B : Option Addr} {n c d : Nat} {T : List Ft} (k : ByteArray) (kd : Int) (h : FaultsAt w B T) (hl : T.length ≤ 1000000) :
    Calls Try.prog 45 #[.agg #[.slice A n c, .slice B T.length d], .string k, .int .i64 kd] w fun r w' => (∃ v, r = .returned (.tuple #[.agg #[.slice A n c, v], faultV (meetF T k kd).2.1, .bool (meetF T k kd).2.2]) ∧ RowT w' w.heap.size v (meetF T k kd).1) ∧ Below w.heap.size w w' := by
  obtain ⟨W5, hW5, k1, k2, k3, k4, k5, kb, ks⟩ := five w (.cells #[.slice A n c, .slice B T.length d] 25) (.cells #[.slice none 0 0, .slice none 0 0] 25) (.cells #[.string ⟨#[]⟩, .int .i64 0, .int .i64 0] 70) (.cells #[.slice A n c, .slice none 0 0] 25) (.cells #[.string ⟨#[]⟩, .int .i64 0, .int .i64 0] 70)
  have hget : Hid (∀ i, i < T.length → ∃ g, T[i]? = some g) := Lib.hid (fun i hi => ⟨_, List.getElem?_eq_getElem hi⟩)
  have hnx : Hid (∀ i f, T[i]? = some f → meetF (T.take (i + 1)) k kd = meetG k kd (meetF (T.take i) k kd) f) := Lib.hid (fun i f hf => meet_next hf k kd)
  have htk : Hid (meetF (T.take T.length) k kd = meetF T k kd) := Lib.hid (by rw [List.take_length])
  have hlm : Hid (∀ i, (meetF (T.take i) k kd).1.length ≤ 1000000) := Lib.hid (fun i => Nat.le_trans (meet_len _ k kd) (by rw [List.length_take]; omega))
  have hH := Lib.hid h
  obtain ⟨R, hR⟩ : ∃ R, R = meetF T k kd := ⟨_, rfl⟩
  rw [← hR] at htk ⊢
  obtain ⟨i0, hi, hz0, hz1, hz2⟩ := info_partsS info_fault
  clear h hR
  generalize hNe : T.length = N at *
  clear hNe
  go_enter Try.func45, Try.ntmps45
  go_upto_region 3 with fail
  rw [← hW5]
  have hO0 : Hid (OutT W5 (w.heap.size + 1 + 1 + 1) (w.heap.size + 1 + 1 + 1 + 1) (.slice A n c) (.slice none 0 0) [] (⟨#[]⟩, 0, 0) W5) := Lib.hid ⟨k4, k5, rowT_nil _ _, Only.refl _ _, by omega, by omega, by omega⟩
  have kbH := Lib.hid kb
  have k1H := Lib.hid k1
  have k2H := Lib.hid k2
  have k3H := Lib.hid k3
  clear hW5 kb k1 k2 k3 k4 k5
  go_wp2_with fail
  go_loopw [11, 12] (fun s11 s12 wr => ∃ (i : Nat) (v : Value) (O : List Ft) (mt : Ft) (q : Bool), i ≤ N ∧ s12 = .int .i64 i ∧ s11 = .bool q ∧ Hid (meetF (T.take i) k kd = (O, mt, q)) ∧ Hid (OutT W5 (w.heap.size + 1 + 1 + 1) (w.heap.size + 1 + 1 + 1 + 1) (.slice A n c) v O mt wr)) (fun _ s12 _ => N - (intOf s12).toNat)
  case atStart => exact ⟨0, _, [], (⟨#[]⟩, 0, 0), false, by omega, rfl, rfl, Lib.hid rfl, hO0⟩
  case round =>
    clear hO0
    obtain ⟨i, v, O, mt, q, hi1, rfl, rfl, hOe, hO⟩ := hrel
    obtain ⟨A0, c0, rfl, -⟩ := hO.out.row.faults
    have hdr := hO.out.only.keep k1H.out (by simp; omega)
    obtain ⟨x0, x1, -, -⟩ := two hdr
    have hbw : Below w.heap.size w wr := kbH.out.trans (hO.out.only.below kbH.out.size (fun k hk => by simp at hk; omega))
    by_cases hil : i < N
    · obtain ⟨f, hf⟩ := hget.out i hil
      obtain ⟨a, rfl, ha, y0, y1, y2⟩ := hH.out.on hbw i f hf
      have hix := run_ixT a i N d hil
      have hnew := heap_alloc_new wr (.cells #[.string f.1, .int .i64 f.2.1, .int .i64 f.2.2] 70)
      obtain ⟨z0, z1, z2, -, -, -⟩ := three hnew
      have hilH := Lib.hid hil
      have dk : decide ((i : Int) < (N : Int)) = true := decide_eq_true (by omega)
      have dk2 : decide (i < N) = true := decide_eq_true hil
      have hwk := wrap_small (x := (i : Int) + 1) (by omega)
      have hmi := hnx.out i f hf
      rw [hOe.out] at hmi
      have hO2 := Lib.hid (hO.out.on (Y := wr.alloc (.cells #[.string f.1, .int .i64 f.2.1, .int .i64 f.2.2] 70)) box_below)
      have hli : O.length ≤ 1000000 := by have := hlm.out i; rw [hOe.out] at this; exact this
      have hszw := hO.out.only.size
      have hwb : Below w.heap.size w (wr.alloc (.cells #[.string f.1, .int .i64 f.2.1, .int .i64 f.2.2] 70)) := hbw.alloc hbw.size _
      clear hf hil hOe hbw
      by_cases hc : q = false ∧ f.1 = k ∧ f.2.1 = kd
      · obtain ⟨rfl, hk1, hk2⟩ := hc
        have q1 : (f.1.toList == k.toList) = true := by rw [hk1]; simp
        have q2 : (f.2.1 == kd) = true := by rw [hk2]; simp
        unfold meetG at hmi
        rw [if_pos ⟨rfl, hk1, hk2⟩] at hmi
        have hmiH := Lib.hid hmi
        obtain ⟨m0, m1, m2, m3, m4, m5⟩ := three hO2.out.met
        have hO3 := Lib.hid (hO2.out.meet f)
        clear hmi hk1 hk2 hO
        go_wp2_with fail
        go_roundw
        case rel => exact ⟨i + 1, _, O, f, true, by have := hilH.out; omega, by go_num, rfl, hmiH, hO3⟩
        case measure => have := hilH.out; simp [intOf]; omega
      · unfold meetG at hmi
        rw [if_neg hc] at hmi
        have hmiH := Lib.hid hmi
        obtain ⟨m0, m1, m2, m3⟩ := two hO2.out.blk
        have hoxH := Lib.hid ((hO2.out.on (Y := (wr.alloc (.cells #[.string f.1, .int .i64 f.2.1, .int .i64 f.2.2] 70)).alloc (.cells #[.string f.1, .int .i64 f.2.1, .int .i64 f.2.2] 70)) box_below).row)
        have hs2 : (wr.alloc (.cells #[.string f.1, .int .i64 f.2.1, .int .i64 f.2.2] 70)).heap.size = wr.heap.size + 1 := by simp
        clear hmi hO hwb
        have key : ∀ {Q : Prop}, (q = true → Q) → (q = false → (f.1.toList == k.toList) = false → Q) → (q = false → (f.1.toList == k.toList) = true → (f.2.1 == kd) = false → Q) → Q := fun h1 h2 h3 => by
          cases hq : q with
          | true => exact h1 hq
          | false =>
            by_cases e1 : f.1 = k
            · exact h3 hq (by rw [e1]; simp) (beq_false_of_ne (fun e2 => hc ⟨hq, e1, e2⟩))
            · exact h2 hq (key_ne e1)
        clear hc
        refine key (fun hq => ?_) (fun hq hk1 => ?_) (fun hq hk1 hk2 => ?_)
        all_goals subst hq
        all_goals go_wp2_with (at_builtin; refine wpList_append_own_at _ rfl (.tmp 45) (.tmp 47) 23 rfl W5.heap.size 70 i0 _ 3 32 Try.underlying23 hi hz0 hz1 hz2 rfl (by decide) (.slice A0 O.length c0) O.length (O.flatMap tcs) rfl hoxH.out ⟨(wr.alloc (.cells #[.string f.1, .int .i64 f.2.1, .int .i64 f.2.2] 70)).heap.size, 0, none⟩ 1 1 [.string f.1, .int .i64 f.2.1, .int .i64 f.2.2] (by simp [Act.eval]) rfl (one_fault (wr.alloc (.cells #[.string f.1, .int .i64 f.2.1, .int .i64 f.2.2] 70)) _ _ _) (fault_cells _ _ _) (by unfold maxLen; omega) (by omega) (by simp; omega) ?_)
        all_goals (
          intro v' w7 hown7 hg7 _ hloc
          obtain ⟨gb, cap, rfl⟩ : ∃ gb cap, v' = .slice (some ⟨gb, 0, none⟩) (O.length + 1) cap := by
            rcases hown7.2 with ⟨_, h0⟩ | ⟨gb, cap, cur, hv, _⟩
            · omega
            · exact ⟨gb, cap, hv⟩
          rw [← ks] at hown7
          obtain ⟨hb7, hO7⟩ := hO2.out.more (box_below (w := wr.alloc (.cells #[.string f.1, .int .i64 f.2.1, .int .i64 f.2.2] 70))) hown7 hg7
          obtain ⟨t0, t1, t2, t3⟩ := two hb7
          have hO7H := Lib.hid hO7
          clear hown7 hg7 hb7 hO7 hloc m0 m1 m2 m3 z0 z1 z2 y0 y1 y2 x0 x1
          go_wp2_with fail
          exact ⟨⟨i + 1, _, _, mt, _, by have := hilH.out; omega, by go_num, rfl, hmiH, hO7H⟩, by have := hilH.out; simp [intOf]; omega⟩)
    · have hin : N = i := by omega
      subst hin
      have dk : decide ((N : Int) < (N : Int)) = false := decide_eq_false (by omega)
      have dk2 : decide (N < N) = false := decide_eq_false (by omega)
      rw [htk.out] at hOe
      obtain ⟨z0, z1, -, -⟩ := two hO.out.blk
      obtain ⟨m0, m1, m2, -, -, -⟩ := three hO.out.met
      have k2r := hO.out.only.keep k2H.out (by simp <;> omega)
      have k3r := hO.out.only.keep k3H.out (by simp <;> omega)
      obtain ⟨-, -, p2, p3⟩ := two k2r
      obtain ⟨p0, p1, -, -⟩ := two k2r
      obtain ⟨r0, r1, r2, r3, r4, r5⟩ := three k3r
      clear hil hdr
      go_upto_region 11 with fail
      clear x0 x1
      obtain ⟨Y, hY, g1, g2, g3, g4⟩ := hO.out.done kbH.out ⟨by omega, by omega⟩ (gr := w.heap.size + 1) (gf := w.heap.size + 1 + 1) ⟨by omega, by omega⟩ ⟨by omega, by omega⟩ (by omega) k2r k3r (.slice A n c) (.slice A0 O.length c0) (.string mt.1) (.int .i64 mt.2.1) (.int .i64 mt.2.2)
      have hYH := Lib.hid hY
      have g1H := Lib.hid g1
      have g2H := Lib.hid g2
      have g3H := Lib.hid g3
      have g4H := Lib.hid g4
      have hOeH := Lib.hid hOe.out
      clear hY g1 g2 g3 g4 k2r k3r
      go_region
      rw [← hYH.out]
      obtain ⟨e0, e1, -, -⟩ := two g1H.out
      obtain ⟨e2, e3, e4, -, -, -⟩ := three g2H.out
      have e0' : Y.drew.cell? ⟨w.heap.size + 1, 0, none⟩ = some (.slice A n c) := e0
      have e1' : Y.drew.cell? ⟨w.heap.size + 1, 1, none⟩ = some (.slice A0 O.length c0) := e1
      have e2' : Y.drew.cell? ⟨w.heap.size + 1 + 1, 0, none⟩ = some (.string mt.1) := e2
      have e3' : Y.drew.cell? ⟨w.heap.size + 1 + 1, 1, none⟩ = some (.int .i64 mt.2.1) := e3
      have e4' : Y.drew.cell? ⟨w.heap.size + 1 + 1, 2, none⟩ = some (.int .i64 mt.2.2) := e4
      clear z0 z1 m0 m1 m2 p0 p1 p2 p3 r0 r1 r2 r3 r4 r5 e0 e1 e2 e3 e4
      go_wp2_with fail
      refine bodyPost_ret (v := .tuple #[.agg #[.slice A n c, .slice A0 O.length c0], .agg #[.string mt.1, .int .i64 mt.2.1, .int .i64 mt.2.2], .bool q]) (by simp [results, Try.results45, go_sem, e0', e1', e2', e3', e4']) rfl ⟨⟨.slice A0 O.length c0, ?_, ?_⟩, g4H.out.drew⟩
      · rw [hOeH.out]
        rfl
      · rw [hOeH.out]
        exact g3H.out
end Go.Proofs.Ythdgfchmglkpaaa
