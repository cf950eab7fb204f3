/-
  The document's Rename. Premise: rows have lengths that Go's own rows have.
-/
import Derived.Test.YthdgfchmglkpaaaChecked
import Derived.Test.YthdgfchmglkpaaaMath
import Derived.Test.YthdgfchmglkpaaaA
import Derived.Test.YthdgfchmglkpaaaB
import Derived.Test.YthdgfchmglkpaaaC
import Derived.Test.YthdgfchmglkpaaaD
import Derived.Test.YthdgfchmglkpaaaE
import Derived.Test.YthdgfchmglkpaaaF
import Derived.Test.YthdgfchmglkpaaaG
import Derived.Test.YthdgfchmglkpaaaI
import Derived.WalkKit
import Derived.WalkSpells
import Derived.WalkLawsBesides
import Derived.Deep.QuietTactic
import Derived.BigQuiet
import Derived.Lib.Hide
import Derived.Lib.SmallJoins
import Derived.Outline
import Derived.OwnWalk
import Derived.Deep.CutBlock
import Derived.BigRegion
import Derived.StillTailTactics
import Derived.Laws.AppendOwnNone
import Derived.Maps.AppendAt
import Derived.Deep.RegionLaw
import Derived.Deep.RegionHeld3
import Derived.Lib.BufferRead
import Derived.Deep.AppendLies
namespace Go.Proofs.Ythdgfchmglkpaaa
open Go.RowKit
def renameF (D : Dk) (k tk : ByteArray) : Dk × Int := match findF D.1 k with
  | none => (D, 8)
  | some x => if (meetF D.2 k 3).2.2 = true then ((D.1, (meetF D.2 k 3).1), 15) else (((filesF (if k = tk then D.1 else removeF D.1 tk)).map (fun g => if g.1 = k then (tk, x.2.1, x.2.2) else g), (meetF D.2 k 3).1), 0)
theorem remove_len (L : List Fl) (k : ByteArray) : (removeF L k).length ≤ L.length := Nat.le_trans (List.length_filter_le _ _) (files_len L)
/-- Two variables: g holds a disk whose files are a row of one's own, made since the world w0, gx a file whose name may turn; nothing else is written. -/
structure OutX (w0 : World) (g gx : Nat) (v fv : Value) (O : List Fl) (y : ByteArray) (z : Int) (X : World) : Prop where
  blk : X.heap[g]? = some (.cells #[v, fv] 25 (0, 0))
  fil : ∃ n : ByteArray, X.heap[gx]? = some (.cells #[.string n, .string y, .int .i64 z] 39 (0, 0))
  row : RowF X w0.heap.size v O
  only : Only [g, gx] w0 X
  lt : g < w0.heap.size ∧ gx < w0.heap.size ∧ g ≠ gx
theorem OutX.on {w0 X Y : World} {g gx : Nat} {v fv : Value} {O : List Fl} {y : ByteArray} {z : Int} (h : OutX w0 g gx v fv O y z X) (hb : Below X.heap.size X Y) : OutX w0 g gx v fv O y z Y := by
  obtain ⟨n, hn⟩ := h.fil
  exact ⟨(hb.block g (some_lt h.blk)).trans h.blk, ⟨n, (hb.block gx (some_lt hn)).trans hn⟩, h.row.on hb, h.only.trans (of_below hb) (by simp), h.lt⟩
theorem OutX.name {w0 X : World} {g gx : Nat} {v fv : Value} {O : List Fl} {y : ByteArray} {z : Int} (h : OutX w0 g gx v fv O y z X) (n : ByteArray) : OutX w0 g gx v fv O y z (X.setCell ⟨gx, 0, none⟩ (.string n)) ∧ (X.setCell ⟨gx, 0, none⟩ (.string n)).heap[gx]? = some (.cells #[.string n, .string y, .int .i64 z] 39 (0, 0)) := by
  obtain ⟨m, hm⟩ := h.fil
  have ho : Only [gx] X (X.setCell ⟨gx, 0, none⟩ (.string n)) := (Only.refl [gx] X).set (p := ⟨gx, 0, none⟩) (Or.inl (by simp)) _
  have hx : (X.setCell ⟨gx, 0, none⟩ (.string n)).heap[gx]? = some (.cells #[.string n, .string y, .int .i64 z] 39 (0, 0)) := by simp [World.setCell, Array.getElem?_modify, hm]
  exact ⟨⟨ho.keep h.blk (by simpa using h.lt.2.2), ⟨n, hx⟩, h.row.only ho (fun k hk => by have := (World.ownsRow.lt h.row k hk).1; have := h.lt; simp; omega), h.only.trans ho (by simp), h.lt⟩, hx⟩
theorem OutX.more {w0 X Y Z : World} {g gx gb cap : Nat} {v fv : Value} {O : List Fl} {y : ByteArray} {z : Int} {a b : ByteArray} {c : Int} (h : OutX w0 g gx v fv O y z X) (hb : Below X.heap.size X Y)
    (hown : Z.ownsRow w0.heap.size 39 3 (.slice (some ⟨gb, 0, none⟩) (O.length + 1) cap) (O.length + 1) (O.flatMap fcs ++ [.string a, .string b, .int .i64 c])) (hg : Y.grownBy Z v.ownBlock) :
    Z.heap[g]? = some (.cells #[v, fv] 25 (0, 0)) ∧ OutX w0 g gx (.slice (some ⟨gb, 0, none⟩) (O.length + 1) cap) fv (O ++ [(a, b, c)]) y z (Z.setCell ⟨g, 0, none⟩ (.slice (some ⟨gb, 0, none⟩) (O.length + 1) cap)) := by
  have h2 := h.on hb
  obtain ⟨n, hn⟩ := h2.fil
  have hnot : ∀ k, k < w0.heap.size → v.ownBlock ≠ some k := fun k hk e => by have := (World.ownsRow.lt h2.row k e).1; omega
  have hb1 : Z.heap[g]? = some (.cells #[v, fv] 25 (0, 0)) := by rw [hg.block g (some_lt h2.blk) (fun e => hnot g h.lt.1 e.symm)]; exact h2.blk
  have hm1 : Z.heap[gx]? = some (.cells #[.string n, .string y, .int .i64 z] 39 (0, 0)) := by rw [hg.block gx (some_lt hn) (fun e => hnot gx h.lt.2.1 e.symm)]; exact hn
  have hne : (Value.slice (some ⟨gb, 0, none⟩) (O.length + 1) cap).ownBlock ≠ some g := by
    intro e2
    have := (World.ownsRow.lt hown g e2).1
    have := h.lt
    omega
  have ho : Only [g, gx] w0 Z := h2.only.trans (grown_only hg) (fun k hk => Or.inr ((World.ownsRow.lt h2.row k (by simpa using hk)).1))
  refine ⟨hb1, by simp [World.setCell, Array.getElem?_modify, hb1], ⟨n, ?_⟩, ?_, ho.set (Or.inl (by simp)) _, h.lt⟩
  · rw [Below.heap_setCell _ _ _ _ (fun e => h.lt.2.2 e.symm)]
    exact hm1
  · refine RowF.snoc (World.ownsRow.kept hown (row := some g) ?_ (Or.inr hne))
    have hk : Below 0 Z (Z.setCell ⟨g, 0, none⟩ (.slice (some ⟨gb, 0, none⟩) (O.length + 1) cap)) := (Below.refl 0 Z).setCell (p := ⟨g, 0, none⟩) (Nat.zero_le _) _
    exact ⟨hk.os, hk.tape, hk.output, hk.size, fun k _ hn => Below.heap_setCell _ _ _ _ (fun e => hn (by rw [e]))⟩
theorem map_next2 {M : List Fl} {i : Nat} {g : Fl} (h : M[i]? = some g) (k : ByteArray) (f : Fl) : (M.take (i + 1)).map (fun g => if g.1 = k then f else g) = (M.take i).map (fun g => if g.1 = k then f else g) ++ [if g.1 = k then f else g] := by
  rw [List.take_add_one, h, List.map_append]
  rfl
set_option maxRecDepth 100000 in
set_option maxHeartbeats 8000000 in
theorem rrename_any {w : World} {v : Value} {D : Dk} (k tk : ByteArray) (h : DkAt w v D) (hl : Few D) :
    Calls Try.prog 27 #[v, .string k, .string tk] w fun r w' => (∃ v', r = .returned (.tuple #[v', .int .i64 (renameF D k tk).2]) ∧ DkAt w' v' (renameF D k tk).1) ∧ Below w.heap.size w w' := by
  obtain ⟨A, c, B, d, rfl, hA, hB⟩ := h
  obtain ⟨L, T⟩ := D
  simp only [] at hA hB ⊢
  obtain ⟨hl1, hl2⟩ := hl
  simp only [] at hl1 hl2
  obtain ⟨W2, hW2, hd, hr, hb, hs2⟩ := two_boxes w (.cells #[.slice A L.length c, .slice B T.length d] 25) (.cells #[.slice none 0 0, .slice none 0 0] 25)
  have hFi := Lib.hid (rfind_any (B := B) (c := c) (m := T.length) (d := d) k (hA.on hb) (by omega))
  unfold renameF
  simp only []
  cases hf : findF L k with
  | none =>
    rw [hf] at hFi
    have hFi2 : Hid (Calls Try.prog 11 #[.agg #[.slice A L.length c, .slice B T.length d], .string k] W2 fun r w' => r = .returned (.tuple #[.agg #[.string ⟨#[]⟩, .string ⟨#[]⟩, .int .i64 0], .bool false]) ∧ Below W2.heap.size W2 w') := hFi
    simp only []
    clear hFi hf
    go_enter Try.func27, Try.ntmps27
    go_upto_region 1 with fail
    rw [← hW2]
    clear hW2
    obtain ⟨x0, x1, -, -⟩ := two hd
    go_upto_region 2 with (go_at_call 11; (with_reducible refine (hFi2.out).mono ?_); rintro e w3 ⟨rfl, hb3⟩)
    have hbX : Below W2.heap.size W2 (w3.alloc (.cells #[.string ⟨#[]⟩, .string ⟨#[]⟩, .int .i64 0] 39)) := hb3.alloc hb3.size _
    generalize (w3.alloc (.cells #[.string ⟨#[]⟩, .string ⟨#[]⟩, .int .i64 0] 39)) = X at hbX ⊢
    have hdX := (hbX.block w.heap.size (some_lt hd)).trans hd
    have hrX := (hbX.block (w.heap.size + 1) (some_lt hr)).trans hr
    obtain ⟨y0, y1, -, -⟩ := two hdX
    obtain ⟨p0, p1, p2, p3⟩ := two hrX
    obtain ⟨e1, e2, e3⟩ := fin2 hrX (hb.trans (hbX.mono hb.size)) (by omega) (.slice A L.length c) (.slice B T.length d)
    have e1H := Lib.hid e1
    have e3H := Lib.hid e3
    clear hd hr hdX hrX hb3 x0 x1 e1 e2 e3
    go_wp2_with fail
    obtain ⟨q0, q1, -, -⟩ := two e1H.out
    refine bodyPost_ret (v := .tuple #[.agg #[.slice A L.length c, .slice B T.length d], .int .i64 8]) (by simp [results, Try.results27, go_sem, q0, q1]) rfl ?_
    exact ⟨⟨_, rfl, A, c, B, d, rfl, hA.on e3H.out, hB.on e3H.out⟩, e3H.out⟩
  | some x =>
    rw [hf] at hFi
    have hFi2 : Hid (Calls Try.prog 11 #[.agg #[.slice A L.length c, .slice B T.length d], .string k] W2 fun r w' => r = .returned (.tuple #[.agg #[.string x.1, .string x.2.1, .int .i64 x.2.2], .bool true]) ∧ Below W2.heap.size W2 w') := hFi
    simp only []
    clear hFi hf
    obtain ⟨⟨O, mt, q⟩, hmm⟩ : ∃ z, z = meetF T k 3 := ⟨_, rfl⟩
    rw [← hmm]
    simp only []
    obtain ⟨R, hR⟩ : ∃ R : Dk × Int, R = (if q = true then ((L, O), 15) else (((filesF (if k = tk then L else removeF L tk)).map (fun g => if g.1 = k then (tk, x.2.1, x.2.2) else g), O), 0)) := ⟨_, rfl⟩
    rw [← hR]
    have hMe := Lib.hid (fun (X : World) (hX : Below w.heap.size w X) => rmeets_own (A := A) (n := L.length) (c := c) (d := d) k 3 (hB.on hX) hl2 hmm.symm)
    have hRm := Lib.hid (fun (X : World) (hX : Below w.heap.size w X) (B' : Option Addr) (e : Nat) => rremove_any (B := B') (c := c) (m := O.length) (d := e) tk (hA.on hX) hl1)
    clear hmm
    go_enter Try.func27, Try.ntmps27
    go_upto_region 1 with fail
    rw [← hW2]
    clear hW2
    obtain ⟨x0, x1, -, -⟩ := two hd
    go_upto_region 2 with (go_at_call 11; (with_reducible refine (hFi2.out).mono ?_); rintro e w3 ⟨rfl, hb3⟩)
    have hbX : Below W2.heap.size W2 (w3.alloc (.cells #[.string x.1, .string x.2.1, .int .i64 x.2.2] 39)) := hb3.alloc hb3.size _
    have hxX := heap_alloc_new w3 (.cells #[.string x.1, .string x.2.1, .int .i64 x.2.2] 39)
    have hgx : W2.heap.size ≤ w3.heap.size := hb3.size
    generalize (w3.alloc (.cells #[.string x.1, .string x.2.1, .int .i64 x.2.2] 39)) = X at hbX hxX ⊢
    generalize w3.heap.size = gx at hxX hgx ⊢
    have hdX := (hbX.block w.heap.size (some_lt hd)).trans hd
    have hrX := (hbX.block (w.heap.size + 1) (some_lt hr)).trans hr
    have hbwX := hb.trans (hbX.mono hb.size)
    obtain ⟨y0, y1, -, -⟩ := two hdX
    have hMX := Lib.hid (hMe.out X hbwX)
    clear hd hr hb3 x0 x1 hb hbX hMe hFi2
    go_upto_region 5 with (go_at_call 45; (with_reducible refine (hMX.out).mono ?_); rintro e w5 ⟨⟨B3, d3, rfl, hB3⟩, hb5⟩; have hd5 := (hb5.block w.heap.size (some_lt hdX)).trans hdX; have hd4 := (Lib.alloc_old w5 (.cells #[.string ⟨#[]⟩, .int .i64 0, .int .i64 0] 70) w.heap.size (some_lt hd5)).trans hd5; obtain ⟨z0, z1, z2, z3⟩ := two hd4; have hn5 := set2_new w5 w.heap.size (some_lt hd5) (.slice A L.length c) (.slice B3 O.length d3) (.cells #[.string ⟨#[]⟩, .int .i64 0, .int .i64 0] 70); obtain ⟨m0, m1, m2, m3, m4, m5⟩ := three hn5)
    obtain ⟨Y, hY, e1, e2, e3⟩ := met_world hd5 (.slice A L.length c) (.slice B3 O.length d3) (.string mt.1) (.int .i64 mt.2.1) (.int .i64 mt.2.2) (.cells #[.string ⟨#[]⟩, .int .i64 0, .int .i64 0] 70) rfl
    rw [← hY]
    have hgx2 := some_lt hxX
    have hrY := e3.keep ((hb5.block (w.heap.size + 1) (some_lt hrX)).trans hrX) (by simp)
    have hxY := e3.keep ((hb5.block gx (some_lt hxX)).trans hxX) (by simp; omega)
    have hbw5 := hbwX.trans (hb5.mono hbwX.size)
    have hbY : Below w.heap.size w Y := hbw5.trans (e3.below hbw5.size (fun k hk => by rw [List.mem_singleton.1 hk]; exact Nat.le_refl _))
    have hTY := hB3.only e3 (fun k hk => by have := (World.ownsRow.lt hB3 k hk).1; have := some_lt hrX; simp; omega)
    have hlX := some_lt hrX
    clear hY hd4 hn5 hd5 hdX hrX hxX hb5 y0 y1 z0 z1 z2 z3 m0 m1 m2 m3 m4 m5 hMX e3
    generalize w5.heap.size = gm at e2 ⊢
    clear e2
    obtain ⟨y0, y1, -, -⟩ := two e1
    cases q with
    | true =>
      have hRe : R = ((L, O), 15) := hR
      have hReH := Lib.hid hRe
      clear hR hRe
      obtain ⟨p0, p1, p2, p3⟩ := two hrY
      obtain ⟨f1, f2, f3⟩ := fin2 hrY hbY (by omega) (.slice A L.length c) (.slice B3 O.length d3)
      have f1H := Lib.hid f1
      have f3H := Lib.hid f3
      have hT9H := Lib.hid (hTY.only f2 (fun y hy => by have := (World.ownsRow.lt hTY y hy).1; simp; omega))
      clear hrY f1 f2 f3
      go_wp2_with fail
      obtain ⟨B9, d9, he9, hT9⟩ := hT9H.out.faults
      obtain ⟨q0, q1, -, -⟩ := two f1H.out
      refine bodyPost_ret (v := .tuple #[.agg #[.slice A L.length c, .slice B3 O.length d3], .int .i64 15]) (by simp [results, Try.results27, go_sem, q0, q1]) rfl ?_
      rw [hReH.out]
      exact ⟨⟨_, rfl, A, c, B9, d9, by rw [he9], hA.on f3H.out, hT9⟩, f3H.out⟩
    | false =>
      have hRe : R = (((filesF (if k = tk then L else removeF L tk)).map (fun g => if g.1 = k then (tk, x.2.1, x.2.2) else g), O), 0) := hR
      have hReH := Lib.hid hRe
      clear hR hRe
      by_cases hkt : k = tk
      · rw [if_pos hkt] at hReH
        have hq : (k.toList == tk.toList) = true := by rw [hkt]; simp
        have hq2 : (k.toList != tk.toList) = false := by rw [hkt]; simp
        have hFs := Lib.hid (rfiles_any (B := B3) (c := c) (m := O.length) (d := d3) (hA.on hbY) hl1)
        have hL1 := hl1
        clear hRm hkt
        obtain ⟨Y6, hY6⟩ : ∃ Y6, Y6 = Y := ⟨_, rfl⟩
        subst hY6
        have hdY6 := e1
        have hrY6 := hrY
        have hxY6 := hxY
        have hTY6 := hTY
        have hbY6 := hbY
        clear e1 hrY hxY hTY hbY hbw5 hbwX
        go_upto_region 9 with fail
        clear y0 y1
        have hrY6H := Lib.hid hrY6
        have hxY6H := Lib.hid hxY6
        have hTY6H := Lib.hid hTY6
        have hbY6H := Lib.hid hbY6
        have hdY6H := Lib.hid hdY6
        obtain ⟨u0, u1, -, -⟩ := two hdY6
        clear hrY6 hxY6 hTY6 hbY6 hdY6
        go_upto_region 10 with (go_at_call 16; (with_reducible refine (hFs.out).mono ?_); rintro e w7 ⟨⟨vM, rfl, hM⟩, hb7⟩)
        obtain ⟨AM, cM, rfl, -⟩ := hM.files
        have hMlt : ∀ y, (Value.slice AM (filesF L).length cM).ownBlock = some y → Y6.heap.size ≤ y ∧ y < w7.heap.size := fun y hy => World.ownsRow.lt hM y hy
        have hd7 := (hb7.block w.heap.size (some_lt hdY6H.out)).trans hdY6H.out
        obtain ⟨t0, t1, -, -⟩ := two hd7
        go_upto_region 11 with fail
        have hb8 : Below Y6.heap.size Y6 (w7.alloc (.cells #[.slice none 0 0, .slice B3 O.length d3] 25)) := hb7.alloc hb7.size _
        have ho8 := heap_alloc_new w7 (.cells #[.slice none 0 0, .slice B3 O.length d3] 25)
        have hM8 := hM.on (box_below (cs := #[.slice none 0 0, .slice B3 O.length d3]) (t := 25))
        have hs7 := hb7.size
        have hsz8 : w7.heap.size < (w7.alloc (.cells #[.slice none 0 0, .slice B3 O.length d3] 25)).heap.size := by simp
        clear hd7 t0 t1 u0 u1 hb7 hM hFs
        generalize (w7.alloc (.cells #[.slice none 0 0, .slice B3 O.length d3] 25)) = W8 at hb8 ho8 hM8 hsz8 ⊢
        generalize w7.heap.size = go at ho8 hs7 hsz8 hMlt ⊢
        have hgr := some_lt hrY6H.out
        have hgx3 := some_lt hxY6H.out
        have hO0 : Hid (OutX W8 go gx (.slice none 0 0) (.slice B3 O.length d3) [] x.2.1 x.2.2 W8) := Lib.hid ⟨ho8, ⟨_, (hb8.block gx hgx3).trans hxY6H.out⟩, rowF_nil _ _, Only.refl _ _, hsz8, by have := hb8.size; omega, by omega⟩
        have hr8 := Lib.hid ((hb8.block (w.heap.size + 1) hgr).trans hrY6H.out)
        have hT8 := Lib.hid (hTY6H.out.on hb8)
        have hb8H := Lib.hid (hbY6H.out.trans (hb8.mono hbY6H.out.size))
        have hMH := Lib.hid hM8
        have hnM := Lib.hid hMlt
        have hget : Hid (∀ i, i < (filesF L).length → ∃ g, (filesF L)[i]? = some g) := Lib.hid (fun i hi => ⟨_, List.getElem?_eq_getElem hi⟩)
        have hmn : Hid (∀ i g, (filesF L)[i]? = some g → ((filesF L).take (i + 1)).map (fun g => if g.1 = k then (tk, x.2.1, x.2.2) else g) = ((filesF L).take i).map (fun g => if g.1 = k then (tk, x.2.1, x.2.2) else g) ++ [if g.1 = k then (tk, x.2.1, x.2.2) else g]) := Lib.hid (fun i g hg => map_next2 hg k _)
        have htk : Hid ((filesF L).take (filesF L).length = filesF L) := Lib.hid List.take_length
        have hMl : (filesF L).length ≤ 1000000 := Nat.le_trans (files_len L) hl1
        have hlm : Hid (∀ i, (((filesF L).take i).map (fun g => if g.1 = k then (tk, x.2.1, x.2.2) else g)).length ≤ 1000000) := Lib.hid (fun i => by rw [List.length_map, List.length_take]; omega)
        obtain ⟨i0, hi, hz0, hz1, hz2⟩ := info_partsS info_file
        have hN6 := Lib.hid hMl
        clear hM8 ho8 hb8 hMlt hMl hsz8
        generalize filesF L = M at hReH hMH hnM hget hmn htk hlm hN6 ⊢
        generalize hNM : M.length = N at *
        clear hNM
        go_wp2_with fail
        go_loopw [14] (fun s14 wr => ∃ (i : Nat) (v : Value) (Q : List Fl), i ≤ N ∧ s14 = .int .i64 i ∧ Hid (Q = (M.take i).map (fun g => if g.1 = k then (tk, x.2.1, x.2.2) else g)) ∧ Hid (OutX W8 go gx v (.slice B3 O.length d3) Q x.2.1 x.2.2 wr)) (fun s14 _ => N - (intOf s14).toNat)
        case atStart => exact ⟨0, _, [], by omega, rfl, Lib.hid rfl, hO0⟩
        case round =>
          clear hO0
          obtain ⟨i, v, Q, hi1, rfl, hOe, hO⟩ := hrel
          obtain ⟨A0, c0, rfl, -⟩ := hO.out.row.files
          have hMr := hMH.out.only hO.out.only (fun y hy => by have := hnM.out y hy; simp; omega)
          by_cases hil : i < N
          · obtain ⟨g, hg⟩ := hget.out i hil
            obtain ⟨A', c', he, hFA⟩ := hMr.files
            obtain ⟨a, hAe, ha, y0, y1, y2⟩ := hFA i g hg
            obtain rfl : AM = some a := by injection he with e1; rw [e1]; exact hAe
            have hix := run_ixF a i N cM hil
            obtain ⟨z0, z1, z2, z3⟩ := two hO.out.blk
            have hilH := Lib.hid hil
            have dk : decide ((i : Int) < (N : Int)) = true := decide_eq_true (by omega)
            have dk2 : decide (i < N) = true := decide_eq_true hil
            have hwk := wrap_small (x := (i : Int) + 1) (by have := hN6.out; omega)
            have hmi := hmn.out i g hg
            have hli : Q.length ≤ 1000000 := by rw [hOe.out]; exact hlm.out i
            have hos := hO.out.only.size
            clear hg hil hFA hAe ha he hMr hi1
            by_cases hk : g.1 = k
            · have hq : (g.1.toList == k.toList) = true := by rw [hk]; simp
              rw [if_pos hk] at hmi
              have hmiH := Lib.hid hmi
              obtain ⟨nm, hnm⟩ := hO.out.fil
              obtain ⟨f0, f1, f2, f3, f4, f5⟩ := three hnm
              obtain ⟨hO1, hx1⟩ := hO.out.name tk
              have hO1H := Lib.hid hO1
              have hx1H := Lib.hid hx1
              clear hk hmi hnm hO1 hx1
              go_upto_region 16 with fail
              generalize (wr.setCell ⟨gx, 0, none⟩ (.string tk)) = V at hO1H hx1H ⊢
              obtain ⟨p0, p1, p2, -, -, -⟩ := three hx1H.out
              obtain ⟨q0, q1, q2, q3⟩ := two hO1H.out.blk
              have hoxH := Lib.hid ((hO1H.out.on (Y := V.alloc (.cells #[.string tk, .string x.2.1, .int .i64 x.2.2] 39)) box_below).row)
              have hbY := hO1H.out.only.size
              clear f0 f1 f2 f3 f4 f5 z0 z1 z2 z3 y0 y1 y2 hO hix
              go_wp2_with (at_builtin; refine wpList_append_own_at _ rfl (.tmp 60) (.tmp 62) 22 rfl W8.heap.size 39 i0 _ 3 40 Try.underlying22 hi hz0 hz1 hz2 rfl (by decide) (.slice A0 Q.length c0) Q.length (Q.flatMap fcs) rfl hoxH.out ⟨V.heap.size, 0, none⟩ 1 1 [.string tk, .string x.2.1, .int .i64 x.2.2] rfl rfl (one_file V _ _ _) (file_cells _ _ _) (by unfold maxLen; omega) (by omega) (by simp; omega) ?_)
              intro v' w9 hown7 hg7 _ hloc
              obtain ⟨gb, cap, rfl⟩ : ∃ gb cap, v' = .slice (some ⟨gb, 0, none⟩) (Q.length + 1) cap := by
                rcases hown7.2 with ⟨_, h0⟩ | ⟨gb, cap, cur, hv, _⟩
                · omega
                · exact ⟨gb, cap, hv⟩
              obtain ⟨hb7, hO7⟩ := hO1H.out.more box_below hown7 hg7
              obtain ⟨t0, t1, t2, t3⟩ := two hb7
              have hO7H := Lib.hid hO7
              clear hown7 hg7 hb7 hO7 hloc
              go_wp2_with fail
              go_roundw
              case rel => exact ⟨i + 1, _, _, by have := hilH.out; omega, by go_num, Lib.hid (by rw [hmiH.out, ← hOe.out]), hO7H⟩
              case measure => have := hilH.out; simp [intOf]; omega
            · have hq : (g.1.toList == k.toList) = false := key_ne hk
              rw [if_neg hk] at hmi
              have hmiH := Lib.hid hmi
              clear hk hmi
              have hoxH := Lib.hid ((hO.out.on (Y := wr.alloc (.cells #[.string g.1, .string g.2.1, .int .i64 g.2.2] 39)) box_below).row)
              have hbY := hO.out.only.size
              go_upto_region 17 with fail
              have q4 : (wr.alloc (.cells #[.string g.1, .string g.2.1, .int .i64 g.2.2] 39)).cell? ⟨go, 0, none⟩ = some (.slice A0 Q.length c0) := (box_below.cell (p := ⟨go, 0, none⟩) (some_lt hO.out.blk)).trans z0
              go_region_law (refine step_append_lies _ rfl (.tmp 66) (.tmp 71) 22 rfl W8.heap.size 39 i0 _ 3 40 Try.underlying22 hi hz0 hz1 hz2 rfl (by decide) (.slice A0 Q.length c0) Q.length (Q.flatMap fcs) (by simp [Act.eval]) hoxH.out ⟨wr.heap.size, 0, none⟩ 1 1 [.string g.1, .string g.2.1, .int .i64 g.2.2] (by simp [Act.eval]) rfl (one_file wr _ _ _) (file_cells _ _ _) (by decide) (by unfold maxLen; omega) (by omega) (by simp; omega) _ rfl ?_; intro gb cap w9 hown7 hg7 hat hlt7; obtain ⟨hb7, hO7⟩ := hO.out.more (box_below.drew) hown7 hg7; obtain ⟨t0, t1, t2, t3⟩ := two hb7; have hO7H := Lib.hid hO7; clear hown7 hg7 hb7 hO7 hat)
              all_goals go_wp2_with fail
              all_goals exact ⟨⟨i + 1, _, _, by have := hilH.out; omega, by go_num, Lib.hid (by rw [hmiH.out, ← hOe.out]), hO7H⟩, by have := hilH.out; simp [intOf]; omega⟩
          · have hin : N = i := by omega
            subst hin
            have dk : decide ((N : Int) < (N : Int)) = false := decide_eq_false (by omega)
            have dk2 : decide (N < N) = false := decide_eq_false (by omega)
            have hQ : Hid (R = ((Q, O), 0)) := Lib.hid (by rw [hReH.out, hOe.out, htk.out])
            have k3r := hO.out.only.keep hr8.out (by simp; omega)
            obtain ⟨r0, r1, r2, r3⟩ := two k3r
            obtain ⟨z0, z1, z2, z3⟩ := two hO.out.blk
            have hbw : Below w.heap.size w wr := hb8H.out.trans (hO.out.only.below hb8H.out.size (fun y hy => by have := hbY6H.out.size; simp at hy; omega))
            obtain ⟨f1, f2, f3⟩ := fin2 k3r hbw (by omega) (.slice A0 Q.length c0) (.slice B3 O.length d3)
            have f1H := Lib.hid f1
            have f3H := Lib.hid f3
            have hF9 := Lib.hid (hO.out.row.only f2 (fun y hy => by have := (World.ownsRow.lt hO.out.row y hy).1; have := some_lt hr8.out; simp; omega))
            have hT9 := Lib.hid ((hT8.out.only hO.out.only (fun y hy => by have := World.ownsRow.lt hTY6H.out y hy; simp; omega)).only f2 (fun y hy => by have := World.ownsRow.lt hTY6H.out y hy; simp; omega))
            clear hil hMr k3r f1 f2 f3 hbw
            go_wp2_with fail
            obtain ⟨q0, q1, -, -⟩ := two f1H.out
            obtain ⟨A9, c9, he9, hF9'⟩ := hF9.out.files
            obtain ⟨B9, d9, he9', hT9'⟩ := hT9.out.faults
            refine bodyPost_ret (v := .tuple #[.agg #[.slice A0 Q.length c0, .slice B3 O.length d3], .int .i64 0]) (by simp [results, Try.results27, go_sem, q0, q1]) rfl ?_
            rw [hQ.out]
            exact ⟨⟨_, rfl, A9, c9, B9, d9, by rw [he9, he9'], hF9', hT9'⟩, f3H.out⟩
      · rw [if_neg hkt] at hReH
        have hq : (k.toList == tk.toList) = false := key_ne hkt
        have hq2 : (k.toList != tk.toList) = true := by simpa using hq
        have hRmY := Lib.hid (hRm.out Y hbY B3 d3)
        clear hRm hkt
        go_upto_region 9 with (go_at_call 28; (with_reducible refine (hRmY.out).mono ?_); rintro e w6 ⟨⟨v6, rfl, hR6⟩, hb6⟩; obtain ⟨A6, c6, rfl, -⟩ := hR6.files; have hd6 := (hb6.block w.heap.size (some_lt e1)).trans e1; obtain ⟨p0, p1, p2, p3⟩ := two hd6)
        have hbw6 := hbY.trans (hb6.mono hbY.size)
        obtain ⟨f1, f2, f3⟩ := fin2 hd6 hbw6 (Nat.le_refl _) (.slice A6 (removeF L tk).length c6) (.slice B3 O.length d3)
        have hrY6 := f2.keep ((hb6.block (w.heap.size + 1) (some_lt hrY)).trans hrY) (by simp)
        have hxY6 := f2.keep ((hb6.block gx (some_lt hxY)).trans hxY) (by simp; omega)
        have hTY6 := (hTY.on hb6).only f2 (fun y hy => by have := (World.ownsRow.lt hTY y hy).1; simp; omega)
        have hRY6 := hR6.only f2 (fun y hy => by have := (World.ownsRow.lt hR6 y hy).1; have := some_lt e1; simp; omega)
        obtain ⟨A7, c7, he7, hF7⟩ := hRY6.files
        have e7 := he7
        injection e7 with e8 _ e9
        subst e8
        subst e9
        clear he7
        have hL1 : (removeF L tk).length ≤ 1000000 := Nat.le_trans (remove_len L tk) hl1
        have hFs := Lib.hid (rfiles_any (B := B3) (c := c6) (m := O.length) (d := d3) hF7 hL1)
        have hdY6 := f1
        have hbY6 := f3
        clear f1 f2 f3 hd6 p0 p1 p2 p3 e1 hrY hxY hTY hbY hbw5 hbwX hb6 hbw6 hR6 hRmY hRY6 hF7 y0 y1
        generalize ((w6.setCell ⟨w.heap.size, 0, none⟩ (.slice A6 (removeF L tk).length c6)).setCell ⟨w.heap.size, 1, none⟩ (.slice B3 O.length d3)) = Y6 at hdY6 hrY6 hxY6 hTY6 hbY6 hFs ⊢
        have hrY6H := Lib.hid hrY6
        have hxY6H := Lib.hid hxY6
        have hTY6H := Lib.hid hTY6
        have hbY6H := Lib.hid hbY6
        have hdY6H := Lib.hid hdY6
        obtain ⟨u0, u1, -, -⟩ := two hdY6
        clear hrY6 hxY6 hTY6 hbY6 hdY6
        go_upto_region 10 with (go_at_call 16; (with_reducible refine (hFs.out).mono ?_); rintro e w7 ⟨⟨vM, rfl, hM⟩, hb7⟩)
        obtain ⟨AM, cM, rfl, -⟩ := hM.files
        have hMlt : ∀ y, (Value.slice AM (filesF (removeF L tk)).length cM).ownBlock = some y → Y6.heap.size ≤ y ∧ y < w7.heap.size := fun y hy => World.ownsRow.lt hM y hy
        have hd7 := (hb7.block w.heap.size (some_lt hdY6H.out)).trans hdY6H.out
        obtain ⟨t0, t1, -, -⟩ := two hd7
        go_upto_region 11 with fail
        have hb8 : Below Y6.heap.size Y6 (w7.alloc (.cells #[.slice none 0 0, .slice B3 O.length d3] 25)) := hb7.alloc hb7.size _
        have ho8 := heap_alloc_new w7 (.cells #[.slice none 0 0, .slice B3 O.length d3] 25)
        have hM8 := hM.on (box_below (cs := #[.slice none 0 0, .slice B3 O.length d3]) (t := 25))
        have hs7 := hb7.size
        have hsz8 : w7.heap.size < (w7.alloc (.cells #[.slice none 0 0, .slice B3 O.length d3] 25)).heap.size := by simp
        clear hd7 t0 t1 u0 u1 hb7 hM hFs
        generalize (w7.alloc (.cells #[.slice none 0 0, .slice B3 O.length d3] 25)) = W8 at hb8 ho8 hM8 hsz8 ⊢
        generalize w7.heap.size = go at ho8 hs7 hsz8 hMlt ⊢
        have hgr := some_lt hrY6H.out
        have hgx3 := some_lt hxY6H.out
        have hO0 : Hid (OutX W8 go gx (.slice none 0 0) (.slice B3 O.length d3) [] x.2.1 x.2.2 W8) := Lib.hid ⟨ho8, ⟨_, (hb8.block gx hgx3).trans hxY6H.out⟩, rowF_nil _ _, Only.refl _ _, hsz8, by have := hb8.size; omega, by omega⟩
        have hr8 := Lib.hid ((hb8.block (w.heap.size + 1) hgr).trans hrY6H.out)
        have hT8 := Lib.hid (hTY6H.out.on hb8)
        have hb8H := Lib.hid (hbY6H.out.trans (hb8.mono hbY6H.out.size))
        have hMH := Lib.hid hM8
        have hnM := Lib.hid hMlt
        have hget : Hid (∀ i, i < (filesF (removeF L tk)).length → ∃ g, (filesF (removeF L tk))[i]? = some g) := Lib.hid (fun i hi => ⟨_, List.getElem?_eq_getElem hi⟩)
        have hmn : Hid (∀ i g, (filesF (removeF L tk))[i]? = some g → ((filesF (removeF L tk)).take (i + 1)).map (fun g => if g.1 = k then (tk, x.2.1, x.2.2) else g) = ((filesF (removeF L tk)).take i).map (fun g => if g.1 = k then (tk, x.2.1, x.2.2) else g) ++ [if g.1 = k then (tk, x.2.1, x.2.2) else g]) := Lib.hid (fun i g hg => map_next2 hg k _)
        have htk : Hid ((filesF (removeF L tk)).take (filesF (removeF L tk)).length = filesF (removeF L tk)) := Lib.hid List.take_length
        have hMl : (filesF (removeF L tk)).length ≤ 1000000 := Nat.le_trans (files_len (removeF L tk)) hL1
        have hlm : Hid (∀ i, (((filesF (removeF L tk)).take i).map (fun g => if g.1 = k then (tk, x.2.1, x.2.2) else g)).length ≤ 1000000) := Lib.hid (fun i => by rw [List.length_map, List.length_take]; omega)
        obtain ⟨i0, hi, hz0, hz1, hz2⟩ := info_partsS info_file
        have hN6 := Lib.hid hMl
        clear hM8 ho8 hb8 hMlt hMl hsz8
        generalize filesF (removeF L tk) = M at hReH hMH hnM hget hmn htk hlm hN6 ⊢
        generalize hNM : M.length = N at *
        clear hNM
        go_wp2_with fail
        go_loopw [14] (fun s14 wr => ∃ (i : Nat) (v : Value) (Q : List Fl), i ≤ N ∧ s14 = .int .i64 i ∧ Hid (Q = (M.take i).map (fun g => if g.1 = k then (tk, x.2.1, x.2.2) else g)) ∧ Hid (OutX W8 go gx v (.slice B3 O.length d3) Q x.2.1 x.2.2 wr)) (fun s14 _ => N - (intOf s14).toNat)
        case atStart => exact ⟨0, _, [], by omega, rfl, Lib.hid rfl, hO0⟩
        case round =>
          clear hO0
          obtain ⟨i, v, Q, hi1, rfl, hOe, hO⟩ := hrel
          obtain ⟨A0, c0, rfl, -⟩ := hO.out.row.files
          have hMr := hMH.out.only hO.out.only (fun y hy => by have := hnM.out y hy; simp; omega)
          by_cases hil : i < N
          · obtain ⟨g, hg⟩ := hget.out i hil
            obtain ⟨A', c', he, hFA⟩ := hMr.files
            obtain ⟨a, hAe, ha, y0, y1, y2⟩ := hFA i g hg
            obtain rfl : AM = some a := by injection he with e1; rw [e1]; exact hAe
            have hix := run_ixF a i N cM hil
            obtain ⟨z0, z1, z2, z3⟩ := two hO.out.blk
            have hilH := Lib.hid hil
            have dk : decide ((i : Int) < (N : Int)) = true := decide_eq_true (by omega)
            have dk2 : decide (i < N) = true := decide_eq_true hil
            have hwk := wrap_small (x := (i : Int) + 1) (by have := hN6.out; omega)
            have hmi := hmn.out i g hg
            have hli : Q.length ≤ 1000000 := by rw [hOe.out]; exact hlm.out i
            have hos := hO.out.only.size
            clear hg hil hFA hAe ha he hMr hi1
            by_cases hk : g.1 = k
            · have hq : (g.1.toList == k.toList) = true := by rw [hk]; simp
              rw [if_pos hk] at hmi
              have hmiH := Lib.hid hmi
              obtain ⟨nm, hnm⟩ := hO.out.fil
              obtain ⟨f0, f1, f2, f3, f4, f5⟩ := three hnm
              obtain ⟨hO1, hx1⟩ := hO.out.name tk
              have hO1H := Lib.hid hO1
              have hx1H := Lib.hid hx1
              clear hk hmi hnm hO1 hx1
              go_upto_region 16 with fail
              generalize (wr.setCell ⟨gx, 0, none⟩ (.string tk)) = V at hO1H hx1H ⊢
              obtain ⟨p0, p1, p2, -, -, -⟩ := three hx1H.out
              obtain ⟨q0, q1, q2, q3⟩ := two hO1H.out.blk
              have hoxH := Lib.hid ((hO1H.out.on (Y := V.alloc (.cells #[.string tk, .string x.2.1, .int .i64 x.2.2] 39)) box_below).row)
              have hbY := hO1H.out.only.size
              clear f0 f1 f2 f3 f4 f5 z0 z1 z2 z3 y0 y1 y2 hO hix
              go_wp2_with (at_builtin; refine wpList_append_own_at _ rfl (.tmp 60) (.tmp 62) 22 rfl W8.heap.size 39 i0 _ 3 40 Try.underlying22 hi hz0 hz1 hz2 rfl (by decide) (.slice A0 Q.length c0) Q.length (Q.flatMap fcs) rfl hoxH.out ⟨V.heap.size, 0, none⟩ 1 1 [.string tk, .string x.2.1, .int .i64 x.2.2] rfl rfl (one_file V _ _ _) (file_cells _ _ _) (by unfold maxLen; omega) (by omega) (by simp; omega) ?_)
              intro v' w9 hown7 hg7 _ hloc
              obtain ⟨gb, cap, rfl⟩ : ∃ gb cap, v' = .slice (some ⟨gb, 0, none⟩) (Q.length + 1) cap := by
                rcases hown7.2 with ⟨_, h0⟩ | ⟨gb, cap, cur, hv, _⟩
                · omega
                · exact ⟨gb, cap, hv⟩
              obtain ⟨hb7, hO7⟩ := hO1H.out.more box_below hown7 hg7
              obtain ⟨t0, t1, t2, t3⟩ := two hb7
              have hO7H := Lib.hid hO7
              clear hown7 hg7 hb7 hO7 hloc
              go_wp2_with fail
              go_roundw
              case rel => exact ⟨i + 1, _, _, by have := hilH.out; omega, by go_num, Lib.hid (by rw [hmiH.out, ← hOe.out]), hO7H⟩
              case measure => have := hilH.out; simp [intOf]; omega
            · have hq : (g.1.toList == k.toList) = false := key_ne hk
              rw [if_neg hk] at hmi
              have hmiH := Lib.hid hmi
              clear hk hmi
              have hoxH := Lib.hid ((hO.out.on (Y := wr.alloc (.cells #[.string g.1, .string g.2.1, .int .i64 g.2.2] 39)) box_below).row)
              have hbY := hO.out.only.size
              go_upto_region 17 with fail
              have q4 : (wr.alloc (.cells #[.string g.1, .string g.2.1, .int .i64 g.2.2] 39)).cell? ⟨go, 0, none⟩ = some (.slice A0 Q.length c0) := (box_below.cell (p := ⟨go, 0, none⟩) (some_lt hO.out.blk)).trans z0
              go_region_law (refine step_append_lies _ rfl (.tmp 66) (.tmp 71) 22 rfl W8.heap.size 39 i0 _ 3 40 Try.underlying22 hi hz0 hz1 hz2 rfl (by decide) (.slice A0 Q.length c0) Q.length (Q.flatMap fcs) (by simp [Act.eval]) hoxH.out ⟨wr.heap.size, 0, none⟩ 1 1 [.string g.1, .string g.2.1, .int .i64 g.2.2] (by simp [Act.eval]) rfl (one_file wr _ _ _) (file_cells _ _ _) (by decide) (by unfold maxLen; omega) (by omega) (by simp; omega) _ rfl ?_; intro gb cap w9 hown7 hg7 hat hlt7; obtain ⟨hb7, hO7⟩ := hO.out.more (box_below.drew) hown7 hg7; obtain ⟨t0, t1, t2, t3⟩ := two hb7; have hO7H := Lib.hid hO7; clear hown7 hg7 hb7 hO7 hat)
              all_goals go_wp2_with fail
              all_goals exact ⟨⟨i + 1, _, _, by have := hilH.out; omega, by go_num, Lib.hid (by rw [hmiH.out, ← hOe.out]), hO7H⟩, by have := hilH.out; simp [intOf]; omega⟩
          · have hin : N = i := by omega
            subst hin
            have dk : decide ((N : Int) < (N : Int)) = false := decide_eq_false (by omega)
            have dk2 : decide (N < N) = false := decide_eq_false (by omega)
            have hQ : Hid (R = ((Q, O), 0)) := Lib.hid (by rw [hReH.out, hOe.out, htk.out])
            have k3r := hO.out.only.keep hr8.out (by simp; omega)
            obtain ⟨r0, r1, r2, r3⟩ := two k3r
            obtain ⟨z0, z1, z2, z3⟩ := two hO.out.blk
            have hbw : Below w.heap.size w wr := hb8H.out.trans (hO.out.only.below hb8H.out.size (fun y hy => by have := hbY6H.out.size; simp at hy; omega))
            obtain ⟨f1, f2, f3⟩ := fin2 k3r hbw (by omega) (.slice A0 Q.length c0) (.slice B3 O.length d3)
            have f1H := Lib.hid f1
            have f3H := Lib.hid f3
            have hF9 := Lib.hid (hO.out.row.only f2 (fun y hy => by have := (World.ownsRow.lt hO.out.row y hy).1; have := some_lt hr8.out; simp; omega))
            have hT9 := Lib.hid ((hT8.out.only hO.out.only (fun y hy => by have := World.ownsRow.lt hTY6H.out y hy; simp; omega)).only f2 (fun y hy => by have := World.ownsRow.lt hTY6H.out y hy; simp; omega))
            clear hil hMr k3r f1 f2 f3 hbw
            go_wp2_with fail
            obtain ⟨q0, q1, -, -⟩ := two f1H.out
            obtain ⟨A9, c9, he9, hF9'⟩ := hF9.out.files
            obtain ⟨B9, d9, he9', hT9'⟩ := hT9.out.faults
            refine bodyPost_ret (v := .tuple #[.agg #[.slice A0 Q.length c0, .slice B3 O.length d3], .int .i64 0]) (by simp [results, Try.results27, go_sem, q0, q1]) rfl ?_
            rw [hQ.out]
            exact ⟨⟨_, rfl, A9, c9, B9, d9, by rw [he9, he9'], hF9', hT9'⟩, f3H.out⟩
end Go.Proofs.Ythdgfchmglkpaaa
