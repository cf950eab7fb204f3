/-
  A disk's row of files as it is made anew in a variable (OutF); the document's with. Premise: rows have lengths that Go's own rows have.
-/
import Derived.Test.YthdgfchmglkpaaaChecked
import Derived.Test.YthdgfchmglkpaaaMath
import Derived.Test.YthdgfchmglkpaaaA
import Derived.Test.YthdgfchmglkpaaaB
import Derived.Test.YthdgfchmglkpaaaC
import Derived.WalkKit
import Derived.WalkSpells
import Derived.WalkLawsBesides
import Derived.Deep.QuietTactic
import Derived.BigQuiet
import Derived.Lib.Hide
import Derived.Lib.SmallJoins
import Derived.Outline
import Derived.OwnWalk
import Derived.Deep.CutBlock
import Derived.BigRegion
import Derived.StillTailTactics
import Derived.Laws.AppendOwnNone
import Derived.Maps.AppendAt
import Derived.Deep.RegionLaw
import Derived.Deep.RegionHeld3
import Derived.Lib.BufferRead
import Derived.Deep.AppendLies
namespace Go.Proofs.Ythdgfchmglkpaaa
open Go.RowKit
theorem of_below {w w' : World} (h : Below w.heap.size w w') : Only [] w w' := ⟨h.mono (Nat.zero_le _), fun k hk _ => h.block k hk⟩
theorem RowF.only {w w' : World} {base : Nat} {v : Value} {L : List Fl} {O : List Nat} (h : RowF w base v L) (ho : Only O w w') (hO : ∀ k, v.ownBlock = some k → k ∉ O) : RowF w' base v L := by
  obtain ⟨h1, ⟨rfl, h2⟩ | ⟨g, cap, cur, rfl, h3, h4, h5⟩⟩ := h
  · exact ⟨h1, Or.inl ⟨rfl, h2⟩⟩
  · exact ⟨h1, Or.inr ⟨g, cap, cur, rfl, h3, ho.keep h4 (hO g rfl), h5⟩⟩
/-- A variable g that holds a disk whose files are a row of one's own, made since the world w0; nothing else is written. -/
structure OutF (w0 : World) (g : Nat) (v fv : Value) (O : List Fl) (X : World) : Prop where
  blk : X.heap[g]? = some (.cells #[v, fv] 25 (0, 0))
  row : RowF X w0.heap.size v O
  only : Only [g] w0 X
  lt : g < w0.heap.size
theorem OutF.on {w0 X Y : World} {g : Nat} {v fv : Value} {O : List Fl} (h : OutF w0 g v fv O X) (hb : Below X.heap.size X Y) : OutF w0 g v fv O Y :=
  ⟨(hb.block g (some_lt h.blk)).trans h.blk, h.row.on hb, h.only.trans (of_below hb) (by simp), h.lt⟩
/-- What an append to the row, stored back, leaves. -/
theorem OutF.more {w0 X Y Z : World} {g gb cap : Nat} {v fv : Value} {O : List Fl} {x y : ByteArray} {z : Int} (h : OutF w0 g v fv O X) (hb : Below X.heap.size X Y)
    (hown : Z.ownsRow w0.heap.size 39 3 (.slice (some ⟨gb, 0, none⟩) (O.length + 1) cap) (O.length + 1) (O.flatMap fcs ++ [.string x, .string y, .int .i64 z])) (hg : Y.grownBy Z v.ownBlock) :
    Z.heap[g]? = some (.cells #[v, fv] 25 (0, 0)) ∧ OutF w0 g (.slice (some ⟨gb, 0, none⟩) (O.length + 1) cap) fv (O ++ [(x, y, z)]) (Z.setCell ⟨g, 0, none⟩ (.slice (some ⟨gb, 0, none⟩) (O.length + 1) cap)) := by
  have h2 := h.on hb
  have hlt := some_lt h2.blk
  have hb1 : Z.heap[g]? = some (.cells #[v, fv] 25 (0, 0)) := by rw [hg.block g hlt (fun e => by have := (World.ownsRow.lt h2.row g e.symm).1; have := h.lt; omega)]; exact h2.blk
  have hne : (Value.slice (some ⟨gb, 0, none⟩) (O.length + 1) cap).ownBlock ≠ some g := by
    intro e2
    have := (World.ownsRow.lt hown g e2).1
    have := h.lt
    omega
  have ho : Only [g] w0 Z := h2.only.trans (grown_only hg) (fun k hk => Or.inr ((World.ownsRow.lt h2.row k (by simpa using hk)).1))
  refine ⟨hb1, by simp [World.setCell, Array.getElem?_modify, hb1], ?_, ho.set (Or.inl (by simp)) _, h.lt⟩
  refine RowF.snoc (World.ownsRow.kept hown (row := some g) ?_ (Or.inr hne))
  have hk : Below 0 Z (Z.setCell ⟨g, 0, none⟩ (.slice (some ⟨gb, 0, none⟩) (O.length + 1) cap)) := (Below.refl 0 Z).setCell (p := ⟨g, 0, none⟩) (Nat.zero_le _) _
  exact ⟨hk.os, hk.tape, hk.output, hk.size, fun k _ hn => Below.heap_setCell _ _ _ _ (fun e => hn (by rw [e]))⟩
theorem OutF.done {w w0 X : World} {g gr : Nat} {v fv : Value} {O : List Fl} (h : OutF w0 g v fv O X) (hb : Below w.heap.size w w0) (hg : w.heap.size ≤ g) (h1 : w.heap.size ≤ gr) (h2 : gr < w0.heap.size) (v0 v1 : Value) :
    RowF ((X.setCell ⟨gr, 0, none⟩ v0).setCell ⟨gr, 1, none⟩ v1) w.heap.size v O ∧ Below w.heap.size w ((X.setCell ⟨gr, 0, none⟩ v0).setCell ⟨gr, 1, none⟩ v1) := by
  constructor
  · exact (h.row.only (((Only.refl [gr] X).set (p := ⟨gr, 0, none⟩) (Or.inl (by simp)) v0).set (p := ⟨gr, 1, none⟩) (Or.inl (by simp)) v1) (fun k hk => by have := (World.ownsRow.lt h.row k hk).1; simp; omega)).base hb.size
  · exact below_set2 (hb.trans (h.only.below hb.size (fun k hk => by rw [List.mem_singleton.1 hk]; exact hg))) h1 v0 v1
theorem four (w : World) (o1 o2 o3 o4 : Obj) : ∃ W, W = (((w.alloc o1).alloc o2).alloc o3).alloc o4 ∧ W.heap[w.heap.size]? = some o1 ∧ W.heap[w.heap.size + 1]? = some o2 ∧ W.heap[w.heap.size + 1 + 1]? = some o3 ∧ W.heap[w.heap.size + 1 + 1 + 1]? = some o4 ∧ Below w.heap.size w W ∧ W.heap.size = w.heap.size + 4 := by
  refine ⟨_, rfl, ?_, ?_, ?_, ?_, ?_, by simp⟩
  · rw [Below.heap_alloc _ _ _ (by simp; try omega), Below.heap_alloc _ _ _ (by simp; try omega), Below.heap_alloc _ _ _ (by simp)]
    exact heap_alloc_new w o1
  · rw [Below.heap_alloc _ _ _ (by simp; try omega), Below.heap_alloc _ _ _ (by simp), show w.heap.size + 1 = (w.alloc o1).heap.size by simp]
    exact heap_alloc_new _ o2
  · rw [Below.heap_alloc _ _ _ (by simp), show w.heap.size + 1 + 1 = ((w.alloc o1).alloc o2).heap.size by simp]
    exact heap_alloc_new _ o3
  · rw [show w.heap.size + 1 + 1 + 1 = (((w.alloc o1).alloc o2).alloc o3).heap.size by simp]
    exact heap_alloc_new _ o4
  · exact ((((Below.refl _ _).alloc (Nat.le_refl _) _).alloc (by simp) _).alloc (by simp; try omega) _).alloc (by simp; try omega) _
theorem with_none {M : List Fl} {k : ByteArray} (f : Fl) (h : hasF M k = false) : M.map (fun g => if g.1 = k then f else g) = M := by
  conv => rhs; rw [← List.map_id M]
  refine List.map_congr_left (fun g hg => ?_)
  rw [if_neg (fun e => has_no (by rw [h]; decide) (List.mem_map.2 ⟨g, hg, e⟩))]
  rfl
theorem map_next {M : List Fl} {i : Nat} {g : Fl} (h : M[i]? = some g) (f : Fl) : (M.take (i + 1)).map (fun g => if g.1 = f.1 then f else g) = (M.take i).map (fun g => if g.1 = f.1 then f else g) ++ [if g.1 = f.1 then f else g] := by
  rw [List.take_add_one, h, List.map_append]
  rfl
set_option maxRecDepth 100000 in
set_option maxHeartbeats 8000000 in
theorem rwith_any {w : World} {A B : Option Addr} {c m d : Nat} {L : List Fl} (f : Fl) (h : FilesAt w A L) (hl : L.length ≤ 1000000) :
    Calls Try.prog 46 #[.agg #[.slice A L.length c, .slice B m d], .agg #[.string f.1, .string f.2.1, .int .i64 f.2.2]] w fun r w' => (∃ v, r = .returned (.agg #[v, .slice B m d]) ∧ RowF w' w.heap.size v (withF L f)) ∧ Below w.heap.size w w' := by
  obtain ⟨W4, hW4, k1, k2, k3, k4, kb, ks⟩ := four w (.cells #[.slice A L.length c, .slice B m d] 25) (.cells #[.string f.1, .string f.2.1, .int .i64 f.2.2] 39) (.cells #[.slice none 0 0, .slice none 0 0] 25) (.cells #[.slice none 0 0, .slice B m d] 25)
  have hFs := Lib.hid (rfiles_any (B := B) (c := c) (m := m) (d := d) (h.on kb) hl)
  have hflM := Lib.hid (Nat.le_trans (files_len L) hl)
  have hwF : Hid (withF L f = if hasF (filesF L) f.1 = true then (filesF L).map (fun g => if g.1 = f.1 then f else g) else filesF L ++ [f]) := Lib.hid rfl
  obtain ⟨R, hR⟩ : ∃ R, R = withF L f := ⟨_, rfl⟩
  rw [← hR] at hwF ⊢
  clear h hR
  generalize filesF L = M at hFs hflM hwF
  generalize L.length = n at *
  go_enter Try.func46, Try.ntmps46
  go_upto_region 2 with fail
  rw [← hW4]
  obtain ⟨x0, x1, -, -⟩ := two k1
  have kbH := Lib.hid kb
  have k1H := Lib.hid k1
  have k2H := Lib.hid k2
  have k3H := Lib.hid k3
  have k4H := Lib.hid k4
  clear hW4 kb k1 k2 k3 k4
  go_upto_region 4 with (go_at_call 16; (with_reducible refine (hFs.out).mono ?_); rintro e w5 ⟨⟨vM, rfl, hM⟩, hb5⟩)
  have hs5 := hb5.size
  have hO0 : Hid (OutF w5 (w.heap.size + 1 + 1 + 1) (.slice none 0 0) (.slice B m d) [] w5) := Lib.hid ⟨(hb5.block _ (by omega)).trans k4H.out, rowF_nil _ _, Only.refl _ _, by omega⟩
  have hMH := Lib.hid hM
  obtain ⟨AM, cM, rfl, -⟩ := hM.files
  have k2w := Lib.hid ((hb5.block (w.heap.size + 1) (by omega)).trans k2H.out)
  have k3w := Lib.hid ((hb5.block (w.heap.size + 1 + 1) (by omega)).trans k3H.out)
  have kbwH := Lib.hid (kbH.out.trans (hb5.mono kbH.out.size))
  have hnM : Hid (∀ k, (Value.slice AM M.length cM).ownBlock = some k → W4.heap.size ≤ k) := Lib.hid (fun k hk => (World.ownsRow.lt hM k hk).1)
  have hget : Hid (∀ i, i < M.length → ∃ g, M[i]? = some g) := Lib.hid (fun i hi => ⟨_, List.getElem?_eq_getElem hi⟩)
  have hmn : Hid (∀ i g, M[i]? = some g → (M.take (i + 1)).map (fun g => if g.1 = f.1 then f else g) = (M.take i).map (fun g => if g.1 = f.1 then f else g) ++ [if g.1 = f.1 then f else g]) := Lib.hid (fun i g hg => map_next hg f)
  have hhn : Hid (∀ i g, M[i]? = some g → hasF (M.take (i + 1)) f.1 = (hasF (M.take i) f.1 || decide (g.1 = f.1))) := Lib.hid (fun i g hg => has_next hg f.1)
  have htk : Hid (M.take M.length = M) := Lib.hid List.take_length
  have hlm : Hid (∀ i, ((M.take i).map (fun g => if g.1 = f.1 then f else g)).length ≤ 1000000) := Lib.hid (fun i => by rw [List.length_map, List.length_take]; have := hflM.out; omega)
  obtain ⟨i0, hi, hz0, hz1, hz2⟩ := info_partsS info_file
  clear x0 x1 hFs k1H k2H k3H k4H hb5 hM
  generalize hNM : M.length = N at *
  have hNMH := Lib.hid hNM
  clear hNM
  go_wp2_with fail
  go_loopw [7, 8] (fun s7 s8 wr => ∃ (i : Nat) (v : Value) (O : List Fl), i ≤ N ∧ s8 = .int .i64 i ∧ s7 = .bool (hasF (M.take i) f.1) ∧ Hid (O = (M.take i).map (fun g => if g.1 = f.1 then f else g)) ∧ Hid (OutF w5 (w.heap.size + 1 + 1 + 1) v (.slice B m d) O wr)) (fun _ s8 _ => N - (intOf s8).toNat)
  case atStart => exact ⟨0, _, [], by omega, rfl, rfl, Lib.hid rfl, hO0⟩
  case round =>
    clear hO0
    obtain ⟨i, v, O, hi1, rfl, rfl, hOe, hO⟩ := hrel
    obtain ⟨A0, c0, rfl, -⟩ := hO.out.row.files
    have hfb := Lib.hid (hO.out.only.keep k2w.out (by simp))
    have hMr := hMH.out.only hO.out.only (fun k hk => by have := hnM.out k hk; simp; omega)
    by_cases hil : i < N
    · obtain ⟨g, hg⟩ := hget.out i hil
      obtain ⟨A', c', he, hFA⟩ := hMr.files
      obtain ⟨a, hAe, ha, y0, y1, y2⟩ := hFA i g hg
      obtain rfl : AM = some a := by injection he with e1; rw [e1]; exact hAe
      have hix := run_ixF a i N cM hil
      obtain ⟨x0, x1, x2, -, -, -⟩ := three hfb.out
      obtain ⟨z0, z1, z2, z3⟩ := two hO.out.blk
      have hilH := Lib.hid hil
      have dk : decide ((i : Int) < (N : Int)) = true := decide_eq_true (by omega)
      have dk2 : decide (i < N) = true := decide_eq_true hil
      have hwk := wrap_small (x := (i : Int) + 1) (by have := hflM.out; omega)
      have hmi := hmn.out i g hg
      have hhi := hhn.out i g hg
      have hli : O.length ≤ 1000000 := by rw [hOe.out]; exact hlm.out i
      have hos := hO.out.only.size
      clear hg hil hFA hAe ha he hMr hi1
      by_cases hk : g.1 = f.1
      · have hq : (g.1.toList == f.1.toList) = true := by rw [hk]; simp
        rw [if_pos hk] at hmi
        rw [decide_eq_true hk, Bool.or_true] at hhi
        have hmiH := Lib.hid hmi
        have hhiH := Lib.hid hhi
        clear hk hmi hhi
        go_wp2_with fail
        go_quiet (fail)
        obtain ⟨Y, hY⟩ : ∃ Y, Y = wr.drewN nq := ⟨_, rfl⟩
        rw [← hY]
        have hOY := Lib.hid (show OutF w5 (w.heap.size + 1 + 1 + 1) (.slice A0 O.length c0) (.slice B m d) O Y by rw [hY]; exact hO.out.on (below_drewN (Below.refl _ _) _))
        have hfY := hOY.out.only.keep k2w.out (by simp)
        obtain ⟨p0, p1, p2, -, -, -⟩ := three hfY
        obtain ⟨q0, q1, q2, q3⟩ := two hOY.out.blk
        have hoxH := Lib.hid ((hOY.out.on (Y := Y.alloc (.cells #[.string f.1, .string f.2.1, .int .i64 f.2.2] 39)) box_below).row)
        have hbY := hOY.out.only.size
        clear hY x0 x1 x2 z0 z1 z2 z3 y0 y1 y2 hO hix dk dk2
        go_wp2_with (at_builtin; refine wpList_append_own_at _ rfl (.tmp 29) (.tmp 31) 22 rfl w5.heap.size 39 i0 _ 3 40 Try.underlying22 hi hz0 hz1 hz2 rfl (by decide) (.slice A0 O.length c0) O.length (O.flatMap fcs) rfl hoxH.out ⟨Y.heap.size, 0, none⟩ 1 1 [.string f.1, .string f.2.1, .int .i64 f.2.2] rfl rfl (one_file Y _ _ _) (file_cells _ _ _) (by unfold maxLen; omega) (by omega) (by simp; omega) ?_)
        intro v' w7 hown7 hg7 _ hloc
        obtain ⟨gb, cap, rfl⟩ : ∃ gb cap, v' = .slice (some ⟨gb, 0, none⟩) (O.length + 1) cap := by
          rcases hown7.2 with ⟨_, h0⟩ | ⟨gb, cap, cur, hv, _⟩
          · omega
          · exact ⟨gb, cap, hv⟩
        obtain ⟨hb7, hO7⟩ := hOY.out.more box_below hown7 hg7
        obtain ⟨t0, t1, t2, t3⟩ := two hb7
        have hO7H := Lib.hid hO7
        clear hown7 hg7 hb7 hO7 hloc
        go_wp2_with fail
        go_roundw
        case rel => exact ⟨i + 1, _, _, by have := hilH.out; omega, by go_num, by rw [hhiH.out], Lib.hid (by rw [hmiH.out, ← hOe.out]), hO7H⟩
        case measure => have := hilH.out; simp [intOf]; omega
      · have hq : (g.1.toList == f.1.toList) = false := key_ne hk
        rw [if_neg hk] at hmi
        rw [decide_eq_false hk, Bool.or_false] at hhi
        have hmiH := Lib.hid hmi
        have hhiH := Lib.hid hhi
        clear hk hmi hhi
        go_wp2_with fail
        go_quiet (fail)
        obtain ⟨Y, hY⟩ : ∃ Y, Y = wr.drewN nq := ⟨_, rfl⟩
        rw [← hY]
        have hOY := Lib.hid (show OutF w5 (w.heap.size + 1 + 1 + 1) (.slice A0 O.length c0) (.slice B m d) O Y by rw [hY]; exact hO.out.on (below_drewN (Below.refl _ _) _))
        have hfY := hOY.out.only.keep k2w.out (by simp)
        obtain ⟨p0, p1, p2, -, -, -⟩ := three hfY
        obtain ⟨q0, q1, q2, q3⟩ := two hOY.out.blk
        have hoxH := Lib.hid ((hOY.out.on (Y := Y.alloc (.cells #[.string g.1, .string g.2.1, .int .i64 g.2.2] 39)) box_below).row)
        have hbY := hOY.out.only.size
        have v0 : Y.cell? (a.add (i * 3)) = some (.string g.1) := by rw [hY]; exact y0
        have v1 : Y.cell? ⟨(a.add (i * 3)).block, (a.add (i * 3)).off + 1, none⟩ = some (.string g.2.1) := by rw [hY]; exact y1
        have v2 : Y.cell? ⟨(a.add (i * 3)).block, (a.add (i * 3)).off + 2, none⟩ = some (.int .i64 g.2.2) := by rw [hY]; exact y2
        clear hY x0 x1 x2 z0 z1 z2 z3 y0 y1 y2 hO dk dk2
        go_upto_region 10 with fail
        have q4 : (Y.alloc (.cells #[.string g.1, .string g.2.1, .int .i64 g.2.2] 39)).cell? ⟨w.heap.size + 1 + 1 + 1, 0, none⟩ = some (.slice A0 O.length c0) := (box_below.cell (p := ⟨w.heap.size + 1 + 1 + 1, 0, none⟩) (some_lt hOY.out.blk)).trans q0
        go_region_law (refine step_append_lies _ rfl (.tmp 35) (.tmp 40) 22 rfl w5.heap.size 39 i0 _ 3 40 Try.underlying22 hi hz0 hz1 hz2 rfl (by decide) (.slice A0 O.length c0) O.length (O.flatMap fcs) (by simp [Act.eval]) hoxH.out ⟨Y.heap.size, 0, none⟩ 1 1 [.string g.1, .string g.2.1, .int .i64 g.2.2] (by simp [Act.eval]) rfl (one_file Y _ _ _) (file_cells _ _ _) (by decide) (by unfold maxLen; omega) (by omega) (by simp; omega) _ rfl ?_; intro gb cap w7 hown7 hg7 hat hlt7; obtain ⟨hb7, hO7⟩ := hOY.out.more (box_below.drew) hown7 hg7; obtain ⟨t0, t1, t2, t3⟩ := two hb7; have hO7H := Lib.hid hO7; clear hown7 hg7 hb7 hO7 hat)
        all_goals go_wp2_with fail
        all_goals exact ⟨⟨i + 1, _, _, by have := hilH.out; omega, by go_num, by rw [hhiH.out], Lib.hid (by rw [hmiH.out, ← hOe.out]), hO7H⟩, by have := hilH.out; simp [intOf]; omega⟩
    · have hin : N = i := by omega
      subst hin
      have dk : decide ((N : Int) < (N : Int)) = false := decide_eq_false (by omega)
      have dk2 : decide (N < N) = false := decide_eq_false (by omega)
      clear hil hMr
      cases hm : hasF (M.take N) f.1 with
      | true =>
        have hRe : R = O := by
          rw [hwF.out, ← htk.out, hm, if_pos rfl, hOe.out, htk.out]
        have hReH := Lib.hid hRe
        have k3r := hO.out.only.keep k3w.out (by simp)
        obtain ⟨r0, r1, r2, r3⟩ := two k3r
        obtain ⟨z0, z1, z2, z3⟩ := two hO.out.blk
        have hst := Lib.hid (store2 k3r (.slice A0 O.length c0) (.slice B m d))
        have hdn := Lib.hid (hO.out.done kbwH.out (by omega) (gr := w.heap.size + 1 + 1) (by omega) (by have := kbwH.out.size; omega) (.slice A0 O.length c0) (.slice B m d))
        clear hm hRe
        go_wp2_with fail
        obtain ⟨q0, q1, -, -⟩ := two hst.out
        refine bodyPost_ret (v := .agg #[.slice A0 O.length c0, .slice B m d]) (by simp [results, Try.results46, go_sem, q0, q1]) rfl ⟨⟨_, rfl, ?_⟩, hdn.out.2⟩
        rw [hReH.out]
        exact hdn.out.1
      | false =>
        have hRe : R = O ++ [f] := by
          have h2 : hasF M f.1 = false := by rw [← htk.out]; exact hm
          rw [hwF.out, h2, if_neg (by decide), hOe.out, htk.out, with_none f h2]
        have hReH := Lib.hid hRe
        obtain ⟨x0, x1, x2, -, -, -⟩ := three hfb.out
        obtain ⟨z0, z1, z2, z3⟩ := two hO.out.blk
        have hoxH := Lib.hid ((hO.out.on (Y := wr.alloc (.cells #[.string f.1, .string f.2.1, .int .i64 f.2.2] 39)) box_below).row)
        have hli : O.length ≤ 1000000 := by rw [hOe.out]; exact hlm.out N
        have hbY := hO.out.only.size
        clear hm hRe
        go_wp2_with (at_builtin; refine wpList_append_own_at _ rfl (.tmp 46) (.tmp 48) 22 rfl w5.heap.size 39 i0 _ 3 40 Try.underlying22 hi hz0 hz1 hz2 rfl (by decide) (.slice A0 O.length c0) O.length (O.flatMap fcs) rfl hoxH.out ⟨wr.heap.size, 0, none⟩ 1 1 [.string f.1, .string f.2.1, .int .i64 f.2.2] rfl rfl (one_file wr _ _ _) (file_cells _ _ _) (by unfold maxLen; omega) (by omega) (by simp; omega) ?_)
        intro v' w7 hown7 hg7 _ hloc
        obtain ⟨gb, cap, rfl⟩ : ∃ gb cap, v' = .slice (some ⟨gb, 0, none⟩) (O.length + 1) cap := by
          rcases hown7.2 with ⟨_, h0⟩ | ⟨gb, cap, cur, hv, _⟩
          · omega
          · exact ⟨gb, cap, hv⟩
        obtain ⟨hb7, hO7⟩ := hO.out.more box_below hown7 hg7
        obtain ⟨t0, t1, t2, t3⟩ := two hb7
        obtain ⟨y0, y1, y2, y3⟩ := two hO7.blk
        have k3r := hO7.only.keep k3w.out (by simp)
        obtain ⟨r0, r1, r2, r3⟩ := two k3r
        have hst := Lib.hid (store2 k3r (.slice (some ⟨gb, 0, none⟩) (O.length + 1) cap) (.slice B m d))
        have hdn := Lib.hid (hO7.done kbwH.out (by omega) (gr := w.heap.size + 1 + 1) (by omega) (by have := kbwH.out.size; omega) (.slice (some ⟨gb, 0, none⟩) (O.length + 1) cap) (.slice B m d))
        clear hown7 hg7 hb7 hO7 hloc k3r z0 z1 z2 z3
        go_wp2_with fail
        obtain ⟨q0, q1, -, -⟩ := two hst.out
        refine bodyPost_ret (v := .agg #[.slice (some ⟨gb, 0, none⟩) (O.length + 1) cap, .slice B m d]) (by simp [results, Try.results46, go_sem, q0, q1]) rfl ⟨⟨_, rfl, ?_⟩, hdn.out.2⟩
        rw [hReH.out]
        exact hdn.out.1
end Go.Proofs.Ythdgfchmglkpaaa
