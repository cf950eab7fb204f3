/-
  The document's Same: two disks with the same files that count and the same faults are the same. Premise: rows have lengths that Go's own rows have.
-/
import Derived.Test.YthdgfchmglkpaaaChecked
import Derived.Test.YthdgfchmglkpaaaMath
import Derived.Test.YthdgfchmglkpaaaA
import Derived.Test.YthdgfchmglkpaaaB
import Derived.Test.YthdgfchmglkpaaaC
import Derived.Test.YthdgfchmglkpaaaD
import Derived.Test.YthdgfchmglkpaaaE
import Derived.Test.YthdgfchmglkpaaaF
import Derived.Test.YthdgfchmglkpaaaG
import Derived.Test.YthdgfchmglkpaaaJ
import Derived.Test.YthdgfchmglkpaaaK
import Derived.WalkKit
import Derived.WalkSpells
import Derived.WalkLawsBesides
import Derived.Deep.QuietTactic
import Derived.BigQuiet
import Derived.Lib.Hide
import Derived.Lib.SmallJoins
import Derived.Outline
import Derived.OwnWalk
import Derived.Deep.CutBlock
import Derived.BigRegion
import Derived.StillTailTactics
import Derived.Laws.AppendOwnNone
import Derived.Maps.AppendAt
import Derived.Deep.RegionLaw
import Derived.Deep.RegionHeld3
import Derived.Lib.BufferRead
import Derived.Deep.AppendLies
namespace Go.Proofs.Ythdgfchmglkpaaa
open Go.RowKit
/-- The same files that count, the same faults, in order. -/
def Eqv (a b : Dk) : Prop := (∀ k, findF a.1 k = findF b.1 k) ∧ a.2 = b.2
theorem Eqv.refl (a : Dk) : Eqv a a := ⟨fun _ => rfl, rfl⟩
theorem Eqv.symm {a b : Dk} (h : Eqv a b) : Eqv b a := ⟨fun k => (h.1 k).symm, h.2.symm⟩
theorem Eqv.trans {a b c : Dk} (h : Eqv a b) (g : Eqv b c) : Eqv a c := ⟨fun k => (h.1 k).trans (g.1 k), h.2.trans g.2⟩
theorem find_iff (L : List Fl) (k : ByteArray) : (∃ f, findF L k = some f) ↔ k ∈ L.map (·.1) := by
  constructor
  · rintro ⟨f, hf⟩
    obtain ⟨h1, g, hg, h2⟩ := find_some hf
    refine List.mem_map.2 ⟨g, hg, ?_⟩
    rw [← h1, ← h2]
    rfl
  · exact find_mem
theorem files_mem {L : List Fl} {f : Fl} (h : f ∈ filesF L) : findF L f.1 = some f := by
  revert h
  refine list_ind (p := fun L => f ∈ filesF L → findF L f.1 = some f) (fun h => by cases h) (fun l o ih => ?_) L
  rw [files_snoc, find_snoc]
  unfold addF
  split
  · intro h
    rw [ih h]
    rfl
  · rename_i hn
    intro h
    rcases List.mem_append.1 h with h | h
    · rw [ih h]
      rfl
    · obtain rfl := List.mem_singleton.1 h
      have hno : findF l o.1 = none := find_none (fun e => has_no hn ((files_names l o.1).2 e))
      show (findF l o.1).or (if o.1 = o.1 then some (normF o) else none) = some (normF o)
      rw [hno, if_pos rfl]
      rfl
theorem eqv_len {L M : List Fl} (h : ∀ k, findF L k = findF M k) : (filesF L).length = (filesF M).length := by
  have hp : ((filesF L).map (·.1)).Perm ((filesF M).map (·.1)) := (List.perm_ext_iff_of_nodup (files_uniq L) (files_uniq M)).2 (fun k => by
    rw [files_names, files_names, ← find_iff, ← find_iff, h])
  have := hp.length_eq
  rwa [List.length_map, List.length_map] at this
set_option maxRecDepth 100000 in
set_option maxHeartbeats 8000000 in
theorem rsame_eqv {w : World} {va vb : Value} {a b : Dk} (ha : DkAt w va a) (hb : DkAt w vb b) (la : Few a) (lb : Few b) (h : Eqv a b) :
    Calls Try.prog 12 #[va, vb] w fun r w' => r = .returned (.bool true) ∧ Below w.heap.size w w' := by
  obtain ⟨A, c, B, d, rfl, hA, hB⟩ := ha
  obtain ⟨A', c', B', d', rfl, hA', hB'⟩ := hb
  obtain ⟨L, T⟩ := a
  obtain ⟨M, T'⟩ := b
  obtain ⟨h1, h2⟩ := h
  simp only [] at hA hB hA' hB' h1 h2 ⊢
  subst h2
  obtain ⟨la1, la2⟩ := la
  obtain ⟨lb1, lb2⟩ := lb
  simp only [] at la1 la2 lb1 lb2
  obtain ⟨W2, hW2, k1, k2, kb, ks⟩ := two_boxes w (.cells #[.slice A L.length c, .slice B T.length d] 25) (.cells #[.slice A' M.length c', .slice B' T.length d'] 25)
  have hle := eqv_len h1
  have hFa := Lib.hid (fun (X : World) (hX : Hid (Below W2.heap.size W2 X)) => rfiles_any (B := B) (c := c) (m := T.length) (d := d) (hA.on (kb.trans (hX.out.mono kb.size))) la1)
  have hFb := Lib.hid (fun (X : World) (hX : Hid (Below W2.heap.size W2 X)) => rfiles_any (B := B') (c := c') (m := T.length) (d := d') (hA'.on (kb.trans (hX.out.mono kb.size))) lb1)
  have hFi := Lib.hid (fun (X : World) (hX : Below w.heap.size w X) (k : ByteArray) => rfind_any (B := B') (c := c') (m := T.length) (d := d') k (hA'.on hX) (by omega))
  have hmem : Hid (∀ f ∈ filesF L, findF M f.1 = some f) := Lib.hid (fun f hf => by rw [← h1]; exact files_mem hf)
  have hfl : Hid ((filesF L).length ≤ 1000000) := Lib.hid (Nat.le_trans (files_len L) la1)
  generalize filesF L = X at *
  generalize filesF M = Y at *
  go_enter Try.func12, Try.ntmps12
  go_upto_region 1 with fail
  rw [← hW2]
  clear hW2
  obtain ⟨x0, x1, -, -⟩ := two k1
  obtain ⟨y0, y1, -, -⟩ := two k2
  have hcs : Hid (∀ V, Hid (Below W2.heap.size W2 V) → V.cell? ⟨w.heap.size, 0, none⟩ = some (.slice A L.length c) ∧ V.cell? ⟨w.heap.size, 1, none⟩ = some (.slice B T.length d) ∧ V.cell? ⟨w.heap.size + 1, 0, none⟩ = some (.slice A' M.length c') ∧ V.cell? ⟨w.heap.size + 1, 1, none⟩ = some (.slice B' T.length d') ∧ Hid (Below W2.heap.size W2 V)) := Lib.hid (fun V hV => ⟨(hV.out.cell (cell_lt x0)).trans x0, (hV.out.cell (cell_lt x1)).trans x1, (hV.out.cell (cell_lt y0)).trans y0, (hV.out.cell (cell_lt y1)).trans y1, hV⟩)
  have hV0 : Hid (Below W2.heap.size W2 W2.drew) := Lib.hid (Below.refl _ _).drew
  have hJ : Hid (∀ p q, Hid (Below W2.heap.size W2 p) → Below p.heap.size p q → Hid (Below W2.heap.size W2 q)) := Lib.hid (fun p q x y => Lib.hid (x.out.trans (y.mono x.out.size)))
  have hrow : Hid (∀ {b : Nat} {v : Value} {Q : List Fl} {p q : World}, RowF p b v Q → Below p.heap.size p q → RowF q b v Q) := Lib.hid (fun h k => h.on k)
  go_region_held3 (fun V => V.cell? ⟨w.heap.size, 0, none⟩ = some (.slice A L.length c) ∧ V.cell? ⟨w.heap.size, 1, none⟩ = some (.slice B T.length d) ∧ V.cell? ⟨w.heap.size + 1, 0, none⟩ = some (.slice A' M.length c') ∧ V.cell? ⟨w.heap.size + 1, 1, none⟩ = some (.slice B' T.length d') ∧ Hid (Below W2.heap.size W2 V))
    (first | exact hcs.out _ hV0 | exact hcs.out _ (hJ.out _ _ (And.right (And.right (And.right (And.right (by assumption))))) (by assumption)))
    (first
    | (go_at_call 16; (with_reducible refine (hFa.out _ (And.right (And.right (And.right (And.right (by assumption)))))).mono ?_); rintro e w3 ⟨⟨v3, rfl, hR3⟩, hb3⟩)
    | (go_at_call 16; (with_reducible refine (hFb.out _ (And.right (And.right (And.right (And.right (by assumption)))))).mono ?_); rintro e w4 ⟨⟨v4, rfl, hR4⟩, hb4⟩))
  obtain ⟨AX, cX, rfl, hfx⟩ := hR3.files
  obtain ⟨AY, cY, rfl, -⟩ := hR4.files
  have hX4 := Lib.hid (hfx.on hb4)
  have hbw := Lib.hid (((Below.refl W2.heap.size W2).drew.trans (hb3.mono (Nat.le_refl _))).trans (hb4.mono (by have := hb3.size; exact this)))
  obtain ⟨u0, u1, u2, u3, hbz⟩ := hcs.out w4 hbw
  have hleX : ((X.length : Int) != (Y.length : Int)) = false := by rw [hle]; simp
  have hleT : ((T.length : Int) != (T.length : Int)) = false := by simp
  have hleX2 : (X.length != Y.length) = false := by rw [hle]; simp
  have hget : Hid (∀ i, i < X.length → ∃ g, X[i]? = some g) := Lib.hid (fun i hi => ⟨_, List.getElem?_eq_getElem hi⟩)
  clear hFa hFb hJ hV0 hb3 hb4 hfx hR3 hR4 hrow k1 k2 x0 x1 y0 y1 hcs hle
  rw [← ks] at *
  generalize hXN : X.length = N at *
  clear hXN
  go_wp2_with fail
  have hw4 : Hid (Below w.heap.size w w4) := Lib.hid (kb.trans (hbz.out.mono kb.size))
  have hcl : Hid (∀ V, Below w4.heap.size w4 V → V.cell? ⟨w.heap.size, 0, none⟩ = some (.slice A L.length c) ∧ V.cell? ⟨w.heap.size, 1, none⟩ = some (.slice B T.length d) ∧ V.cell? ⟨w.heap.size + 1, 0, none⟩ = some (.slice A' M.length c') ∧ V.cell? ⟨w.heap.size + 1, 1, none⟩ = some (.slice B' T.length d') ∧ Below w.heap.size w V) := Lib.hid (fun V hV => ⟨(hV.cell (cell_lt u0)).trans u0, (hV.cell (cell_lt u1)).trans u1, (hV.cell (cell_lt u2)).trans u2, (hV.cell (cell_lt u3)).trans u3, hw4.out.trans (hV.mono hw4.out.size)⟩)
  clear hbw u0 u1 u2 u3 hbz hleT hleX hleX2
  have hNl := hfl.out
  go_loopw [7] (fun s7 wr => ∃ i : Nat, i ≤ N ∧ s7 = .int .i64 i ∧ Hid (Below w4.heap.size w4 wr)) (fun s7 _ => N - (intOf s7).toNat)
  case atStart => exact ⟨0, by omega, rfl, Lib.hid (Below.refl _ _)⟩
  case round =>
    obtain ⟨i, hi, rfl, hW⟩ := hrel
    obtain ⟨x0, x1, x2, x3, hbw⟩ := hcl.out wr hW.out
    by_cases hil : i < N
    · obtain ⟨f, hf⟩ := hget.out i hil
      obtain ⟨a, rfl, ha, y0, y1, y2⟩ := hX4.out.on hW.out i f hf
      have hmf := hmem.out f (List.mem_of_getElem? hf)
      have hix := run_ixF a i N cX hil
      have hilH := Lib.hid hil
      have dk : decide ((i : Int) < (N : Int)) = true := decide_eq_true (by omega)
      have dk2 : decide (i < N) = true := decide_eq_true hil
      have hwk := wrap_small (x := (i : Int) + 1) (by omega)
      clear hil hf
      go_upto_region 7 with fail
      have hF := fun (V : World) (hV : Hid (Below wr.heap.size wr V)) => hFi.out V (hbw.trans (hV.out.mono hbw.size)) f.1
      rw [hmf] at hF
      have hF2 : Hid (∀ V, Hid (Below wr.heap.size wr V) → Calls Try.prog 11 #[.agg #[.slice A' M.length c', .slice B' T.length d'], .string f.1] V fun r w' => r = .returned (.tuple #[.agg #[.string f.1, .string f.2.1, .int .i64 f.2.2], .bool true]) ∧ Below V.heap.size V w') := Lib.hid hF
      have hcs : Hid (∀ V, Hid (Below wr.heap.size wr V) → V.cell? ⟨w.heap.size + 1, 0, none⟩ = some (.slice A' M.length c') ∧ V.cell? ⟨w.heap.size + 1, 1, none⟩ = some (.slice B' T.length d') ∧ V.cell? (a.add (i * 3)) = some (.string f.1) ∧ Hid (Below wr.heap.size wr V)) := Lib.hid (fun V hV => ⟨(hV.out.cell (cell_lt x2)).trans x2, (hV.out.cell (cell_lt x3)).trans x3, (hV.out.cell (cell_lt y0)).trans y0, hV⟩)
      have hV0 : Hid (Below wr.heap.size wr wr.drew) := Lib.hid (Below.refl _ _).drew
      have hJ : Hid (∀ p q, Hid (Below wr.heap.size wr p) → Below p.heap.size p q → Hid (Below wr.heap.size wr q)) := Lib.hid (fun p q x y => Lib.hid (x.out.trans (y.mono x.out.size)))
      have hAA : Hid (∀ p o, Hid (Below wr.heap.size wr p) → Hid (Below wr.heap.size wr (p.alloc o))) := Lib.hid (fun p o x => Lib.hid (x.out.alloc x.out.size o))
      clear hF hmf
      have hAD : Hid (Hid (Below wr.heap.size wr (wr.alloc (.cells #[.string ⟨#[]⟩, .string ⟨#[]⟩, .int .i64 0] 39)).drew)) := Lib.hid (Lib.hid ((Below.refl _ _).alloc (Nat.le_refl _) _).drew)
      have hbwH := Lib.hid hbw
      have yH : Hid (wr.cell? (a.add (i * 3)) = some (.string f.1) ∧ wr.cell? ⟨(a.add (i * 3)).block, (a.add (i * 3)).off + 1, none⟩ = some (.string f.2.1) ∧ wr.cell? ⟨(a.add (i * 3)).block, (a.add (i * 3)).off + 2, none⟩ = some (.int .i64 f.2.2)) := Lib.hid ⟨y0, y1, y2⟩
      clear hbw y1 y2
      go_region_held3 (fun w' => w'.cell? ⟨w.heap.size + 1, 0, none⟩ = some (.slice A' M.length c') ∧ w'.cell? ⟨w.heap.size + 1, 1, none⟩ = some (.slice B' T.length d') ∧ w'.cell? (a.add (i * 3)) = some (.string f.1) ∧ Hid (Below wr.heap.size wr w'))
        (first | exact hcs.out _ hV0 | exact hcs.out _ hAD.out | exact hcs.out _ (hJ.out _ _ (And.right (And.right (And.right (by assumption)))) (by assumption)) | exact hcs.out _ (hAA.out _ _ (And.right (And.right (And.right (by assumption))))) | exact hcs.out _ (hAA.out _ _ (by assumption)) | exact hcs.out _ (by assumption))
        (first
        | (go_at_call 11; (with_reducible refine (hF2.out (wr.alloc (.cells #[.string ⟨#[]⟩, .string ⟨#[]⟩, .int .i64 0] 39)).drew hAD.out).mono ?_); rintro e w3 ⟨rfl, hb3⟩; have hw3 := hJ.out _ _ hAD.out hb3; have hn3 := (hb3.block wr.heap.size (by simp)).trans (heap_alloc_new wr (.cells #[.string ⟨#[]⟩, .string ⟨#[]⟩, .int .i64 0] 39)); obtain ⟨n0, n1, n2, n3, n4, n5⟩ := three hn3; have hw4 := Lib.hid (below_set3 hw3.out (b := wr.heap.size) (Nat.le_refl _) (.string f.1) (.string f.2.1) (.int .i64 f.2.2)); have hn4 := Lib.hid (store3 hn3 (.string f.1) (.string f.2.1) (.int .i64 f.2.2)))
        | (go_at_call 11; (with_reducible refine (hF2.out _ (And.right (And.right (And.right (by assumption))))).mono ?_); rintro e w3 ⟨rfl, hb3⟩; have hw3 : Hid (Below wr.heap.size wr w3) := hJ.out _ _ (And.right (And.right (And.right (by assumption)))) hb3))
      · have hnew := heap_alloc_new w3 (.cells #[.string f.1, .string f.2.1, .int .i64 f.2.2] 39)
        have hw6 := Lib.hid (hw3.out.alloc hw3.out.size (.cells #[.string f.1, .string f.2.1, .int .i64 f.2.2] 39))
        clear hb3 hF2 hcs hV0 hJ hAA hAD hw3 y0
        generalize (w3.alloc (.cells #[.string f.1, .string f.2.1, .int .i64 f.2.2] 39)) = W6 at hnew hw6 ⊢
        generalize w3.heap.size = g6 at hnew ⊢
        obtain ⟨y0, y1, y2⟩ := yH.out
        have hst8 : Hid (Below wr.heap.size wr W6) := hw6
        have hcx := hcl.out W6 (hW.out.trans (hw6.out.mono hW.out.size))
        obtain ⟨q0, q1, q2, -, -, -⟩ := three hnew
        have v0 := (hw6.out.cell (cell_lt y0)).trans y0
        have v1 := (hw6.out.cell (cell_lt y1)).trans y1
        have v2 := (hw6.out.cell (cell_lt y2)).trans y2
        clear y0 y1 y2 x0 x1 x2 x3 hnew hcx
        go_wp2_with fail
        go_quiet (fail)
        go_wp2_with fail
        go_roundw
        case rel => exact ⟨i + 1, by have := hilH.out; omega, by go_num, Lib.hid (below_drewN (hW.out.trans (hw6.out.mono hW.out.size)) _)⟩
        case measure => have := hilH.out; simp [intOf]; omega
      · have hnew := hn4.out
        have hw6 := hw4
        clear hb3 hF2 hcs hV0 hJ hAA hAD hw3 hn3 n0 n1 n2 n3 n4 n5 hn4 hw4 y0
        generalize (((w3.setCell ⟨wr.heap.size, 0, none⟩ (.string f.1)).setCell ⟨wr.heap.size, 1, none⟩ (.string f.2.1)).setCell ⟨wr.heap.size, 2, none⟩ (.int .i64 f.2.2)) = W6 at hnew hw6 ⊢
        generalize hg6 : wr.heap.size = g6 at hnew ⊢
        obtain ⟨y0, y1, y2⟩ := yH.out
        have hst8 : Hid (Below wr.heap.size wr W6) := hw6
        have hcx := hcl.out W6 (hW.out.trans (hw6.out.mono hW.out.size))
        obtain ⟨q0, q1, q2, -, -, -⟩ := three hnew
        have v0 := (hw6.out.cell (cell_lt y0)).trans y0
        have v1 := (hw6.out.cell (cell_lt y1)).trans y1
        have v2 := (hw6.out.cell (cell_lt y2)).trans y2
        clear y0 y1 y2 x0 x1 x2 x3 hnew hcx
        go_wp2_with fail
        go_quiet (fail)
        go_wp2_with fail
        go_roundw
        case rel => exact ⟨i + 1, by have := hilH.out; omega, by go_num, Lib.hid (below_drewN (hW.out.trans (hw6.out.mono hW.out.size)) _)⟩
        case measure => have := hilH.out; simp [intOf]; omega
    · have hiN : i = N := by omega
      subst hiN
      have dk : decide ((i : Int) < (i : Int)) = false := decide_eq_false (by omega)
      have dk2 : decide (i < i) = false := decide_eq_false (by omega)
      have hTg : Hid (∀ j, j < T.length → ∃ g, T[j]? = some g) := Lib.hid (fun j hj => ⟨_, List.getElem?_eq_getElem hj⟩)
      have hBH := Lib.hid hB
      have hBH' := Lib.hid hB'
      clear x0 x1 x2 x3 hil hget hX4 hmem hFi hNl hB hB' hbw
      generalize T.length = n at *
      go_wp2_with fail
      go_loopw [10] (fun s10 wt => ∃ j : Nat, j ≤ n ∧ s10 = .int .i64 j ∧ Hid (Below w4.heap.size w4 wt)) (fun s10 _ => n - (intOf s10).toNat)
      case atStart => exact ⟨0, by omega, rfl, hW⟩
      case round =>
        obtain ⟨j, hj, rfl, hV⟩ := hrel
        obtain ⟨x0, x1, x2, x3, hbv⟩ := hcl.out _ hV.out
        by_cases hjn : j < n
        · obtain ⟨g, hg⟩ := hTg.out j hjn
          obtain ⟨a1, rfl, -, y0, y1, y2⟩ := hBH.out.on hbv j g hg
          obtain ⟨a2, rfl, -, z0, z1, z2⟩ := hBH'.out.on hbv j g hg
          have hix1 := run_ixT a1 j n d hjn
          have hix2 := run_ixT a2 j n d' hjn
          have hjnH := Lib.hid hjn
          have dk3 : decide ((j : Int) < (n : Int)) = true := decide_eq_true (by omega)
          have dk4 : decide (j < n) = true := decide_eq_true hjn
          have hwk := wrap_small (x := (j : Int) + 1) (by omega)
          clear hjn hg
          go_wp2_with fail
          go_quiet (fail)
          go_wp2_with fail
          go_roundw
          case rel => exact ⟨j + 1, by have := hjnH.out; omega, by go_num, Lib.hid (below_drewN hV.out _)⟩
          case measure => have := hjnH.out; simp [intOf]; omega
        · have hjn2 : j = n := by omega
          subst hjn2
          have dk3 : decide ((j : Int) < (j : Int)) = false := decide_eq_false (by omega)
          have dk4 : decide (j < j) = false := decide_eq_false (by omega)
          clear hjn
          go_wp2_with fail
          refine bodyPost_ret (v := .bool true) (by simp [results, Try.results12, go_sem]) rfl ⟨rfl, hbv⟩
end Go.Proofs.Ythdgfchmglkpaaa
