/-
  Rows of files of one's own; the document's Files. Premise: rows have lengths that Go's own rows have.
-/
import Derived.Test.YthdgfchmglkpaaaChecked
import Derived.Test.YthdgfchmglkpaaaMath
import Derived.Test.YthdgfchmglkpaaaA
import Derived.Test.YthdgfchmglkpaaaB
import Derived.WalkKit
import Derived.WalkSpells
import Derived.WalkLawsBesides
import Derived.Deep.QuietTactic
import Derived.BigQuiet
import Derived.Lib.Hide
import Derived.Lib.SmallJoins
import Derived.Outline
import Derived.OwnWalk
import Derived.Deep.CutBlock
import Derived.BigRegion
import Derived.StillTailTactics
import Derived.Laws.AppendOwnNone
import Derived.Maps.AppendAt
import Derived.Deep.RegionLaw
import Derived.Deep.RegionHeld3
import Derived.Lib.BufferRead
namespace Go.Proofs.Ythdgfchmglkpaaa
open Go.RowKit
def fcs (f : Fl) : List Value := [.string f.1, .string f.2.1, .int .i64 f.2.2]
theorem flat3 {α : Type} {g : α → List Value} (hg : ∀ f, (g f).length = 3) : ∀ (L : List α) (i : Nat) (f : α), L[i]? = some f → ∀ j, j < 3 → (L.flatMap g)[i * 3 + j]? = (g f)[j]?
  | [], i, f, h, j, _ => by simp at h
  | x :: r, 0, f, h, j, hj => by
    obtain rfl : x = f := by simpa using h
    rw [List.flatMap_cons, Nat.zero_mul, Nat.zero_add, List.getElem?_append_left (by rw [hg]; exact hj)]
  | x :: r, i + 1, f, h, j, hj => by
    rw [List.flatMap_cons, List.getElem?_append_right (by rw [hg]; omega), hg, show (i + 1) * 3 + j - 3 = i * 3 + j by omega]
    exact flat3 hg r i f (by simpa using h) j hj
/-- A row of files of one's own. -/
def RowF (w : World) (base : Nat) (v : Value) (L : List Fl) : Prop := w.ownsRow base 39 3 v L.length (L.flatMap fcs)
theorem rowF_nil (w : World) (base : Nat) : RowF w base (.slice none 0 0) [] := World.ownsRow_nil w base 39 3
theorem info_file : (Try.prog.info? 39).map (fun i => (i.zero, i.size, i.bytes)) = some (some (.agg #[.string ⟨#[]⟩, .string ⟨#[]⟩, .int .i64 0]), 3, 40) := by kernel_rfl
theorem grown_on {W W' : World} (hb : Below W.heap.size W W') (row : Option Nat) : W.grownBy W' row := ⟨hb.os, hb.tape, hb.output, hb.size, fun k hk _ => hb.block k hk⟩
theorem RowF.on {w w' : World} {base : Nat} {v : Value} {L : List Fl} (h : RowF w base v L) (hb : Below w.heap.size w w') : RowF w' base v L :=
  World.ownsRow.kept h (row := some w.heap.size) (grown_on hb _) (Or.inr fun e => by have := (World.ownsRow.lt h _ e).2; omega)
theorem RowF.base {w : World} {b b' : Nat} {v : Value} {L : List Fl} (h : RowF w b v L) (hb : b' ≤ b) : RowF w b' v L := by
  obtain ⟨h1, ⟨h2, h3⟩ | ⟨g, cap, cur, h2, h3, h4⟩⟩ := h
  · exact ⟨h1, Or.inl ⟨h2, h3⟩⟩
  · exact ⟨h1, Or.inr ⟨g, cap, cur, h2, by omega, h4⟩⟩
theorem RowF.files {w : World} {base : Nat} {v : Value} {L : List Fl} (h : RowF w base v L) : ∃ A c, v = .slice A L.length c ∧ FilesAt w A L := by
  have h' : w.ownsRow base 39 3 v L.length (L.flatMap fcs) := h
  rcases h'.2 with ⟨hv, h0⟩ | ⟨g, cap, cur, hv, _, hgk, _⟩
  · exact ⟨none, 0, by rw [hv, h0], fun i f hf => by rw [List.eq_nil_of_length_eq_zero h0] at hf; simp at hf⟩
  · have hob : v.ownBlock = some g := by rw [hv]; rfl
    refine ⟨some ⟨g, 0, none⟩, cap, hv, fun i f hf => ⟨_, rfl, LieB.at hgk, ?_⟩⟩
    have hc : ∀ j x, (fcs f)[j]? = some x → w.cell? ⟨g, i * 3 + j, none⟩ = some x := fun j x hx => by
      rw [← add_zero]
      refine h'.cells hob (i * 3 + j) x ?_
      rw [flat3 (fun _ => rfl) L i f hf j (by have := (List.getElem?_eq_some_iff.1 hx).1; exact this)]
      exact hx
    rw [add_zero]
    exact ⟨hc 0 _ rfl, hc 1 _ rfl, hc 2 _ rfl⟩
theorem RowF.snoc {w : World} {base : Nat} {v : Value} {L : List Fl} {x y : ByteArray} {z : Int} (h : w.ownsRow base 39 3 v (L.length + 1) (L.flatMap fcs ++ [.string x, .string y, .int .i64 z])) : RowF w base v (L ++ [(x, y, z)]) := by
  unfold RowF
  rw [List.length_append, List.flatMap_append]
  exact h
theorem one_file (w : World) (x y : ByteArray) (z : Int) : ∀ (j : Nat) (u : Value), [Value.string x, .string y, .int .i64 z][j]? = some u → (w.alloc (.cells #[.string x, .string y, .int .i64 z] 39)).cell? ((⟨w.heap.size, 0, none⟩ : Addr).add j) = some u := fun j u hj => by
  rw [add_zero]
  rw [Lib.cell_of_heap (heap_alloc_new w _) j]
  simpa using hj
theorem file_cells (x y : ByteArray) (z : Int) : ∀ u ∈ [Value.string x, .string y, .int .i64 z], u.oneCell' = true := by intro u hu; simp at hu; rcases hu with rfl | rfl | rfl <;> rfl
theorem has_next {L : List Fl} {i : Nat} {f : Fl} (h : L[i]? = some f) (k : ByteArray) : hasF (L.take (i + 1)) k = (hasF (L.take i) k || decide (f.1 = k)) := by
  rw [List.take_add_one, h]
  unfold hasF
  rw [List.any_append]
  simp
theorem files_next {L : List Fl} {i : Nat} {f : Fl} (h : L[i]? = some f) : filesF (L.take (i + 1)) = if hasF (L.take i) f.1 = true then filesF (L.take i) else filesF (L.take i) ++ [normF f] := by
  have e : L.take (i + 1) = L.take i ++ [f] := by rw [List.take_add_one, h]; rfl
  rw [e, files_snoc]
  unfold addF
  have h2 : hasF (filesF (L.take i)) f.1 = hasF (L.take i) f.1 := by
    rw [Bool.eq_iff_iff, has_iff, has_iff]
    exact files_names _ _
  rw [h2]
theorem find_at {L : List Fl} {i : Nat} {f : Fl} (h : L[i]? = some f) (h0 : hasF (L.take i) f.1 = false) : findF L f.1 = some (normF f) := by
  refine (find_step h (find_none (has_no (by rw [h0]; decide)))).1 rfl
theorem files_len (L : List Fl) : (filesF L).length ≤ L.length := by
  refine list_ind (p := fun L => (filesF L).length ≤ L.length) (Nat.le_refl _) (fun l o ih => ?_) L
  rw [files_snoc, List.length_append]
  unfold addF
  split
  · simp only [List.length_singleton]; omega
  · simp only [List.length_append, List.length_singleton]; omega
set_option maxRecDepth 100000 in
set_option maxHeartbeats 8000000 in
theorem rfiles_any {w : World} {A B : Option Addr} {c m d : Nat} {L : List Fl} (h : FilesAt w A L) (hl : L.length ≤ 1000000) :
    Calls Try.prog 16 #[.agg #[.slice A L.length c, .slice B m d]] w fun r w' => (∃ v, r = .returned v ∧ RowF w' w.heap.size v (filesF L)) ∧ Below w.heap.size w w' := by
  have hd0 := heap_alloc_new w (.cells #[.slice A L.length c, .slice B m d] 25)
  have hb1 : Below w.heap.size w (w.alloc (.cells #[.slice A L.length c, .slice B m d] 25)) := box_below
  have hHf := h.on hb1
  have hfin : Hid (filesF (L.take L.length) = filesF L) := Lib.hid (by rw [List.take_length])
  have hget : Hid (∀ i, i < L.length → ∃ f, L[i]? = some f) := Lib.hid (fun i hi => ⟨_, List.getElem?_eq_getElem hi⟩)
  have hFi := Lib.hid (fun (X : World) (hX : FilesAt X A L) (k : ByteArray) => rfind_any (B := B) (c := c) (m := m) (d := d) k hX (by omega))
  have hfl : Hid (∀ i, (filesF (L.take i)).length ≤ 1000000) := Lib.hid (fun i => Nat.le_trans (files_len _) (by rw [List.length_take]; omega))
  obtain ⟨i0, hi, hz0, hz1, hz2⟩ := info_partsS info_file
  clear h
  generalize L.length = n at *
  go_enter Try.func16, Try.ntmps16
  go_upto_region 1 with fail
  generalize (w.alloc (.cells #[.slice A n c, .slice B m d] 25)) = W2 at hd0 hb1 hHf ⊢
  have hdH := Lib.hid hd0
  have hbH := Lib.hid hb1
  have hHH := Lib.hid hHf
  have hz0' := some_lt hd0
  clear hd0 hb1 hHf
  go_wp2_with fail
  go_loopw [3, 4] (fun s3 s4 wr => ∃ i : Nat, i ≤ n ∧ s4 = .int .i64 i ∧ Hid (RowF wr W2.heap.size s3 (filesF (L.take i))) ∧ Hid (Below W2.heap.size W2 wr)) (fun _ s4 _ => n - (intOf s4).toNat)
  case atStart => exact ⟨0, by omega, rfl, Lib.hid (rowF_nil _ _), Lib.hid (Below.refl _ _)⟩
  case round =>
    obtain ⟨i, hi1, rfl, hR, hW⟩ := hrel
    have hdr := (hW.out.block w.heap.size hz0').trans hdH.out
    obtain ⟨x0, x1, -, -⟩ := two hdr
    by_cases hil : i < n
    · obtain ⟨f, hf⟩ := hget.out i hil
      obtain ⟨a, rfl, ha, y0, y1, y2⟩ := hHH.out.on hW.out i f hf
      have hix := run_ixF a i n c hil
      have hilH := Lib.hid hil
      have hnx := Lib.hid (files_next hf)
      have hfa := Lib.hid (find_at hf)
      have dk : decide ((i : Int) < (n : Int)) = true := decide_eq_true (by omega)
      have dk2 : decide (i < n) = true := decide_eq_true hil
      clear hf
      go_wp2_with fail
      have hnb : Hid (∀ j g, L[j]? = some g → hasF (L.take (j + 1)) f.1 = (hasF (L.take j) f.1 || decide (g.1 = f.1))) := Lib.hid (fun j g hg => has_next hg f.1)
      have hcd : Hid (∀ X, Below wr.heap.size wr X → X.heap[w.heap.size]? = some (.cells #[.slice (some a) n c, .slice B m d] 25 (0, 0)) ∧ X.cell? (a.add (i * 3)) = some (.string f.1)) := Lib.hid (fun X hX => ⟨(hX.block w.heap.size (some_lt hdr)).trans hdr, (hX.cell (cell_lt y0)).trans y0⟩)
      clear x0 x1 y0 y1 y2 hdr dk dk2
      go_loopw [5, 6] (fun s5 s6 wq => ∃ j : Nat, j ≤ i ∧ s6 = .int .i64 j ∧ s5 = .bool (hasF (L.take j) f.1) ∧ Hid (Below wr.heap.size wr wq)) (fun _ s6 _ => i - (intOf s6).toNat)
      case atStart => exact ⟨0, by omega, rfl, rfl, Lib.hid (Below.refl _ _)⟩
      case round =>
        obtain ⟨j, hj1, rfl, rfl, hV⟩ := hrel
        obtain ⟨dv, y0⟩ := hcd.out _ hV.out
        obtain ⟨x0, x1, -, -⟩ := two dv
        by_cases hji : j < i
        · obtain ⟨g, hg⟩ := hget.out j (by have := hilH.out; omega)
          obtain ⟨a', ha', _, v0, v1, v2⟩ := hHH.out.on (hW.out.trans (hV.out.mono hW.out.size)) j g hg
          cases ha'
          have hix2 := run_ixF a j n c (by have := hilH.out; omega)
          have hjiH := Lib.hid hji
          have hnj := hnb.out j g hg
          have dk : decide ((j : Int) < (i : Int)) = true := decide_eq_true (by omega)
          have dk2 : decide (j < i) = true := decide_eq_true hji
          have hwk := wrap_small (x := (j : Int) + 1) (by omega)
          clear hg hji
          cases hm : hasF (L.take j) f.1 with
          | true =>
            rw [hm, Bool.true_or] at hnj
            have hnjH := Lib.hid hnj
            clear hnj hm
            go_wp2_with fail
            go_quiet (fail)
            go_wp2_with fail
            go_roundw
            case rel => exact ⟨j + 1, by have := hjiH.out; omega, by go_num, by rw [hnjH.out], Lib.hid (below_drewN hV.out _)⟩
            case measure => have := hjiH.out; simp [intOf]; omega
          | false =>
            rw [hm, Bool.false_or] at hnj
            have hq : (g.1.toList == f.1.toList) = decide (g.1 = f.1) := by
              by_cases e : g.1 = f.1
              · rw [decide_eq_true e, e]; simp
              · rw [decide_eq_false e]; exact key_ne e
            have hnjH := Lib.hid hnj
            clear hnj hm
            go_wp2_with fail
            go_quiet (fail)
            go_wp2_with fail
            go_roundw
            case rel => exact ⟨j + 1, by have := hjiH.out; omega, by go_num, by rw [hnjH.out], Lib.hid (below_drewN hV.out _)⟩
            case measure => have := hjiH.out; simp [intOf]; omega
        · have hji2 : i = j := by omega
          subst hji2
          have dk : decide ((i : Int) < (i : Int)) = false := decide_eq_false (by omega)
          have dk2 : decide (i < i) = false := decide_eq_false (by omega)
          have hwk := wrap_small (x := (i : Int) + 1) (by have := hilH.out; omega)
          clear hji
          have hVb := Lib.hid (hW.out.trans (hV.out.mono hW.out.size))
          cases hm : hasF (L.take i) f.1 with
          | true =>
            have hnx2 : filesF (L.take (i + 1)) = filesF (L.take i) := by rw [hnx.out, if_pos hm]
            have hnxH := Lib.hid hnx2
            clear hnx2 hm
            go_wp2_with fail
            go_roundw
            case rel => exact ⟨i + 1, by have := hilH.out; omega, by go_num, Lib.hid (by rw [hnxH.out]; exact hR.out.on hV.out), hVb⟩
            case measure => have := hilH.out; simp [intOf]; omega
          | false =>
            have hnx2 : filesF (L.take (i + 1)) = filesF (L.take i) ++ [normF f] := by rw [hnx.out, if_neg (by rw [hm]; decide)]
            have hnxH := Lib.hid hnx2
            have hfa2 := hfa.out hm
            clear hnx2 hm
            go_upto_region 11 with fail
            have hbv := hW.out.trans (hV.out.mono hW.out.size)
            have hF := fun (X : World) (hX : Hid (Below wr.heap.size wr X)) => hFi.out X (hHH.out.on (hbv.trans (hX.out.mono hbv.size))) f.1
            rw [hfa2] at hF
            obtain ⟨z, hz⟩ : ∃ z, z = betw f.2.2 (f.2.1.size : Int) := ⟨_, rfl⟩
            have hF2 : Hid (∀ X, Hid (Below wr.heap.size wr X) → Calls Try.prog 11 #[.agg #[.slice (some a) n c, .slice B m d], .string f.1] X fun r w' => r = .returned (.tuple #[.agg #[.string f.1, .string f.2.1, .int .i64 z], .bool true]) ∧ Below X.heap.size X w') := by rw [hz]; exact Lib.hid hF
            have hRd := Lib.hid (hR.out.on hV.out)
            have hzn : Hid (normF f = (f.1, f.2.1, z)) := Lib.hid (by rw [hz]; rfl)
            have hcs : Hid (∀ X, Hid (Below wr.heap.size wr X) → X.cell? ⟨w.heap.size, 0, none⟩ = some (.slice (some a) n c) ∧ X.cell? ⟨w.heap.size, 1, none⟩ = some (.slice B m d) ∧ X.cell? (a.add (i * 3)) = some (.string f.1) ∧ Hid (Below wr.heap.size wr X)) := Lib.hid (fun X hX => ⟨(hX.out.cell (cell_lt x0)).trans x0, (hX.out.cell (cell_lt x1)).trans x1, (hX.out.cell (cell_lt y0)).trans y0, hX⟩)
            have hV0 : Hid (Below wr.heap.size wr wr.drew) := Lib.hid (Below.refl _ _).drew
            have hJ : Hid (∀ p q, Hid (Below wr.heap.size wr p) → Below p.heap.size p q → Hid (Below wr.heap.size wr q)) := Lib.hid (fun p q x y => Lib.hid (x.out.trans (y.mono x.out.size)))
            have hA : Hid (∀ p o, Hid (Below wr.heap.size wr p) → Hid (Below wr.heap.size wr (p.alloc o))) := Lib.hid (fun p o x => Lib.hid (x.out.alloc x.out.size o))
            obtain ⟨A0, c0, rfl, -⟩ := hRd.out.files
            clear hF hz hfa2 hfa hFi
            have hbvH := Lib.hid hbv
            have hAD : Hid (Hid (Below wr.heap.size wr (wr.alloc (.cells #[.string ⟨#[]⟩, .string ⟨#[]⟩, .int .i64 0] 39)).drew)) := Lib.hid (Lib.hid ((Below.refl _ _).alloc (Nat.le_refl _) _).drew)
            go_region_held3 (fun w' => w'.cell? ⟨w.heap.size, 0, none⟩ = some (.slice (some a) n c) ∧ w'.cell? ⟨w.heap.size, 1, none⟩ = some (.slice B m d) ∧ w'.cell? (a.add (i * 3)) = some (.string f.1) ∧ Hid (Below wr.heap.size wr w'))
              (first | exact hcs.out _ hV0 | exact hcs.out _ hAD.out | exact hcs.out _ (hJ.out _ _ (And.right (And.right (And.right (by assumption)))) (by assumption)) | exact hcs.out _ (hA.out _ _ (And.right (And.right (And.right (by assumption))))) | exact hcs.out _ (hA.out _ _ (by assumption)) | exact hcs.out _ (by assumption))
              (first
              | (go_at_call 11; (with_reducible refine (hF2.out (wr.alloc (.cells #[.string ⟨#[]⟩, .string ⟨#[]⟩, .int .i64 0] 39)).drew hAD.out).mono ?_); rintro e w3 ⟨rfl, hb3⟩; have hw3 := hJ.out _ _ hAD.out hb3; have hn3 := (hb3.block wr.heap.size (by simp)).trans (heap_alloc_new wr (.cells #[.string ⟨#[]⟩, .string ⟨#[]⟩, .int .i64 0] 39)); obtain ⟨n0, n1, n2, n3, n4, n5⟩ := three hn3; have hw4 := Lib.hid (below_set3 hw3.out (b := wr.heap.size) (Nat.le_refl _) (.string f.1) (.string f.2.1) (.int .i64 z)); have hn4 := Lib.hid (store3 hn3 (.string f.1) (.string f.2.1) (.int .i64 z)))
              | (go_at_call 11; (with_reducible refine (hF2.out _ (And.right (And.right (And.right (by assumption))))).mono ?_); rintro e w3 ⟨rfl, hb3⟩; have hw3 : Hid (Below wr.heap.size wr w3) := hJ.out _ _ (And.right (And.right (And.right (by assumption)))) hb3))
            · have hnew := heap_alloc_new w3 (.cells #[.string f.1, .string f.2.1, .int .i64 z] 39)
              have hw6 := hw3.out.alloc hw3.out.size (.cells #[.string f.1, .string f.2.1, .int .i64 z] 39)
              clear x0 x1 y0 dv hb3 hix hF2 hcs hV0 hJ hA hAD hw3 hbv
              generalize (w3.alloc (.cells #[.string f.1, .string f.2.1, .int .i64 z] 39)) = W6 at hnew hw6 ⊢
              generalize w3.heap.size = g6 at hnew ⊢
              obtain ⟨z0, z1, z2, -, -, -⟩ := three hnew
              have hR6 := hRd.out.on hw6
              have hb6 := Lib.hid (hbvH.out.trans (hw6.mono hbvH.out.size))
              have hox : W6.ownsRow W2.heap.size 39 3 (.slice A0 (filesF (L.take i)).length c0) (filesF (L.take i)).length ((filesF (L.take i)).flatMap fcs) := hR6
              have hoxH := Lib.hid (World.ownsRow.kept hox (row := some W6.heap.size) (grown_on (box_below (cs := #[.string f.1, .string f.2.1, .int .i64 z]) (t := 39)) _) (Or.inr fun e => by have := (World.ownsRow.lt hox _ e).2; omega))
              have hsz6 := hb6.out.size
              have hsz2 := hbH.out.size
              have hfn := hfl.out i
              clear hnew hR6 hox hw6
              go_wp2_with (at_builtin; refine wpList_append_own_at _ rfl (.tmp 50) (.tmp 52) 22 rfl W2.heap.size 39 i0 _ 3 40 Try.underlying22 hi hz0 hz1 hz2 rfl (by decide) (.slice A0 (filesF (L.take i)).length c0) (filesF (L.take i)).length ((filesF (L.take i)).flatMap fcs) rfl hoxH.out ⟨W6.heap.size, 0, none⟩ 1 1 [.string f.1, .string f.2.1, .int .i64 z] rfl rfl (one_file W6 _ _ _) (file_cells _ _ _) (by unfold maxLen; omega) (by omega) (by simp; omega) ?_)
              intro v' w7 hown7 hg7 _ _
              have hR7 := Lib.hid (RowF.snoc hown7)
              have hb7 := Lib.hid (((hb6.out.alloc hb6.out.size (.cells #[.string f.1, .string f.2.1, .int .i64 z] 39))).grown hg7 (by simp; omega) (fun k hk => (World.ownsRow.lt hoxH.out k hk).1))
              clear hown7 hg7
              go_wp2_with fail
              go_roundw
              case rel => exact ⟨i + 1, by have := hilH.out; omega, by go_num, Lib.hid (by rw [hnxH.out, hzn.out]; exact hR7.out), hb7⟩
              case measure => have := hilH.out; simp [intOf]; omega
            · have hnew := hn4.out
              have hw6 := hw4.out
              clear x0 x1 y0 dv hb3 hix hF2 hcs hV0 hJ hA hAD hw3 hbv hn3 n0 n1 n2 n3 n4 n5 hn4 hw4
              generalize (((w3.setCell ⟨wr.heap.size, 0, none⟩ (.string f.1)).setCell ⟨wr.heap.size, 1, none⟩ (.string f.2.1)).setCell ⟨wr.heap.size, 2, none⟩ (.int .i64 z)) = W6 at hnew hw6 ⊢
              generalize wr.heap.size = g6 at hnew ⊢
              obtain ⟨z0, z1, z2, -, -, -⟩ := three hnew
              have hR6 := hRd.out.on hw6
              have hb6 := Lib.hid (hbvH.out.trans (hw6.mono hbvH.out.size))
              have hox : W6.ownsRow W2.heap.size 39 3 (.slice A0 (filesF (L.take i)).length c0) (filesF (L.take i)).length ((filesF (L.take i)).flatMap fcs) := hR6
              have hoxH := Lib.hid (World.ownsRow.kept hox (row := some W6.heap.size) (grown_on (box_below (cs := #[.string f.1, .string f.2.1, .int .i64 z]) (t := 39)) _) (Or.inr fun e => by have := (World.ownsRow.lt hox _ e).2; omega))
              have hsz6 := hb6.out.size
              have hsz2 := hbH.out.size
              have hfn := hfl.out i
              clear hnew hR6 hox hw6
              go_wp2_with (at_builtin; refine wpList_append_own_at _ rfl (.tmp 50) (.tmp 52) 22 rfl W2.heap.size 39 i0 _ 3 40 Try.underlying22 hi hz0 hz1 hz2 rfl (by decide) (.slice A0 (filesF (L.take i)).length c0) (filesF (L.take i)).length ((filesF (L.take i)).flatMap fcs) rfl hoxH.out ⟨W6.heap.size, 0, none⟩ 1 1 [.string f.1, .string f.2.1, .int .i64 z] rfl rfl (one_file W6 _ _ _) (file_cells _ _ _) (by unfold maxLen; omega) (by omega) (by simp; omega) ?_)
              intro v' w7 hown7 hg7 _ _
              have hR7 := Lib.hid (RowF.snoc hown7)
              have hb7 := Lib.hid (((hb6.out.alloc hb6.out.size (.cells #[.string f.1, .string f.2.1, .int .i64 z] 39))).grown hg7 (by simp; omega) (fun k hk => (World.ownsRow.lt hoxH.out k hk).1))
              clear hown7 hg7
              go_wp2_with fail
              go_roundw
              case rel => exact ⟨i + 1, by have := hilH.out; omega, by go_num, Lib.hid (by rw [hnxH.out, hzn.out]; exact hR7.out), hb7⟩
              case measure => have := hilH.out; simp [intOf]; omega
    · have hin : n = i := by omega
      subst hin
      have dk : decide ((n : Int) < (n : Int)) = false := decide_eq_false (by omega)
      have dk2 : decide (n < n) = false := decide_eq_false (by omega)
      rw [hfin.out] at hR
      clear hil
      go_wp2_with fail
      go_ret
      exact ⟨⟨_, rfl, hR.out.base hbH.out.size⟩, hbH.out.trans (hW.out.mono hbH.out.size)⟩
end Go.Proofs.Ythdgfchmglkpaaa
