/-
  The library's DeleteFunc by a name: the files of another name are left. Premise: the row lies in a block that is written in place, of at most a million files; the name lies elsewhere.
-/
import Derived.Test.YthdgfchmglkpaaaChecked
import Derived.Test.YthdgfchmglkpaaaMath
import Derived.Test.YthdgfchmglkpaaaA
import Derived.Test.YthdgfchmglkpaaaB
import Derived.Test.YthdgfchmglkpaaaC
import Derived.Test.YthdgfchmglkpaaaD
import Derived.Test.YthdgfchmglkpaaaE
import Derived.Test.YthdgfchmglkpaaaF
import Derived.Test.YthdgfchmglkpaaaJ
import Derived.Test.YthdgfchmglkpaaaK
import Derived.Test.YthdgfchmglkpaaaL
import Derived.Test.YthdgfchmglkpaaaM
import Derived.Test.YthdgfchmglkpaaaU
import Derived.Test.YthdgfchmglkpaaaS
import Derived.Test.YthdgfchmglkpaaaVS
import Derived.Test.YthdgfchmglkpaaaVF
import Derived.Test.YthdgfchmglkpaaaVH
import Derived.Test.YthdgfchmglkpaaaVK
import Derived.Test.YthdgfchmglkpaaaVL
import Derived.Test.YthdgfchmglkpaaaWJ
import Derived.WalkKit
import Derived.WalkSpells
import Derived.WalkLawsBesides
import Derived.Deep.QuietTactic
import Derived.BigQuiet
import Derived.Lib.Hide
import Derived.Lib.SmallJoins
import Derived.Outline
import Derived.OwnWalk
import Derived.Deep.CutBlock
import Derived.BigRegion
import Derived.StillTailTactics
import Derived.Laws.AppendOwnNone
import Derived.Maps.AppendAt
import Derived.Deep.RegionLaw
import Derived.Deep.RegionHeld3
import Derived.Lib.BufferRead
import Derived.Deep.AppendLies
import Derived.Lib.SliceRun
import Derived.Laws.CopyOwn
namespace Go.Proofs.Ythdgfchmglkpaaa
open Go.RowKit
/-- The files of no name of some. -/
def outsF (ks : List ByteArray) (M : List Fl) : List Fl := M.filter (fun f => decide (f.1 ∉ ks))
theorem outs_same {M : List Fl} {i : Nat} {f : Fl} {ks : List ByteArray} (h : M[i]? = some f) (e : f.1 ∈ ks) : outsF ks (M.take (i + 1)) = outsF ks (M.take i) := by
  unfold outsF
  rw [List.take_add_one, h, List.filter_append]
  simp [e]
theorem outs_other {M : List Fl} {i : Nat} {f : Fl} {ks : List ByteArray} (h : M[i]? = some f) (e : f.1 ∉ ks) : outsF ks (M.take (i + 1)) = outsF ks (M.take i) ++ [f] := by
  unfold outsF
  rw [List.take_add_one, h, List.filter_append]
  simp [e]
theorem outs_all {M : List Fl} {ks : List ByteArray} (h : ∀ f ∈ M, ¬ f.1 ∈ ks) : outsF ks M = M := List.filter_eq_self.2 (fun f hf => decide_eq_true (h f hf))
/-- The files of another name. -/
def outF (k : ByteArray) (M : List Fl) : List Fl := M.filter (fun f => decide (f.1 ≠ k))
theorem outs_one (k : ByteArray) (M : List Fl) : outsF [k] M = outF k M := by
  unfold outsF outF
  congr 1
  funext f
  simp
theorem outs_two (k t : ByteArray) (M : List Fl) : outsF [k, t] M = outF k (outF t M) := by
  unfold outsF outF
  rw [List.filter_filter]
  congr 1
  funext f
  by_cases h1 : f.1 = k <;> by_cases h2 : f.1 = t <;> simp [h1, h2]
theorem out_none {M : List Fl} {k : ByteArray} (h : ∀ f ∈ M, ¬ f.1 = k) : outF k M = M := List.filter_eq_self.2 (fun f hf => decide_eq_true (h f hf))
theorem out_len (M : List Fl) (k : ByteArray) : (outF k M).length ≤ M.length := List.length_filter_le _ _
theorem SRow.files {w : World} {g cap : Nat} {M : List Fl} (h : SRow w g cap M) : FilesAt w (some ⟨g, 0, none⟩) M := fun i f hi => by
  obtain ⟨h1, h2, h3⟩ := h.at hi
  refine ⟨_, rfl, h.inB, ?_⟩
  rw [add_zero]
  exact ⟨h1, h2, h3⟩
theorem oneanyW (w : World) (o : Obj) : ∃ W, W = w.alloc o ∧ W.heap[w.heap.size]? = some o ∧ Below w.heap.size w W ∧ W.heap.size = w.heap.size + 1 := ⟨_, rfl, heap_alloc_new w _, (Below.refl _ _).alloc (Nat.le_refl _) _, by simp⟩
set_option maxRecDepth 100000 in
set_option maxHeartbeats 8000000 in
theorem delf_any {w : World} {g cap n b : Nat} {M : List Fl} (ks : List ByteArray) (hb : ∀ w', Only [g] w w' → NmsAt w' b ks) (h : SRow w g cap M) (hn : M.length = n) (few : n ≤ 1000000) :
    Calls Try.prog 58 #[slV g n cap, .func (.func 59) #[] #[.pointer (some ⟨b, 0, none⟩)]] w fun e w' => e = .returned (slV g (outsF ks M).length cap) ∧ SRow w' g cap (outsF ks M) ∧ Only [g] w w' := by
  have hcn : n ≤ cap := by have := h.1; omega
  have hfew := Lib.hid (show n ≤ 1000000 ∧ n ≤ cap from ⟨few, hcn⟩)
  have hI := Lib.hid (index_without_any (c := cap) ks b (hb w (Only.refl _ _)) h.files (by omega))
  rw [hn] at hI
  have hnH := Lib.hid hn
  have hH := Lib.hid h
  have hbH := Lib.hid hb
  have hget : Hid (∀ k, k < n → ∃ x, M[k]? = some x) := Lib.hid (fun k hk => ⟨_, List.getElem?_eq_getElem (by omega)⟩)
  clear h hn few hcn hb
  go_enter Try.func58, Try.ntmps58
  go_upto_region 2 with (go_at_call 47; (with_reducible refine (hI.out).mono ?_); rintro e w1 ⟨⟨r, rfl, hr⟩, hb1⟩)
  have hb1H := Lib.hid hb1
  clear hb1 hI
  rcases hr with ⟨rfl, hno⟩ | ⟨i, f, rfl, hi, hp, h0⟩
  · have he := Lib.hid (outs_all hno)
    clear hno
    go_wp2_with fail
    go_ret
    rw [he.out]
    exact ⟨by rw [hnH.out]; rfl, hH.out.on hb1H.out, (Only.refl [g] w).trans (of_below hb1H.out) (by simp)⟩
  · have hil : i < n := by have := (List.getElem?_eq_some_iff.1 hi).1; have := hnH.out; omega
    have hf := hfew.out
    have s2 := wrap_small (x := (i : Int) + 1) (by omega)
    have hK0 : Hid ((outsF ks (M.take (i + 1))).length = i ∧ outsF ks (M.take (i + 1)) = M.take i) := Lib.hid (by
      rw [outs_same hi hp, outs_all h0]
      exact ⟨by rw [List.length_take]; have := hnH.out; omega, rfl⟩)
    have hilH := Lib.hid hil
    have hR0 : Hid (SRow w1 g cap (outsF ks (M.take (i + 1)) ++ M.drop i)) := Lib.hid (by rw [hK0.out.2, List.take_append_drop]; exact hH.out.on hb1H.out)
    have hO0 : Hid (Only [g] w w1) := Lib.hid ((Only.refl [g] w).trans (of_below hb1H.out) (by simp))
    clear hil hf hi hp h0 hb1H
    have dneg : ((i : Int) == -1) = false := beq_false_of_ne (by omega)
    have dneg2 : decide ((i : Int) = -1) = false := decide_eq_false (by omega)
    go_wp2_with fail
    go_loopw [5, 6, 7] (fun s5 s6 s7 wr => ∃ z j : Nat, s5 = .int .i64 (z : Int) ∧ s6 = .int .i64 (j : Int) ∧ Hid (z < j ∧ j ≤ n) ∧ Hid ((outsF ks (M.take j)).length = z ∧ SRow wr g cap (outsF ks (M.take j) ++ M.drop z)) ∧ Hid (Only [g] w wr)) (fun s5 s6 s7 _ => n - (intOf s6).toNat)
    case atStart => exact ⟨i, i + 1, rfl, by go_num, Lib.hid (by have := hilH.out; omega), Lib.hid ⟨hK0.out.1, hR0.out⟩, hO0⟩
    case round =>
      clear hR0 hO0 hK0 hilH s2 dneg dneg2
      obtain ⟨z, j, rfl, rfl, hz, hR, hO⟩ := hrel
      obtain ⟨z1, z2⟩ := hz.out
      obtain ⟨l1, l2⟩ := hfew.out
      obtain ⟨hRl, hRr⟩ := hR.out
      have hnn := hnH.out
      have hbc := hbH.out _ hO.out
      by_cases hjn : j < n
      · obtain ⟨y, hy⟩ := hget.out j hjn
        have hRy := drop_at (k := z) hRl (by omega) hy
        have hix1 := run_ixG g j n cap hjn
        have hix3 := run_ixG g z n cap (by omega)
        have s2 := wrap_small (x := (j : Int) + 1) (by omega)
        have s3 := wrap_small (x := (z : Int) + 1) (by omega)
        have d3 : decide ((j : Int) < (n : Int)) = true := decide_eq_true (by omega)
        have d4 : decide (j < n) = true := decide_eq_true hjn
        obtain ⟨x0, x1, x2⟩ := hRr.at hRy
        obtain ⟨X, hX, k5, k5b, k5s⟩ := oneanyW wr (.cells #[.string y.1, .string y.2.1, .int .i64 y.2.2] 39)
        have hC := Lib.hid (without1_any y ks b X (hbc.on k5b))
        have hnum : Hid (z < j + 1 ∧ z + 1 < j + 1 ∧ j < n ∧ z < M.length) := Lib.hid (by omega)
        have hzM : z < M.length := by omega
        obtain ⟨tz, htz⟩ : ∃ tz, (outsF ks (M.take j) ++ M.drop z)[z]? = some tz := ⟨_, drop_at (j := z) hRl (Nat.le_refl _) (List.getElem?_eq_getElem hzM)⟩
        have hXr := hRr.on k5b
        have hXO := Lib.hid (hO.out.trans (of_below k5b) (by simp))
        have hlt : g < wr.heap.size := hRr.lt
        obtain ⟨b0, b1, b2, -, -, -⟩ := three k5
        by_cases hyk : y.1 ∈ ks
        · rw [decide_eq_true hyk] at hC
          have hR2 : Hid (∀ W, Below X.heap.size X W → (outsF ks (M.take (j + 1))).length = z ∧ SRow W g cap (outsF ks (M.take (j + 1)) ++ M.drop z)) := Lib.hid (fun W hW => by
            rw [outs_same hy hyk]
            exact ⟨hRl, hXr.on hW⟩)
          clear z1 z2 l1 l2 hRl hRr hnn hjn hy hRy hzM htz hyk hR hXr hlt hbc k5 k5b
          go_upto_region 8 with fail
          rw [← hX]
          clear hX
          go_wp2_with (go_at_call 59; (with_reducible refine (hC.out).mono ?_); rintro e u2 ⟨rfl, bb1⟩)
          have hbu := Lib.hid bb1
          clear bb1 hC
          go_roundw
          case rel => exact ⟨z, j + 1, rfl, by go_num, Lib.hid (by have := hnum.out; omega), Lib.hid (hR2.out _ hbu.out), Lib.hid (hXO.out.trans (of_below hbu.out) (by simp))⟩
          case measure => have := hnum.out; simp [intOf]; omega
        · rw [decide_eq_false hyk] at hC
          have hR2 : Hid (∀ W, Below X.heap.size X W → (outsF ks (M.take (j + 1))).length = z + 1 ∧ SRow (put3 W g z y) g cap (outsF ks (M.take (j + 1)) ++ M.drop (z + 1)) ∧ Only [g] W (put3 W g z y)) := Lib.hid (fun W hW => by
            have h1 := (hXr.on hW).put (i := z) (by rw [List.length_append, List.length_drop, hRl]; omega) y
            rw [drop_set hRl hzM] at h1
            rw [outs_other hy hyk]
            exact ⟨by rw [List.length_append, hRl]; rfl, h1, only_put3 _ _ _ _⟩)
          have hMz : Hid (∀ W, Below X.heap.size X W → (W.cell? ⟨g, z * 3, none⟩ = some (.string tz.1) ∧ W.cell? ⟨g, z * 3 + 1, none⟩ = some (.string tz.2.1) ∧ W.cell? ⟨g, z * 3 + 2, none⟩ = some (.int .i64 tz.2.2)) ∧ (W.cell? ⟨wr.heap.size, 0, none⟩ = some (.string y.1) ∧ W.cell? ⟨wr.heap.size, 1, none⟩ = some (.string y.2.1) ∧ W.cell? ⟨wr.heap.size, 2, none⟩ = some (.int .i64 y.2.2)) ∧ (∀ k, W.frozen? ⟨g, k, none⟩ = false) ∧ (∀ u, (W.setCell ⟨g, z * 3, none⟩ u).cell? ⟨g, z * 3 + 1, none⟩ = some (.string tz.2.1)) ∧ (∀ u v, ((W.setCell ⟨g, z * 3, none⟩ u).setCell ⟨g, z * 3 + 1, none⟩ v).cell? ⟨g, z * 3 + 2, none⟩ = some (.int .i64 tz.2.2)) ∧ (∀ u k, (W.setCell ⟨g, z * 3, none⟩ u).frozen? ⟨g, k, none⟩ = false) ∧ (∀ u v k, ((W.setCell ⟨g, z * 3, none⟩ u).setCell ⟨g, z * 3 + 1, none⟩ v).frozen? ⟨g, k, none⟩ = false)) := Lib.hid (fun W hW => by
            have hs := hXr.on hW
            have h1 := hs.at htz
            have hw5 := (hW.block wr.heap.size (some_lt k5)).trans k5
            obtain ⟨q0, q1, q2, -, -, -⟩ := three hw5
            obtain ⟨_, C, c2, _⟩ := hs
            refine ⟨h1, ⟨q0, q1, q2⟩, fun k => Joins.unfrozen_of_block c2 k, fun u => ?_, fun u v => ?_, fun u k => Joins.unfrozen_of_block (Joins.block_setCell c2 u) k, fun u v k => Joins.unfrozen_of_block (Joins.block_setCell (Joins.block_setCell c2 u) v) k⟩
            · rw [set_other _ (Or.inr (by omega))]; exact h1.2.1
            · rw [set_other _ (Or.inr (by omega)), set_other _ (Or.inr (by omega))]; exact h1.2.2)
          clear z1 z2 l1 l2 hRl hRr hnn hjn hy hRy hzM htz hyk hR hXr hlt hbc k5 k5b
          go_upto_region 8 with fail
          rw [← hX]
          clear hX
          go_upto_region 9 with (go_at_call 59; (with_reducible refine (hC.out).mono ?_); rintro e u2 ⟨rfl, bb1⟩; obtain ⟨⟨t1, t2, t3⟩, ⟨y1, y2, y3⟩, f0, t4, t5, f1, f2⟩ := hMz.out _ bb1)
          obtain ⟨r1, r2, r3⟩ := hR2.out _ bb1
          unfold put3 at r2 r3
          have r2H := Lib.hid r2
          have r3H := Lib.hid r3
          have r1H := Lib.hid r1
          have hbu := Lib.hid bb1
          clear bb1 hC hMz hR2 r1 r2 r3
          go_wp2_with fail
          go_roundw
          case rel => exact ⟨z + 1, j + 1, by go_num, by go_num, Lib.hid (by have := hnum.out; omega), Lib.hid ⟨r1H.out, r2H.out⟩, Lib.hid ((hXO.out.trans (of_below hbu.out) (by simp)).trans r3H.out (fun k hk => Or.inl hk))⟩
          case measure => have := hnum.out; simp [intOf]; omega
      · have hjn2 : j = n := by omega
        have hzn : z < n := by omega
        have hall : M.take j = M := List.take_of_length_le (by omega)
        rw [hall] at hRl hRr
        have hRH : Hid ((outsF ks M).length = z ∧ SRow wr g cap (outsF ks M ++ M.drop z)) := Lib.hid ⟨hRl, hRr⟩
        have d3 : decide ((j : Int) < (n : Int)) = false := decide_eq_false (by omega)
        have d4 : decide (j < n) = false := decide_eq_false hjn
        have hc1 := cut_from g n cap z hzn l2
        have hc2 := cut_to g n cap z (by omega) l2
        obtain ⟨l6, hl6⟩ : ∃ l, l = n - z := ⟨_, rfl⟩
        obtain ⟨cl6, hcl6⟩ : ∃ cl, cl = cap - z := ⟨_, rfl⟩
        rw [← hl6, ← hcl6] at hc1
        have hfit : Hid (z ≤ (outsF ks M ++ M.drop z).length ∧ z + l6 ≤ cap) := Lib.hid ⟨by rw [List.length_append, hRH.out.1]; exact Nat.le_add_right _ _, by omega⟩
        clear z1 z2 l1 l2 hRl hRr hnn hjn hjn2 hzn hR hl6 hcl6 hall hbc
        go_wp2_with (first | (refine wpList_clear_fl (o := ⟨none, .call ⟨_, #[.tmp 38], _⟩, _, _, _, _⟩) (by rfl) (.tmp 38) (by rfl) g z l6 cl6 cap (outsF ks M ++ M.drop z) (by rfl) hRH.out.2 hfit.out.1 hfit.out.2 ?_; intro w7 hr7 ho7))
        have hr7H : Hid (SRow w7 g cap (outsF ks M)) := Lib.hid (by
          have e : (outsF ks M ++ M.drop z).take z = outsF ks M := by rw [List.take_append_of_le_length (by rw [hRH.out.1]; exact Nat.le_refl _), List.take_of_length_le (by rw [hRH.out.1]; exact Nat.le_refl _)]
          rw [e] at hr7
          exact hr7)
        have ho7H := Lib.hid (hO.out.trans ho7 (fun k hk => Or.inl hk))
        clear hr7 ho7
        go_wp2_with fail
        go_ret
        exact ⟨by rw [hRH.out.1]; rfl, hr7H.out, ho7H.out⟩
end Go.Proofs.Ythdgfchmglkpaaa
