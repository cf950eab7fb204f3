/-
  The walk down the levels by a pair. Premises: a list as it lies; what is ahead is told by a function that tells so of the first k pairs alone.
-/
import Derived.Test.YtijfipghoilpeaaDoorD
namespace Go.Proofs.YtijfipghoilpeaaDoor
open Go.RowKit

set_option maxHeartbeats 4000000 in
theorem down_find {D : Nat} {sd c : Int} {ns : List Nd} {k : Nat} (w : World) (d : Value) (hd : (d = .pointer none ∧ ns = []) ∨ (d = .pointer (some ⟨D, 0, none⟩) ∧ Lst w D sd c ns)) (hk : k ≤ ns.length) (hlen : ns.length ≤ 1000000)
    (B1 : Nat) (hf : ∀ w1, Only [] w w1 → ∀ (r : Nat) (n : Nd), ns[r]? = some n → Calls Tryd.prog 33 #[scV n.x, .int .i64 (r : Int), .pointer (some ⟨B1, 0, none⟩)] w1 fun e w' => e = .returned (.bool (decide (r < k))) ∧ Only [] w1 w') :
    Calls Tryd.prog 31 #[d, .func (.func 33) #[] #[.pointer (some ⟨B1, 0, none⟩)]] w fun e w' => ∃ C D', e = .returned (.agg C) ∧ PathC C D' ns k ∧ Only [] w w' ∧ (∃ sd' c', Lst w' D' sd' c' ns) ∧ (d = .pointer (some ⟨D, 0, none⟩) → D' = D) := by
  have hp0 : path0 = #[.slice none 0 0, .int .i64 0, .slice none 0 0, .int .i64 0, .slice none 0 0, .int .i64 0, .slice none 0 0, .int .i64 0, .slice none 0 0, .int .i64 0, .slice none 0 0, .int .i64 0, .slice none 0 0, .int .i64 0, .slice none 0 0, .int .i64 0, .slice none 0 0, .int .i64 0, .slice none 0 0, .int .i64 0, .slice none 0 0, .int .i64 0, .slice none 0 0, .int .i64 0, .slice none 0 0, .int .i64 0, .slice none 0 0, .int .i64 0, .slice none 0 0, .int .i64 0, .slice none 0 0, .int .i64 0] := rfl
  have hz0 : zeroC 0 = #[.int .u64 0, .pointer none, .int .i64 0, .pointer none, .int .i64 0, .pointer none, .int .i64 0, .pointer none, .int .i64 0, .pointer none, .int .i64 0, .pointer none, .int .i64 0, .pointer none, .int .i64 0, .pointer none, .int .i64 0, .pointer none, .int .i64 0, .pointer none, .int .i64 0, .pointer none, .int .i64 0, .pointer none, .int .i64 0, .pointer none, .int .i64 0, .pointer none, .int .i64 0, .pointer none, .int .i64 0, .pointer none, .int .i64 0, .int .i64 0] := rfl
  rcases hd with ⟨rfl, hns⟩ | ⟨rfl, hl⟩
  all_goals go_enter Tryd.func31, Tryd.ntmps31
  all_goals go_upto_region 5 with (fail)
  · have hO1 : Only [] w (w.alloc (.cells path0 61)) := (Only.refl [] w).alloc _
    have hz : (w.alloc (.cells path0 61)).heap.size = w.heap.size + 1 := by simp
    have hlz := lst_zero (w.alloc (.cells path0 61)) 0
    have hr := heap_alloc_new w (.cells path0 61)
    have hr2 : ((w.alloc (.cells path0 61)).alloc (.cells (zeroC 0) 55)).heap[w.heap.size]? = some (.cells path0 61 (0, 0)) := by rw [Below.heap_alloc _ _ _ (by omega)]; exact hr
    have hD := dn_start (R := w.heap.size) k (hO1.alloc _) hlz hr2 (Nat.le_refl _) (fun b hb => by simp [blks] at hb; omega)
    have hz2 : ((w.alloc (.cells path0 61)).alloc (.cells (zeroC 0) 55)).heap.size = w.heap.size + 1 + 1 := by simp
    rw [hz2, hz, ← hns, hp0, hz0] at hD
    obtain ⟨sd1, c1, hD⟩ := dn_ex hD
    clear hO1 hz hlz hr hr2 hz2 hp0 hz0 hns
    generalize (((w.alloc (.cells #[.slice none 0 0, .int .i64 0, .slice none 0 0, .int .i64 0, .slice none 0 0, .int .i64 0, .slice none 0 0, .int .i64 0, .slice none 0 0, .int .i64 0, .slice none 0 0, .int .i64 0, .slice none 0 0, .int .i64 0, .slice none 0 0, .int .i64 0, .slice none 0 0, .int .i64 0, .slice none 0 0, .int .i64 0, .slice none 0 0, .int .i64 0, .slice none 0 0, .int .i64 0, .slice none 0 0, .int .i64 0, .slice none 0 0, .int .i64 0, .slice none 0 0, .int .i64 0, .slice none 0 0, .int .i64 0] 61)).alloc (.cells #[.int .u64 0, .pointer none, .int .i64 0, .pointer none, .int .i64 0, .pointer none, .int .i64 0, .pointer none, .int .i64 0, .pointer none, .int .i64 0, .pointer none, .int .i64 0, .pointer none, .int .i64 0, .pointer none, .int .i64 0, .pointer none, .int .i64 0, .pointer none, .int .i64 0, .pointer none, .int .i64 0, .pointer none, .int .i64 0, .pointer none, .int .i64 0, .pointer none, .int .i64 0, .pointer none, .int .i64 0, .pointer none, .int .i64 0, .int .i64 0] 55)).alloc (.cells #[.slice none 0 0, .int .i64 0, .slice none 0 0, .int .i64 0, .slice none 0 0, .int .i64 0, .slice none 0 0, .int .i64 0, .slice none 0 0, .int .i64 0, .slice none 0 0, .int .i64 0, .slice none 0 0, .int .i64 0, .slice none 0 0, .int .i64 0, .slice none 0 0, .int .i64 0, .slice none 0 0, .int .i64 0, .slice none 0 0, .int .i64 0, .slice none 0 0, .int .i64 0, .slice none 0 0, .int .i64 0, .slice none 0 0, .int .i64 0, .slice none 0 0, .int .i64 0, .slice none 0 0, .int .i64 0] 61)).alloc (.cells #[.slice (some ⟨w.heap.size + 1, 1, none⟩) 16 16, .int .i64 0] 59) = W at *
    generalize w.heap.size + 1 + 1 + 1 = A at *
    generalize w.heap.size + 1 + 1 = P at *
    generalize w.heap.size + 1 = D1 at *
    generalize w.heap.size = R at *
    go_wp2_with fail
    go_loopw [18] (fun s18 wr => ∃ (j : Nat), j ≤ 16 ∧ s18 = .int .i64 j ∧ Hid (Dn w wr R P A D1 sd1 c1 ns k j (own ns (16 - j) k))) (fun s18 _ => 16 - (intOf s18).toNat)
    case atStart => exact ⟨0, by omega, rfl, hD⟩
    case round =>
      obtain ⟨j, hj, rfl, hT⟩ := hrel
      by_cases hlt : j < 16
      · obtain ⟨b, o, m, hlk, hLm, a0, n0, n1, hS⟩ := Dl.start (L := 15 - j) hT.out hlt rfl
        have hSH := Lib.hid hS
        have hix := run_lk b o m (15 - j) (15 - (j : Int)) (by omega) hLm
        have hltH := Lib.hid hlt
        have hdj : decide ((j : Int) < 16) = true := decide_eq_true (by omega)
        clear hS hLm
        generalize hLe : 15 - j = L at *
        have hLeH := Lib.hid hLe
        have hkH := Lib.hid hk
        have hlenH := Lib.hid hlen
        clear hLe hk hlen
        generalize (lnk L (ns.drop (own ns (16 - j) k))).1 = u0 at *
        generalize ((lnk L (ns.drop (own ns (16 - j) k))).2 : Int) = u1 at *
        have hpa := run_pa P L (15 - (j : Int)) (by have := hLeH.out; omega) (by have := hLeH.out; omega)
        go_wp2_with fail
        generalize hW1 : World.alloc _ _ = W1 at *
        generalize wr.heap.size = N at *
        clear hW1 hix a0 n0 n1 hlk hT
        go_loopg [] (k - own ns (16 - j) k) (fun g wi => ∃ q, g = k - q ∧ Hid (Dl w wi R P A N D1 sd1 c1 ns k j L q))
        case atStart => exact ⟨_, rfl, hSH⟩
        case round =>
          obtain ⟨q, rfl, hQ⟩ := hrel
          obtain ⟨c0, c1, c2, c3⟩ := hQ.out.cells
          rcases lnk_case L (ns.drop q) with ⟨e1, e2⟩ | ⟨i, n, e0, e1, e2, e3⟩
          · rw [e1] at c0 c1
            have hlow := Lib.hid e2
            clear e1 e2
            simp only at c0 c1
            generalize (ns.drop q).length = u1 at *
            have hst : Hid (∀ i m, q ≤ i → i < k → ns[i]? = some m → ¬ L < m.h) := Lib.hid (fun i m h1 _ h3 => hlow.out m (List.mem_of_getElem? (i := i - q) (by rw [List.getElem?_drop, show q + (i - q) = i by omega]; exact h3)))
            have hL16 : L < 16 := by have := hLeH.out; omega
            obtain ⟨b1, o1, m1, _, hlk1, _⟩ := hQ.out.ow
            have hv : lkV D1 ns q = .slice (some ⟨b1, o1, none⟩) m1 m1 := by unfold lkV; rw [hlk1]
            rw [hv] at c3
            have hdone := Lib.hid (fun n => hQ.out.done hltH.out hLeH.out.symm hst.out n)
            rw [hv] at hdone
            clear hv hlow
            go_wp2_with fail
            go_quiet (fail)
            rename_i nq
            obtain ⟨⟨pv, p0⟩, p1, p2, p3⟩ := hQ.out.path hL16 nq
            obtain ⟨pu, p1⟩ := p1 (.slice (some ⟨b1, o1, none⟩) m1 m1)
            have p3 := p3 (.slice (some ⟨b1, o1, none⟩) m1 m1)
            clear hL16
            go_wp2_with fail
            go_roundw
            case rel => exact ⟨j + 1, by have := hltH.out; omega, by go_num, Lib.hid (hdone.out _)⟩
            case measure => have := hltH.out; simp [intOf]; omega
          · rw [e2] at c0 c1
            have hir : ns[q + i]? = some n := by rw [List.getElem?_drop] at e0; exact e0
            have hil : q + i < ns.length := (List.getElem?_eq_some_iff.1 hir).1
            have hmem := List.mem_of_getElem? hir
            obtain ⟨k0, k1, k2⟩ := hQ.out.dn.lst.base.node_cells hmem
            have hlow : Hid (∀ j m, j < i → ns[q + j]? = some m → ¬ L < m.h) := Lib.hid (fun j m h1 h2 => e3 j m h1 (by rw [List.getElem?_drop]; exact h2))
            have hB := hlenH.out
            obtain ⟨x1, hx1⟩ : ∃ x1 : Int, x1 = (q : Int) + ((i : Int) + 1) := ⟨_, rfl⟩
            obtain ⟨x2, hx2⟩ : ∃ x2 : Int, x2 = (q : Int) + (i : Int) := ⟨_, rfl⟩
            have hs1 : IntKind.i64.wrap ((q : Int) + ((i : Int) + 1)) = x1 := by rw [hx1]; exact IntWalk.i64_in _ (by omega)
            have hs2 : IntKind.i64.wrap (x1 - 1) = x2 := by rw [show x1 - 1 = x2 by omega]; exact IntWalk.i64_in _ (by omega)
            have hC : ∀ w1, Only [] w w1 → Calls Tryd.prog 33 #[.agg #[.string n.x.1, .int .i64 n.x.2], .int .i64 x2, .pointer (some ⟨B1, 0, none⟩)] w1 fun e w' => e = .returned (.bool (decide (q + i < k))) ∧ Only [] w1 w' := fun w1 h1 => by
              have := hf w1 h1 (q + i) n hir
              unfold scV at this
              rw [hx2]
              exact_mod_cast this
            have hCH := Lib.hid hC
            have hx1H := Lib.hid hx1
            have hx2H := Lib.hid hx2
            have e1H := Lib.hid e1
            have hirH := Lib.hid hir
            have hilH := Lib.hid hil
            have hO := hQ.out.dn.only
            have hOd := hO.drew
            simp only [Int.natCast_add, Int.natCast_one] at c0 c1
            clear e0 e1 e2 e3 hB hC hx1 hx2 hmem hil hir
            by_cases hrk : q + i < k
            · have hCt : ∀ w1, Only [] w w1 → Calls Tryd.prog 33 #[.agg #[.string n.x.1, .int .i64 n.x.2], .int .i64 x2, .pointer (some ⟨B1, 0, none⟩)] w1 fun e w' => e = .returned (.bool true) ∧ Only [] w1 w' := fun w1 h1 => by
                have := hCH.out w1 h1
                rw [decide_eq_true hrk] at this
                exact this
              have hCtH := Lib.hid hCt
              have hrkH := Lib.hid hrk
              clear hCt hrk
              go_wp2_with fail
              go_region_held3 (fun w' => Only [] w w' ∧ w'.cell? ⟨N, 0, none⟩ = some (.pointer (some ⟨n.nb, 0, none⟩)) ∧ w'.cell? ⟨N, 1, none⟩ = some (.int .i64 ((i : Int) + 1)) ∧ w'.cell? ⟨A, 1, none⟩ = some (.int .i64 (q : Int)) ∧ w'.cell? ⟨n.nb, 0, none⟩ = some (.string n.x.1) ∧ w'.cell? ⟨n.nb, 1, none⟩ = some (.int .i64 n.x.2))
                (first | exact ⟨hO, c0, c1, c2, k0, k1⟩ | exact ⟨hOd, c0, c1, c2, k0, k1⟩ | exact ⟨t9, t0, t1, t2, t3, t4⟩ | assumption)
                (first | (go_at_call 33; (with_reducible refine (hCtH.out _ (by assumption)).mono ?_); rintro e w3 ⟨rfl, h3⟩; have t9 : Only [] w w3 := hOd.trans h3 (by simp); have t0 := cell_keep (a := wr.drew) h3 c0; have t1 := cell_keep (a := wr.drew) h3 c1; have t2 := cell_keep (a := wr.drew) h3 c2; have t3 := cell_keep (a := wr.drew) h3 k0; have t4 := cell_keep (a := wr.drew) h3 k1; have t5 := cell_keep (a := wr.drew) h3 k2; have hQ3 := Lib.hid (hQ.out.same (((Only.refl [] wr).drew).trans h3 (by simp)))))
              all_goals go_wp2_with fail
              obtain ⟨⟨av, y0⟩, y1, ⟨au, y2⟩, y3⟩ := hQ3.out.atfacts
              go_region
              have hM := Lib.hid (hQ3.out.step1 hirH.out e1H.out hrkH.out x1 (by have := hx1H.out; omega))
              generalize ((w3.setCell ⟨A, 0, none⟩ (.slice (some ⟨n.lb, 0, none⟩) n.h n.h)).setCell ⟨A, 1, none⟩ (.int .i64 x1)).drew = W4 at *
              clear y0 y1 y2 y3 t0 t1 t2 t3 t4 t5 t9 hQ3 h3 c0 c1 c2 c3 k0 k1 k2 hO hOd hQ
              have hL16 : L < 16 := by have := hLeH.out; omega
              obtain ⟨z0, z1, z2, ⟨zv, z3⟩, z4, z5, z6, hZ⟩ := hM.out.facts hL16 hirH.out e1H.out
              obtain ⟨zu, z5⟩ := z5 (.pointer (lnk L (ns.drop (q + i + 1))).1)
              have z6 := z6 (.pointer (lnk L (ns.drop (q + i + 1))).1)
              have hix2 := run_lk n.lb 0 n.h L (15 - (j : Int)) (by have := hLeH.out; omega) e1H.out
              rw [Nat.zero_add] at hix2
              have hZH := Lib.hid hZ
              clear hZ
              generalize (lnk L (ns.drop (q + i + 1))).1 = u2 at *
              generalize ((lnk L (ns.drop (q + i + 1))).2 : Int) = u3 at *
              go_wp2_with fail
              go_roundg (k - (q + i + 1))
              case measure => have := hrkH.out; omega
              case rel => exact ⟨q + i + 1, rfl, hZH⟩
            · have hCt : ∀ w1, Only [] w w1 → Calls Tryd.prog 33 #[.agg #[.string n.x.1, .int .i64 n.x.2], .int .i64 x2, .pointer (some ⟨B1, 0, none⟩)] w1 fun e w' => e = .returned (.bool false) ∧ Only [] w1 w' := fun w1 h1 => by
                have := hCH.out w1 h1
                rw [decide_eq_false hrk] at this
                exact this
              have hCtH := Lib.hid hCt
              have hst : Hid (∀ i' m, q ≤ i' → i' < k → ns[i']? = some m → ¬ L < m.h) := Lib.hid (fun i' m h1 h2 h3 => hlow.out (i' - q) m (by omega) (by rw [show q + (i' - q) = i' by omega]; exact h3))
              obtain ⟨b1, o1, m1, _, hlk1, _⟩ := hQ.out.ow
              have hv : lkV D1 ns q = .slice (some ⟨b1, o1, none⟩) m1 m1 := by unfold lkV; rw [hlk1]
              rw [hv] at c3
              have hL16 : Hid (L < 16) := Lib.hid (by have := hLeH.out; omega)
              clear hCt hrk hlow
              go_wp2_with fail
              go_region_held3 (fun w' => Only [] w w' ∧ w'.cell? ⟨N, 0, none⟩ = some (.pointer (some ⟨n.nb, 0, none⟩)) ∧ w'.cell? ⟨N, 1, none⟩ = some (.int .i64 ((i : Int) + 1)) ∧ w'.cell? ⟨A, 1, none⟩ = some (.int .i64 (q : Int)) ∧ w'.cell? ⟨n.nb, 0, none⟩ = some (.string n.x.1) ∧ w'.cell? ⟨n.nb, 1, none⟩ = some (.int .i64 n.x.2))
                (first | exact ⟨hO, c0, c1, c2, k0, k1⟩ | exact ⟨hOd, c0, c1, c2, k0, k1⟩ | exact ⟨t9, t0, t1, t2, t3, t4⟩ | assumption)
                (first | (go_at_call 33; (with_reducible refine (hCtH.out _ (by assumption)).mono ?_); rintro e w3 ⟨rfl, h3⟩; have t9 : Only [] w w3 := hOd.trans h3 (by simp); have t0 := cell_keep (a := wr.drew) h3 c0; have t1 := cell_keep (a := wr.drew) h3 c1; have t2 := cell_keep (a := wr.drew) h3 c2; have t3 := cell_keep (a := wr.drew) h3 k0; have t4 := cell_keep (a := wr.drew) h3 k1; have t5 := cell_keep (a := wr.drew) h3 c3; have hQ3 := Lib.hid (hQ.out.same (((Only.refl [] wr).drew).trans h3 (by simp)))))
              have hdone := Lib.hid (hQ3.out.done hltH.out hLeH.out.symm hst.out 0)
              obtain ⟨⟨pv, p0⟩, p1, p2, p3⟩ := hQ3.out.path hL16.out 0
              obtain ⟨pu, p1⟩ := p1 (.slice (some ⟨b1, o1, none⟩) m1 m1)
              have p3 := p3 (.slice (some ⟨b1, o1, none⟩) m1 m1)
              rw [hv] at hdone
              rw [show w3.drewN 0 = w3 from rfl] at hdone p1 p3
              go_wp2_with fail
              go_roundw
              case rel => exact ⟨j + 1, by have := hltH.out; omega, by go_num, hdone⟩
              case measure => have := hltH.out; simp [intOf]; omega
      · have hj16 : j = 16 := by omega
        subst hj16
        obtain ⟨⟨CR, r1, r2⟩, ⟨CP, p1, p2, p3⟩⟩ := (⟨hT.out.res, hT.out.pth⟩ : _ ∧ _)
        have hPC : PathC CP D1 ns k := ⟨p2, fun L hL => p3 L (by omega) hL⟩
        have hPCH := Lib.hid hPC
        have hone := Lib.hid hPC.one
        have hp2 := Lib.hid p2
        have hr2 := Lib.hid r2
        have hr1 := Lib.hid r1
        have hp1 := Lib.hid p1
        clear p1 p2 p3 r1 r2 hPC hD
        go_wp2_with (first
          | (refine wpList_load_path (o := ⟨some 66, _, _, _, _, _⟩) (by rfl) (.tmp 5) (by rfl) P (by rfl) CP hp1.out hp2.out ?_)
          | (refine wpList_store_path (o := ⟨none, _, _, _, _, _⟩) (by rfl) (.tmp 4) (.tmp 66) (by rfl) R (by rfl) CR CP (by rfl) hr1.out hr2.out hp2.out hone.out ?_; intro w9 h9 ho9; have h9H := Lib.hid h9; have ho9H := Lib.hid ho9; clear h9 ho9))
        have hO9 := hT.out.only.trans ho9H.out (fun x hx => by obtain rfl := List.mem_singleton.1 hx; exact Or.inr hT.out.lo.1)
        have hL9 := hT.out.lst.keep ho9H.out (fun x hx => by have := (hT.out.sep x hx).1; simpa using this)
        refine bodyPost_ret (v := .agg CP) ?_ rfl ⟨CP, D1, rfl, hPCH.out, hO9, ⟨sd1, c1, hL9⟩, ?_⟩
        · exact results_cell_row rfl _ _ R _ CP (0, 0) _ rfl h9H.out und_path rfl (by rw [hp2.out]; exact info_path)
        · intro hh
          first
            | exact hDeH.out.symm
            | (simp at hh)
            | (cases hh)
  · have hO1 : Only [] w (w.alloc (.cells path0 61)) := (Only.refl [] w).alloc _
    have hz : (w.alloc (.cells path0 61)).heap.size = w.heap.size + 1 := by simp
    have hD := dn_start (R := w.heap.size) k hO1 (hl.none' hO1) (heap_alloc_new w (.cells path0 61)) (Nat.le_refl _) (fun b hb => by have := hl.base.lt hb; omega)
    rw [hz, hp0] at hD
    obtain ⟨sd1, c1, hD⟩ := dn_ex hD
    clear hO1 hz hl hp0 hz0
    generalize ((w.alloc (.cells #[.slice none 0 0, .int .i64 0, .slice none 0 0, .int .i64 0, .slice none 0 0, .int .i64 0, .slice none 0 0, .int .i64 0, .slice none 0 0, .int .i64 0, .slice none 0 0, .int .i64 0, .slice none 0 0, .int .i64 0, .slice none 0 0, .int .i64 0, .slice none 0 0, .int .i64 0, .slice none 0 0, .int .i64 0, .slice none 0 0, .int .i64 0, .slice none 0 0, .int .i64 0, .slice none 0 0, .int .i64 0, .slice none 0 0, .int .i64 0, .slice none 0 0, .int .i64 0, .slice none 0 0, .int .i64 0] 61)).alloc (.cells #[.slice none 0 0, .int .i64 0, .slice none 0 0, .int .i64 0, .slice none 0 0, .int .i64 0, .slice none 0 0, .int .i64 0, .slice none 0 0, .int .i64 0, .slice none 0 0, .int .i64 0, .slice none 0 0, .int .i64 0, .slice none 0 0, .int .i64 0, .slice none 0 0, .int .i64 0, .slice none 0 0, .int .i64 0, .slice none 0 0, .int .i64 0, .slice none 0 0, .int .i64 0, .slice none 0 0, .int .i64 0, .slice none 0 0, .int .i64 0, .slice none 0 0, .int .i64 0, .slice none 0 0, .int .i64 0] 61)).alloc (.cells #[.slice (some ⟨D, 1, none⟩) 16 16, .int .i64 0] 59) = W at *
    generalize w.heap.size + 1 + 1 = A at *
    generalize w.heap.size + 1 = P at *
    generalize w.heap.size = R at *
    generalize hDe : D = D1 at *
    have hDeH := Lib.hid hDe
    clear hDe
    go_wp2_with fail
    go_loopw [18] (fun s18 wr => ∃ (j : Nat), j ≤ 16 ∧ s18 = .int .i64 j ∧ Hid (Dn w wr R P A D1 sd1 c1 ns k j (own ns (16 - j) k))) (fun s18 _ => 16 - (intOf s18).toNat)
    case atStart => exact ⟨0, by omega, rfl, hD⟩
    case round =>
      obtain ⟨j, hj, rfl, hT⟩ := hrel
      by_cases hlt : j < 16
      · obtain ⟨b, o, m, hlk, hLm, a0, n0, n1, hS⟩ := Dl.start (L := 15 - j) hT.out hlt rfl
        have hSH := Lib.hid hS
        have hix := run_lk b o m (15 - j) (15 - (j : Int)) (by omega) hLm
        have hltH := Lib.hid hlt
        have hdj : decide ((j : Int) < 16) = true := decide_eq_true (by omega)
        clear hS hLm
        generalize hLe : 15 - j = L at *
        have hLeH := Lib.hid hLe
        have hkH := Lib.hid hk
        have hlenH := Lib.hid hlen
        clear hLe hk hlen
        generalize (lnk L (ns.drop (own ns (16 - j) k))).1 = u0 at *
        generalize ((lnk L (ns.drop (own ns (16 - j) k))).2 : Int) = u1 at *
        have hpa := run_pa P L (15 - (j : Int)) (by have := hLeH.out; omega) (by have := hLeH.out; omega)
        go_wp2_with fail
        generalize hW1 : World.alloc _ _ = W1 at *
        generalize wr.heap.size = N at *
        clear hW1 hix a0 n0 n1 hlk hT
        go_loopg [] (k - own ns (16 - j) k) (fun g wi => ∃ q, g = k - q ∧ Hid (Dl w wi R P A N D1 sd1 c1 ns k j L q))
        case atStart => exact ⟨_, rfl, hSH⟩
        case round =>
          obtain ⟨q, rfl, hQ⟩ := hrel
          obtain ⟨c0, c1, c2, c3⟩ := hQ.out.cells
          rcases lnk_case L (ns.drop q) with ⟨e1, e2⟩ | ⟨i, n, e0, e1, e2, e3⟩
          · rw [e1] at c0 c1
            have hlow := Lib.hid e2
            clear e1 e2
            simp only at c0 c1
            generalize (ns.drop q).length = u1 at *
            have hst : Hid (∀ i m, q ≤ i → i < k → ns[i]? = some m → ¬ L < m.h) := Lib.hid (fun i m h1 _ h3 => hlow.out m (List.mem_of_getElem? (i := i - q) (by rw [List.getElem?_drop, show q + (i - q) = i by omega]; exact h3)))
            have hL16 : L < 16 := by have := hLeH.out; omega
            obtain ⟨b1, o1, m1, _, hlk1, _⟩ := hQ.out.ow
            have hv : lkV D1 ns q = .slice (some ⟨b1, o1, none⟩) m1 m1 := by unfold lkV; rw [hlk1]
            rw [hv] at c3
            have hdone := Lib.hid (fun n => hQ.out.done hltH.out hLeH.out.symm hst.out n)
            rw [hv] at hdone
            clear hv hlow
            go_wp2_with fail
            go_quiet (fail)
            rename_i nq
            obtain ⟨⟨pv, p0⟩, p1, p2, p3⟩ := hQ.out.path hL16 nq
            obtain ⟨pu, p1⟩ := p1 (.slice (some ⟨b1, o1, none⟩) m1 m1)
            have p3 := p3 (.slice (some ⟨b1, o1, none⟩) m1 m1)
            clear hL16
            go_wp2_with fail
            go_roundw
            case rel => exact ⟨j + 1, by have := hltH.out; omega, by go_num, Lib.hid (hdone.out _)⟩
            case measure => have := hltH.out; simp [intOf]; omega
          · rw [e2] at c0 c1
            have hir : ns[q + i]? = some n := by rw [List.getElem?_drop] at e0; exact e0
            have hil : q + i < ns.length := (List.getElem?_eq_some_iff.1 hir).1
            have hmem := List.mem_of_getElem? hir
            obtain ⟨k0, k1, k2⟩ := hQ.out.dn.lst.base.node_cells hmem
            have hlow : Hid (∀ j m, j < i → ns[q + j]? = some m → ¬ L < m.h) := Lib.hid (fun j m h1 h2 => e3 j m h1 (by rw [List.getElem?_drop]; exact h2))
            have hB := hlenH.out
            obtain ⟨x1, hx1⟩ : ∃ x1 : Int, x1 = (q : Int) + ((i : Int) + 1) := ⟨_, rfl⟩
            obtain ⟨x2, hx2⟩ : ∃ x2 : Int, x2 = (q : Int) + (i : Int) := ⟨_, rfl⟩
            have hs1 : IntKind.i64.wrap ((q : Int) + ((i : Int) + 1)) = x1 := by rw [hx1]; exact IntWalk.i64_in _ (by omega)
            have hs2 : IntKind.i64.wrap (x1 - 1) = x2 := by rw [show x1 - 1 = x2 by omega]; exact IntWalk.i64_in _ (by omega)
            have hC : ∀ w1, Only [] w w1 → Calls Tryd.prog 33 #[.agg #[.string n.x.1, .int .i64 n.x.2], .int .i64 x2, .pointer (some ⟨B1, 0, none⟩)] w1 fun e w' => e = .returned (.bool (decide (q + i < k))) ∧ Only [] w1 w' := fun w1 h1 => by
              have := hf w1 h1 (q + i) n hir
              unfold scV at this
              rw [hx2]
              exact_mod_cast this
            have hCH := Lib.hid hC
            have hx1H := Lib.hid hx1
            have hx2H := Lib.hid hx2
            have e1H := Lib.hid e1
            have hirH := Lib.hid hir
            have hilH := Lib.hid hil
            have hO := hQ.out.dn.only
            have hOd := hO.drew
            simp only [Int.natCast_add, Int.natCast_one] at c0 c1
            clear e0 e1 e2 e3 hB hC hx1 hx2 hmem hil hir
            by_cases hrk : q + i < k
            · have hCt : ∀ w1, Only [] w w1 → Calls Tryd.prog 33 #[.agg #[.string n.x.1, .int .i64 n.x.2], .int .i64 x2, .pointer (some ⟨B1, 0, none⟩)] w1 fun e w' => e = .returned (.bool true) ∧ Only [] w1 w' := fun w1 h1 => by
                have := hCH.out w1 h1
                rw [decide_eq_true hrk] at this
                exact this
              have hCtH := Lib.hid hCt
              have hrkH := Lib.hid hrk
              clear hCt hrk
              go_wp2_with fail
              go_region_held3 (fun w' => Only [] w w' ∧ w'.cell? ⟨N, 0, none⟩ = some (.pointer (some ⟨n.nb, 0, none⟩)) ∧ w'.cell? ⟨N, 1, none⟩ = some (.int .i64 ((i : Int) + 1)) ∧ w'.cell? ⟨A, 1, none⟩ = some (.int .i64 (q : Int)) ∧ w'.cell? ⟨n.nb, 0, none⟩ = some (.string n.x.1) ∧ w'.cell? ⟨n.nb, 1, none⟩ = some (.int .i64 n.x.2))
                (first | exact ⟨hO, c0, c1, c2, k0, k1⟩ | exact ⟨hOd, c0, c1, c2, k0, k1⟩ | exact ⟨t9, t0, t1, t2, t3, t4⟩ | assumption)
                (first | (go_at_call 33; (with_reducible refine (hCtH.out _ (by assumption)).mono ?_); rintro e w3 ⟨rfl, h3⟩; have t9 : Only [] w w3 := hOd.trans h3 (by simp); have t0 := cell_keep (a := wr.drew) h3 c0; have t1 := cell_keep (a := wr.drew) h3 c1; have t2 := cell_keep (a := wr.drew) h3 c2; have t3 := cell_keep (a := wr.drew) h3 k0; have t4 := cell_keep (a := wr.drew) h3 k1; have t5 := cell_keep (a := wr.drew) h3 k2; have hQ3 := Lib.hid (hQ.out.same (((Only.refl [] wr).drew).trans h3 (by simp)))))
              all_goals go_wp2_with fail
              obtain ⟨⟨av, y0⟩, y1, ⟨au, y2⟩, y3⟩ := hQ3.out.atfacts
              go_region
              have hM := Lib.hid (hQ3.out.step1 hirH.out e1H.out hrkH.out x1 (by have := hx1H.out; omega))
              generalize ((w3.setCell ⟨A, 0, none⟩ (.slice (some ⟨n.lb, 0, none⟩) n.h n.h)).setCell ⟨A, 1, none⟩ (.int .i64 x1)).drew = W4 at *
              clear y0 y1 y2 y3 t0 t1 t2 t3 t4 t5 t9 hQ3 h3 c0 c1 c2 c3 k0 k1 k2 hO hOd hQ
              have hL16 : L < 16 := by have := hLeH.out; omega
              obtain ⟨z0, z1, z2, ⟨zv, z3⟩, z4, z5, z6, hZ⟩ := hM.out.facts hL16 hirH.out e1H.out
              obtain ⟨zu, z5⟩ := z5 (.pointer (lnk L (ns.drop (q + i + 1))).1)
              have z6 := z6 (.pointer (lnk L (ns.drop (q + i + 1))).1)
              have hix2 := run_lk n.lb 0 n.h L (15 - (j : Int)) (by have := hLeH.out; omega) e1H.out
              rw [Nat.zero_add] at hix2
              have hZH := Lib.hid hZ
              clear hZ
              generalize (lnk L (ns.drop (q + i + 1))).1 = u2 at *
              generalize ((lnk L (ns.drop (q + i + 1))).2 : Int) = u3 at *
              go_wp2_with fail
              go_roundg (k - (q + i + 1))
              case measure => have := hrkH.out; omega
              case rel => exact ⟨q + i + 1, rfl, hZH⟩
            · have hCt : ∀ w1, Only [] w w1 → Calls Tryd.prog 33 #[.agg #[.string n.x.1, .int .i64 n.x.2], .int .i64 x2, .pointer (some ⟨B1, 0, none⟩)] w1 fun e w' => e = .returned (.bool false) ∧ Only [] w1 w' := fun w1 h1 => by
                have := hCH.out w1 h1
                rw [decide_eq_false hrk] at this
                exact this
              have hCtH := Lib.hid hCt
              have hst : Hid (∀ i' m, q ≤ i' → i' < k → ns[i']? = some m → ¬ L < m.h) := Lib.hid (fun i' m h1 h2 h3 => hlow.out (i' - q) m (by omega) (by rw [show q + (i' - q) = i' by omega]; exact h3))
              obtain ⟨b1, o1, m1, _, hlk1, _⟩ := hQ.out.ow
              have hv : lkV D1 ns q = .slice (some ⟨b1, o1, none⟩) m1 m1 := by unfold lkV; rw [hlk1]
              rw [hv] at c3
              have hL16 : Hid (L < 16) := Lib.hid (by have := hLeH.out; omega)
              clear hCt hrk hlow
              go_wp2_with fail
              go_region_held3 (fun w' => Only [] w w' ∧ w'.cell? ⟨N, 0, none⟩ = some (.pointer (some ⟨n.nb, 0, none⟩)) ∧ w'.cell? ⟨N, 1, none⟩ = some (.int .i64 ((i : Int) + 1)) ∧ w'.cell? ⟨A, 1, none⟩ = some (.int .i64 (q : Int)) ∧ w'.cell? ⟨n.nb, 0, none⟩ = some (.string n.x.1) ∧ w'.cell? ⟨n.nb, 1, none⟩ = some (.int .i64 n.x.2))
                (first | exact ⟨hO, c0, c1, c2, k0, k1⟩ | exact ⟨hOd, c0, c1, c2, k0, k1⟩ | exact ⟨t9, t0, t1, t2, t3, t4⟩ | assumption)
                (first | (go_at_call 33; (with_reducible refine (hCtH.out _ (by assumption)).mono ?_); rintro e w3 ⟨rfl, h3⟩; have t9 : Only [] w w3 := hOd.trans h3 (by simp); have t0 := cell_keep (a := wr.drew) h3 c0; have t1 := cell_keep (a := wr.drew) h3 c1; have t2 := cell_keep (a := wr.drew) h3 c2; have t3 := cell_keep (a := wr.drew) h3 k0; have t4 := cell_keep (a := wr.drew) h3 k1; have t5 := cell_keep (a := wr.drew) h3 c3; have hQ3 := Lib.hid (hQ.out.same (((Only.refl [] wr).drew).trans h3 (by simp)))))
              have hdone := Lib.hid (hQ3.out.done hltH.out hLeH.out.symm hst.out 0)
              obtain ⟨⟨pv, p0⟩, p1, p2, p3⟩ := hQ3.out.path hL16.out 0
              obtain ⟨pu, p1⟩ := p1 (.slice (some ⟨b1, o1, none⟩) m1 m1)
              have p3 := p3 (.slice (some ⟨b1, o1, none⟩) m1 m1)
              rw [hv] at hdone
              rw [show w3.drewN 0 = w3 from rfl] at hdone p1 p3
              go_wp2_with fail
              go_roundw
              case rel => exact ⟨j + 1, by have := hltH.out; omega, by go_num, hdone⟩
              case measure => have := hltH.out; simp [intOf]; omega
      · have hj16 : j = 16 := by omega
        subst hj16
        obtain ⟨⟨CR, r1, r2⟩, ⟨CP, p1, p2, p3⟩⟩ := (⟨hT.out.res, hT.out.pth⟩ : _ ∧ _)
        have hPC : PathC CP D1 ns k := ⟨p2, fun L hL => p3 L (by omega) hL⟩
        have hPCH := Lib.hid hPC
        have hone := Lib.hid hPC.one
        have hp2 := Lib.hid p2
        have hr2 := Lib.hid r2
        have hr1 := Lib.hid r1
        have hp1 := Lib.hid p1
        clear p1 p2 p3 r1 r2 hPC hD
        go_wp2_with (first
          | (refine wpList_load_path (o := ⟨some 66, _, _, _, _, _⟩) (by rfl) (.tmp 5) (by rfl) P (by rfl) CP hp1.out hp2.out ?_)
          | (refine wpList_store_path (o := ⟨none, _, _, _, _, _⟩) (by rfl) (.tmp 4) (.tmp 66) (by rfl) R (by rfl) CR CP (by rfl) hr1.out hr2.out hp2.out hone.out ?_; intro w9 h9 ho9; have h9H := Lib.hid h9; have ho9H := Lib.hid ho9; clear h9 ho9))
        have hO9 := hT.out.only.trans ho9H.out (fun x hx => by obtain rfl := List.mem_singleton.1 hx; exact Or.inr hT.out.lo.1)
        have hL9 := hT.out.lst.keep ho9H.out (fun x hx => by have := (hT.out.sep x hx).1; simpa using this)
        refine bodyPost_ret (v := .agg CP) ?_ rfl ⟨CP, D1, rfl, hPCH.out, hO9, ⟨sd1, c1, hL9⟩, ?_⟩
        · exact results_cell_row rfl _ _ R _ CP (0, 0) _ rfl h9H.out und_path rfl (by rw [hp2.out]; exact info_path)
        · intro hh
          first
            | exact hDeH.out.symm
            | (simp at hh)
            | (cases hh)
end Go.Proofs.YtijfipghoilpeaaDoor
