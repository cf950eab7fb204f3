/-
  Halve: its walk. Premises: a book as it lies, of at most a million keys of at most so many bytes as the model's texts have, with counts from 1 to 255.
-/
import Derived.Test.YtpbmgaipeofpaaaNL
import Derived.Test.YtpbmgaipeofpaaaNJ
import Derived.Shelf.RegionOpen
namespace Go.Proofs.Ytpbmgaipeofpaaa
open Go.RowKit

attribute [local go_sem] Oper.semAt_some wide_fn wide_depth
theorem bhalve_nil (w : World) : Calls Try.prog 14 #[.pointer none] w fun e w' => e = .returned (.int .i64 0) ∧ Only [] w w' := by
  refine (callsIn_wide (n := 4)).1 ?_
  refine callsIn_of_wp_marks Try.func14 rfl trivial ?_ rfl
  simp only [Try.ntmps14, List.size_toArray, List.length_cons, List.length_nil, Nat.reduceAdd, Nat.reduceSub, Array.replicate_succ, Array.replicate_zero, List.push_toArray, List.append_toArray, List.nil_append, List.cons_append]
  gi_wp2
  exact ⟨_, results_tmp rfl _ _ _, rfl, (Only.refl [] w).alloc _⟩
variable {w : World} {p n : Nat} {c : Cd} {O : List Nat} {L : List Sc}
set_option maxHeartbeats 4000000 in
theorem Bk.halve (h : Bk none w p c (rowF L) (L.map Prod.fst) n O) (hu : Uniq L) (hc : CL c L) (hcn : Cnt L) (hsz : ∀ x ∈ L, x.1.size ≤ maxLen) (hfew : L.length ≤ 1000000) :
    Calls Try.prog 14 #[ptr p] w fun e w' => e = .returned (.int .i64 (lessF L : Nat)) ∧ ∃ c' O', Bk none w' p c' (rowF (halveF L)) (L.map Prod.fst) n O' ∧ CL c' (halveF L) ∧ Move O w w' O' := by
  have hmf : ∀ (fn : Fn) (first cap : Array Value) (w : World), (Instr.makeFunc fn first cap).run Try.prog w = .ok (.func fn first cap) w := fun _ _ _ _ => rfl
  obtain ⟨cm, rm, rv, room, r, R, OC, OR, h1, h2, rfl⟩ := h
  have o1 : Only [] w (w.alloc (boxO p)) := (Only.refl [] w).alloc _
  have hB1 := h1.keep o1 (by simp)
  have c1 : (w.alloc (boxO p)).cell? ⟨p, 1, none⟩ = some (.map rm) := hB1.cell 1
  obtain ⟨w2, hclr, hB2, hM2⟩ := hB1.clearR 0
  have hbx1 : (w.alloc (boxO p)).heap[w.heap.size]? = some (boxO p) := heap_alloc_new w _
  have hpl := some_lt h1.ring.1
  have hnx : w.heap.size ∉ ownB p OC OR R := fun hm => by have := h1.lt hm; omega
  have hbx2 : w2.heap[w.heap.size]? = some (boxO p) := hM2.1.keep hbx1 hnx
  have cb2 : w2.cell? ⟨w.heap.size, 0, none⟩ = some (ptr p) := Lib.cell_of_heap hbx2 0
  obtain ⟨w3, hw3⟩ : ∃ w3, w3 = w2.alloc (.cells #[.int .i64 0] 3 (0, 0)) := ⟨_, rfl⟩
  have o3 : Only [] w2 w3 := by rw [hw3]; exact (Only.refl [] w2).alloc _
  have cb3 : (w2.alloc (.cells #[.int .i64 0] 3 (0, 0))).cell? ⟨w.heap.size, 0, none⟩ = some (ptr p) := by rw [← hw3]; exact cell_keep o3 cb2
  have hbl3 : w3.heap[w2.heap.size]? = some (lessO 0) := by rw [hw3]; exact heap_alloc_new w2 _
  have hB3 := hB2.keep o3 (by simp)
  have hs2 := hM2.1.size
  rw [World.size_alloc] at hs2
  have hs3 : w3.heap.size = w2.heap.size + 1 := by rw [hw3]; simp
  have hst : Hid (Hs w3 w.heap.size w2.heap.size R (ownB p OC OR [])) := Lib.hid ⟨fun b hb => by
      have hb' : b ∈ ownB p OC OR R := by
        rcases mem_ownB.1 hb with e | e | e | e
        · exact mem_ownB.2 (Or.inl e)
        · exact mem_ownB.2 (Or.inr (Or.inl e))
        · exact mem_ownB.2 (Or.inr (Or.inr (Or.inl e)))
        · simp at e
      have hlt := h1.lt hb'
      refine ⟨by omega, fun hm => ?_, by omega, by omega⟩
      rcases mem_ownB.1 hb with rfl | e | e | e
      · exact h1.ring.2.1 hm
      · exact h1.ct b e hm
      · exact h1.rt b e hm
      · simp at e, fun b hb => by
      have := h1.ring.lt hb
      exact ⟨by omega, by omega, by omega⟩, by omega, by omega, by omega⟩
  have hI : Hid (Iter (fun k => k ∈ R) w3 (hdp p 2) (L.map Prod.fst)) := Lib.hid (ord_iter hB3.ring.2.2.2 (fun k hk => hB3.ring.lt hk) (fun b hb => hb))
  have hv0 : Hid (Hv w3 p w.heap.size w2.heap.size n rv (L.map Prod.fst) R (ownB p OC OR []) L 0 w3 c (ownB p OC OR [])) := Lib.hid {
    bk := ⟨cm, rm, rv, room, _, [], OC, OR, ⟨⟨hB3.ring.1, by simp, by simp, rfl⟩, hB3.cards, hB3.rows, hB3.pC, hB3.pR, hB3.cr, by simp, by simp, hB3.few, hB3.rfew⟩, fun m => rfl, rfl⟩
    cl := hc
    less := hbl3
    box := o3.keep hbx2 (by simp)
    own := fun b hb => Or.inl hb
    rest := fun k _ _ _ _ => rfl
    grow := Below.refl _ _ }
  have hM3 : Hid (Move (ownB p OC OR R) w w3 (ownB p OC OR R)) := Lib.hid (((Move.none o1).trans hM2).trans (Move.none o3))
  have hring := Lib.hid (hB3.ring.2.2.2)
  have hb3 := Lib.hid hB3
  unfold boxO at c1 hclr
  obtain ⟨Z, hZ⟩ : ∃ Z, Z = lessF L := ⟨_, rfl⟩
  rw [← hZ]
  have hZH := Lib.hid hZ
  have hcH := Lib.hid hc
  have huH := Lib.hid hu
  have hcnH := Lib.hid hcn
  have hszH := Lib.hid hsz
  have hfewH := Lib.hid hfew
  have hs3H := Lib.hid hs3
  have hs2H := Lib.hid hs2
  clear hB3 hB2 hB1 hM2 h1 h2 hc hu hcn hsz hfew hZ hbl3 hbx2 hbx1 o3 o1 hpl hnx hs3 hs2
  refine (callsIn_wide (n := 4)).1 ?_
  refine callsIn_of_wp_marks Try.func14 rfl trivial ?_ rfl
  simp only [Try.ntmps14, List.size_toArray, List.length_cons, List.length_nil, Nat.reduceAdd, Nat.reduceSub, Array.replicate_succ, Array.replicate_zero, List.push_toArray, List.append_toArray, List.nil_append, List.cons_append]
  gi_wp2
  rw [← hw3]
  clear cb2 cb3 c1 hclr
  refine range_gen (w := w3) (L := L.map Prod.fst) (S := fun k => k ∈ R) rfl rfl hI.out (fun k hk => (hst.out.ring k hk).1) (HvJ w3 p w.heap.size w2.heap.size n rv (L.map Prod.fst) R (ownB p OC OR []) L) ⟨0, _, _, Nat.zero_le _, rfl, hv0.out⟩ (fun pre W W' hj hb hk => ?stable)
    (fun x => { tmps := #[ptr p, ptr w.heap.size, .int .i64 0, ptr w2.heap.size, .string x, undef, undef, ptr p, .bool false, ptr p, ptr p, hdp p 1, .map rm, ptr p, ptr p, hdp p 2, .func (Fn.func 30) #[hdp p 2] #[], .string x, undef, undef, undef, undef, undef, undef, undef, undef, undef, undef, undef, undef, undef, undef, undef, undef, undef, undef, undef, undef, undef, undef, undef, undef, undef, undef, undef, undef, undef, undef, undef, undef, undef], defers := [] }) ?assign ?body ?done
  case stable =>
    obtain ⟨i, c', O', k1, k2, k3⟩ := hj
    exact ⟨i, c', O', k1, k2, k3.ex hst.out hb hk⟩
  case assign =>
    intro l x W K hK
    gi_wp2
    exact hK
  case body =>
    rintro l pre x W ⟨i, c', O', hil, rfl, hv⟩ hW3 hpre
    have hex : ∃ y, L[i]? = some y ∧ y.1 = x := by
      obtain ⟨t, ht⟩ := hpre
      have hlt : i < L.length := by
        have := congrArg List.length ht
        simp at this
        omega
      refine ⟨L[i], List.getElem?_eq_getElem hlt, ?_⟩
      have h5 := congrArg (fun l => l[i]?) ht
      simp only [List.append_assoc] at h5
      rw [List.getElem?_append_right (by simp; omega), List.getElem?_map, List.getElem?_eq_getElem hlt] at h5
      simp [Nat.min_eq_left hil] at h5
      exact h5.symm
    obtain ⟨⟨key, x0⟩, hi, rfl⟩ := hex
    have hin := List.mem_of_getElem? hi
    have hcx := hcnH.out _ hin
    obtain ⟨b, hcb⟩ := (hv.cl key x0).2 (List.mem_append_right _ (by rw [drop_at hi]; simp))
    simp only at hcx
    have hks : key.size ≤ maxLen := hszH.out _ hin
    have hpe : (L.take i).map Prod.fst ++ [key] = (L.take (i + 1)).map Prod.fst := by rw [take_at hi, List.map_append]; rfl
    have hi1 : i + 1 ≤ L.length := (List.getElem?_eq_some_iff.1 hi).1
    have hls : lessF (L.take (i + 1)) = lessF (L.take i) + (if 1 < x0 then 1 else 0) := by rw [take_at hi]; exact lessF_snoc _ _
    have hle := lessF_le (L.take i)
    rw [List.length_take] at hle
    have cbx : W.cell? ⟨w.heap.size, 0, none⟩ = some (ptr p) := Lib.cell_of_heap hv.box 0
    have cbl : W.cell? ⟨w2.heap.size, 0, none⟩ = some (.int .i64 (lessF (L.take i) : Int)) := Lib.cell_of_heap hv.less 0
    obtain ⟨cm', c0, hlk⟩ := hv.bk.cardAt hks
    rw [hcb] at hlk
    replace hlk : (Instr.lookup 49 (.map cm') (.string key) false).run Try.prog W = .ok (ptr b) W := hlk
    have b1 := hv.bk.cell1 hcb
    have hsh : ∀ m, (rowF (halveF (L.take i)) m).length < 1000000 := fun m => by
      have h7 := hfewH.out
      unfold rowF halveF
      rw [List.length_map]
      refine Nat.lt_of_le_of_lt (List.length_filter_le _ _) ?_
      rw [List.length_map, List.length_take]
      omega
    have hd : 1 ≤ 4 - 1 - 1 := by omega
    have hmx : Try.prog.follows .mixedOrders = true := by kernel_rfl
    obtain ⟨q, hq⟩ : ∃ q, q = lessF (L.take i) := ⟨_, rfl⟩
    rw [← hq] at cbl hls
    have hap := hv.apart hst.out (hv.bk.card hcb).2
    have hvH := Lib.hid hv
    have hiH := Lib.hid hi
    have hksH := Lib.hid hks
    have hcbH := Lib.hid hcb
    have hpeH := Lib.hid hpe
    have hi1H := Lib.hid hi1
    have hshH := Lib.hid hsh
    have hW3H := Lib.hid hW3
    by_cases hx : 1 < x0
    · rw [if_pos hx] at hls
      obtain ⟨y, hy⟩ : ∃ y, x0.tdiv 2 = y := ⟨_, rfl⟩
      have hy2 : y = x0 / 2 := by rw [← hy]; exact Int.tdiv_eq_ediv_of_nonneg (by omega)
      have hwy : wrap64 (x0.tdiv 2) = y := by
        rw [hy]
        exact IntWalk.wrap64_in y (by omega)
      have hm1 : (if y < 1 then (1 : Int) else y) = y := if_neg (by omega)
      have hlt : (y < x0) = True := eq_true (by omega)
      have hwq : wrap64 ((q : Int) + 1) = (q : Int) + 1 := IntWalk.wrap64_in _ (by have := hfewH.out; omega)
      have zbl := block_frozen (i := 0) hv.less
      have hyr : 1 ≤ y ∧ y ≤ 255 := by omega
      clear hy2
      have z1 := hv.bk.froz hcb 1
      obtain ⟨W1, hW1⟩ : ∃ W1, W1 = W.setCell ⟨b, 1, none⟩ (.int .i64 y) := ⟨_, rfl⟩
      have o1 : Only [b] W W1 := by rw [hW1]; exact (Only.refl _ _).set (p := ⟨b, 1, none⟩) (Or.inl (by simp)) _
      have hB1 := hv.bk.setC hcb y
      rw [← hW1] at hB1
      have hbl1 : W1.heap[w2.heap.size]? = some (lessO q) := by rw [hq]; exact o1.keep hv.less (by simp; exact fun e => hap.2.2.1 e.symm)
      have cbl1 : (W.setCell ⟨b, 1, none⟩ (.int .i64 y)).cell? ⟨w2.heap.size, 0, none⟩ = some (.int .i64 (q : Int)) := by rw [← hW1]; exact Lib.cell_of_heap hbl1 0
      have zbl1 : (W.setCell ⟨b, 1, none⟩ (.int .i64 y)).frozen? ⟨w2.heap.size, 0, none⟩ = false := by rw [← hW1]; exact block_frozen hbl1
      obtain ⟨W2, hW2⟩ : ∃ W2, W2 = W1.setCell ⟨w2.heap.size, 0, none⟩ (.int .i64 ((q : Int) + 1)) := ⟨_, rfl⟩
      have o2 : Only [w2.heap.size] W1 W2 := by rw [hW2]; exact (Only.refl _ _).set (p := ⟨w2.heap.size, 0, none⟩) (Or.inl (by simp)) _
      have hbl2 : W2.heap[w2.heap.size]? = some (lessO (q + 1)) := by rw [hW2, Joins.block_setCell hbl1]; rfl
      have hB2 := hB1.1.keep o2 (fun z hz hm => (hv.apart hst.out hz).2.2.1 (List.mem_singleton.1 hm))
      have hcb2 : upC c' key (some (b, y)) key = some (b, y) := upC_at _ _ _
      have b12 := hB2.cell1 hcb2
      have cbx2 : W2.cell? ⟨w.heap.size, 0, none⟩ = some (ptr p) := by
        have h6 := hst.out.two
        refine Lib.cell_of_heap (o2.keep (o1.keep hv.box ?_) ?_) 0
        · simp; exact fun e => hap.2.2.2 e.symm
        · simp; omega
      have hRow := Lib.hid (fun X (hX : Only [] W2 X) => (hB2.same hX).rowOf (m := y) ⟨by omega, by omega⟩)
      have hyrH := Lib.hid hyr
      have hxH := Lib.hid hx
      have hqH := Lib.hid hq
      have hhalf := Lib.hid (show halfO (key, x0) = (key, y) from by unfold halfO; rw [if_pos hx, hy])
      have hbO := (hv.bk.card hcb).2
      have o12 : Only (w2.heap.size :: O') W W2 := (o1.mono (fun z hz => by rw [List.mem_singleton.1 hz]; exact List.mem_cons_of_mem _ hbO)).trans o2 (fun z hz => Or.inl (by rw [List.mem_singleton.1 hz]; simp))
      have hend := Lib.hid (fun w5 O5 (h5 : Bk (some rv) w5 p (upC c' key (some (b, y))) (upF' (rowF (halveF (L.take i))) y (tipK (rowF (halveF (L.take i)) y) key)) (L.map Prod.fst) n O5) (m5 : Move O' W2 w5 O5) => show HvJ w3 p w.heap.size w2.heap.size n rv (L.map Prod.fst) R (ownB p OC OR []) L ((L.take i).map Prod.fst ++ [key]) w5 ∧ Below 0 W w5 ∧ ∀ k, k < W.heap.size → (k ∈ R ∨ Own3 w3.heap.size k) → w5.heap[k]? = W.heap[k]? from by
        have hn := hv.next hst.out hW3H.out huH.out hi hhalf.out o12 (by rw [hls]; exact hbl2) m5 h5 (fun k hk => upC_other _ _ hk) ⟨b, hcb2⟩
        exact ⟨⟨i + 1, _, _, hi1, hpe, hn.1⟩, hn.2.1, hn.2.2⟩)
      clear hv hi hks hcb hpe hi1 hsh hap hcx hin hpre hyr hx hy hq
      gi_wp2
      rw [← hW1, ← hW2]
      clear hW1 hW2 cbx cbl c0 hlk b1 cbl1 zbl1 zbl z1 hwy hm1 hlt hwq
      gi_region_with_o (first
        | (gi_at_call 26; (with_reducible refine (CallsIn.inRound l (callsIn_wide.2 (hRow.out _ (by first | exact Only.refl _ _ | exact drew_only _)))).mono ?_); rintro e w4 ⟨b4, O4, rfl, h4, m4⟩; have hTo := Lib.hid (h4.touch (hshH.out y) hksH.out); have mB := Lib.hid (show Move O' W2 w4 O4 by first | exact m4 | exact (Move.none (drew_only _)).trans m4); clear h4 m4)
        | (gi_at_call 27; (with_reducible refine (CallsIn.inRound l (callsIn_wide.2 hTo.out)).mono ?_); rintro e w5 ⟨v5, O5, rfl, h5, m5⟩; have h5H := Lib.hid h5; have mC := Lib.hid (mB.out.trans m5); clear h5 m5))
      all_goals exact ⟨rfl, hend.out _ _ h5H.out mC.out⟩
    · rw [if_neg hx, Nat.add_zero] at hls
      have hx1 : x0 = 1 := by omega
      subst hx1
      have hwy : wrap64 ((1 : Int).tdiv 2) = 0 := by
        rw [show (1 : Int).tdiv 2 = 0 from rfl]
        exact IntWalk.wrap64_in 0 (by omega)
      have hRow := Lib.hid (fun X (hX : Only [] W X) => (hv.bk.same hX).rowOf (m := 1) ⟨by omega, by omega⟩)
      have hhalf : halfO (key, 1) = (key, 1) := by unfold halfO; rw [if_neg (by simp)]
      have hend := Lib.hid (fun w5 O5 (h5 : Bk (some rv) w5 p c' (upF' (rowF (halveF (L.take i))) 1 (tipK (rowF (halveF (L.take i)) 1) key)) (L.map Prod.fst) n O5) (m5 : Move O' W w5 O5) => show HvJ w3 p w.heap.size w2.heap.size n rv (L.map Prod.fst) R (ownB p OC OR []) L ((L.take i).map Prod.fst ++ [key]) w5 ∧ Below 0 W w5 ∧ ∀ k, k < W.heap.size → (k ∈ R ∨ Own3 w3.heap.size k) → w5.heap[k]? = W.heap[k]? from by
        have hn := hv.next hst.out hW3H.out huH.out hi hhalf (Only.refl _ W) (by rw [hls, hq]; exact hv.less) m5 h5 (fun k hk => rfl) ⟨b, hcb⟩
        exact ⟨⟨i + 1, _, _, hi1, hpe, hn.1⟩, hn.2.1, hn.2.2⟩)
      clear hv hi hks hcb hpe hi1 hsh hap hcx hin hpre hx hq hhalf
      gi_wp2
      clear cbl c0 hlk hwy
      gi_region_with_o (first
        | (gi_at_call 26; (with_reducible refine (CallsIn.inRound l (callsIn_wide.2 (hRow.out _ (by first | exact Only.refl _ _ | exact drew_only _)))).mono ?_); rintro e w4 ⟨b4, O4, rfl, h4, m4⟩; have hTo := Lib.hid (h4.touch (hshH.out 1) hksH.out); have mB := Lib.hid (show Move O' W w4 O4 by first | exact m4 | exact (Move.none (drew_only _)).trans m4); clear h4 m4)
        | (gi_at_call 27; (with_reducible refine (CallsIn.inRound l (callsIn_wide.2 hTo.out)).mono ?_); rintro e w5 ⟨v5, O5, rfl, h5, m5⟩; have h5H := Lib.hid h5; have mC := Lib.hid (mB.out.trans m5); clear h5 m5))
      all_goals exact ⟨rfl, hend.out _ _ h5H.out mC.out⟩
  case done =>
    rintro W hD ⟨i, c', O', hil, hpe, hv⟩ hK
    have hie : i = L.length := by
      have := congrArg List.length hpe
      simp at this
      omega
    subst hie
    have cbl : W.cell? ⟨w2.heap.size, 0, none⟩ = some (.int .i64 (Z : Int)) := by
      rw [hZH.out]
      have := Lib.cell_of_heap hv.less 0
      rwa [List.take_length] at this
    have hvH := Lib.hid hv
    have hKH := Lib.hid hK
    have hDH := Lib.hid hD
    clear hv hK hD hpe hil
    gi_wp2
    refine ⟨by simp, .inl ⟨_, _, rfl, run_takeDeferred hDH.out, ?_⟩⟩
    refine ⟨_, results_tmp rfl _ _ _, rfl, ?_⟩
    obtain ⟨O2, k1, k2, k3, k4⟩ := hvH.out.done hst.out hring.out rfl hKH.out (.deferred none)
    have hs2 := hs2H.out
    have hs3 := hs3H.out
    have hsub : ∀ b ∈ ownB p OC OR [], b ∈ ownB p OC OR R := fun b hb => by
      rcases mem_ownB.1 hb with e | e | e | e
      · exact mem_ownB.2 (Or.inl e)
      · exact mem_ownB.2 (Or.inr (Or.inl e))
      · exact mem_ownB.2 (Or.inr (Or.inr (Or.inl e)))
      · simp at e
    refine ⟨c', O2, k1, k2, hM3.out.1.trans k3 (fun b hb => ?_), fun b hb => ?_⟩
    · rcases List.mem_cons.1 hb with e | hb
      · exact Or.inr (by omega)
      · exact Or.inl (hsub b hb)
    · rcases k4 b hb with e | e | e
      · exact Or.inl (hsub b e)
      · exact Or.inl (mem_ownB.2 (Or.inr (Or.inr (Or.inr e))))
      · exact Or.inr (by omega)
end Go.Proofs.Ytpbmgaipeofpaaa
