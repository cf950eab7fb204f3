/-
  The walks of find, next, at, and of what only asks. Premises: a list as it lies, or none; fewer pairs than a million.
-/
import Derived.Test.YtijfipghoilpeaaDoorDF
import Derived.Test.YtijfipghoilpeaaDoorDA
import Derived.Test.YtijfipghoilpeaaDoorDB
namespace Go.Proofs.YtijfipghoilpeaaDoor
open Go.RowKit

/-- A path in memory. -/
structure PathAt (w : World) (g : Nat) (D : Nat) (ns : List Nd) (k : Nat) : Prop where
  at_ : ∃ C, w.heap[g]? = some (.cells C 61 (0, 0)) ∧ PathC C D ns k
theorem PathAt.keep {w w' : World} {g D : Nat} {ns : List Nd} {k : Nat} (h : PathAt w g D ns k) {O : List Nat} (ho : Only O w w') (hg : g ∉ O) : PathAt w' g D ns k := by
  obtain ⟨C, h1, h2⟩ := h.at_
  exact ⟨C, ho.keep h1 hg, h2⟩
theorem PathAt.cells {w : World} {g D : Nat} {ns : List Nd} {k : Nat} (h : PathAt w g D ns k) (L : Nat) (hL : L < 16) :
    w.cell? ⟨g, L * 2, none⟩ = some (lkV D ns (own ns L k)) ∧ w.cell? ⟨g, L * 2 + 1, none⟩ = some (.int .i64 ((own ns L k : Nat) : Int)) := by
  obtain ⟨C, h1, h2⟩ := h.at_
  obtain ⟨c1, c2⟩ := h2.at_ L hL
  rw [Nat.mul_comm] at c1 c2
  exact ⟨by simp [World.cell?, h1, c1], by simp [World.cell?, h1, c2]⟩
/-- The pair at a place. -/
def nodeV (ns : List Nd) (k : Nat) : Value := .pointer (match ns[k]? with | some n => some ⟨n.nb, 0, none⟩ | none => none)
theorem lnk_zero {ns : List Nd} (h : ∀ n ∈ ns, 1 ≤ n.h ∧ n.h ≤ 16) (k : Nat) : .pointer (lnk 0 (ns.drop k)).1 = nodeV ns k := by
  unfold nodeV
  cases hd : ns.drop k with
  | nil =>
    have : ns.length ≤ k := by simpa using hd
    rw [List.getElem?_eq_none this]
    rfl
  | cons n s =>
    have hk : ns[k]? = some n := by
      have := congrArg (fun l => l[0]?) hd
      simpa using this
    rw [hk, lnk_hit (by have := h n (List.mem_of_getElem? hk); omega)]
theorem next_any {w : World} {g D : Nat} {sd c : Int} {ns : List Nd} {k : Nat} (h : PathAt w g D ns k) (hl : Lst w D sd c ns) (hk : k ≤ ns.length) :
    Calls Tryd.prog 35 #[.pointer (some ⟨g, 0, none⟩)] w fun e w' => e = .returned (nodeV ns k) ∧ w = w' := by
  obtain ⟨c0, _⟩ := h.cells 0 (by omega)
  obtain ⟨b, o, ho⟩ := ow_own D ns 0 k
  obtain ⟨m, hm, hlm⟩ := ow_lkb ho
  have hlm := hlm (by omega)
  obtain ⟨l1, _⟩ := hl.lv 0 (by omega) _ _ _ ho
  rw [own_bot hl.base.hs hk, lnk_zero hl.base.hs] at l1
  unfold lkV at c0
  rw [hm] at c0
  simp only [Nat.mul_zero, Nat.zero_mul, Nat.add_zero] at c0 l1
  have hv : nodeV ns k = .pointer (match ns[k]? with | some n => some ⟨n.nb, 0, none⟩ | none => none) := rfl
  have hvH := Lib.hid hv
  generalize nodeV ns k = v at *
  clear h hl hk ho hm hv
  go_enter Tryd.func35, Tryd.ntmps35
  go_wp2
  all_goals go_ret
  all_goals exact ⟨rfl, rfl⟩

/-- What is written in a new block alone. -/
theorem Only.none_of_new {g : Nat} {w w1 w2 : World} (h1 : Only [] w w1) (h2 : Only [g] w1 w2) (hg : w.heap.size ≤ g) : Only [] w w2 :=
  h1.trans h2 (fun x hx => by obtain rfl := List.mem_singleton.1 hx; exact Or.inr hg)
/-- A list, or none. -/
def Is (w : World) (d : Value) (D : Nat) (ns : List Nd) : Prop := (d = .pointer none ∧ ns = []) ∨ (d = .pointer (some ⟨D, 0, none⟩) ∧ ∃ sd, Lst w D sd (ns.length : Nat) ns)
theorem Is.keep {w w' : World} {d : Value} {D : Nat} {ns : List Nd} (h : Is w d D ns) (ho : Only [] w w') : Is w' d D ns := by
  rcases h with h | ⟨h1, sd, h2⟩
  · exact Or.inl h
  · exact Or.inr ⟨h1, sd, h2.none' ho⟩
theorem Is.down {w : World} {d : Value} {D : Nat} {ns : List Nd} (h : Is w d D ns) : ∃ sd c, (d = .pointer none ∧ ns = []) ∨ (d = .pointer (some ⟨D, 0, none⟩) ∧ Lst w D sd c ns) := by
  rcases h with h | ⟨h1, sd, h2⟩
  · exact ⟨0, 0, Or.inl h⟩
  · exact ⟨sd, _, Or.inr ⟨h1, h2⟩⟩
abbrev prs (ns : List Nd) : List Sc := ns.map Nd.x
theorem prs_get {ns : List Nd} {r : Nat} {n : Nd} (h : ns[r]? = some n) : (prs ns)[r]? = some n.x := by simp [prs, h]
theorem less_ahd {ns : List Nd} (hr : Rises (prs ns)) (x : Sc) {r : Nat} {n : Nd} (h : ns[r]? = some n) : lessS n.x x = decide (r < ahd (prs ns) x) := by
  obtain ⟨h1, h2⟩ := ahd_split hr x
  have hg := prs_get h
  rcases Nat.lt_or_ge r (ahd (prs ns) x) with hlt | hge
  · rw [decide_eq_true hlt]
    refine h1 n.x (List.mem_of_getElem? (i := r) ?_)
    rw [List.getElem?_take, if_pos hlt]; exact hg
  · rw [decide_eq_false (by omega)]
    refine h2 n.x (List.mem_of_getElem? (i := r - ahd (prs ns) x) ?_)
    rw [List.getElem?_drop, show ahd (prs ns) x + (r - ahd (prs ns) x) = r by omega]; exact hg
/-- The pair that is asked for, if it is there. -/
def thereV (ns : List Nd) (x : Sc) : Value := if x ∈ prs ns then nodeV ns (ahd (prs ns) x) else .pointer none
/-- Behind a pair's copy and a new path. -/
theorem boxed (w : World) (a : ByteArray) (t : Int) : Only [] w ((w.alloc (.cells #[.string a, .int .i64 t] 30)).alloc (.cells path0 61)) ∧
    ((w.alloc (.cells #[.string a, .int .i64 t] 30)).alloc (.cells path0 61)).cell? ⟨w.heap.size, 0, none⟩ = some (.string a) ∧ ((w.alloc (.cells #[.string a, .int .i64 t] 30)).alloc (.cells path0 61)).cell? ⟨w.heap.size, 1, none⟩ = some (.int .i64 t) ∧
    ((w.alloc (.cells #[.string a, .int .i64 t] 30)).alloc (.cells path0 61)).heap[w.heap.size + 1]? = some (.cells path0 61 (0, 0)) ∧ w.heap.size + 1 < ((w.alloc (.cells #[.string a, .int .i64 t] 30)).alloc (.cells path0 61)).heap.size := by
  have h0 := heap_alloc_new w (.cells #[.string a, .int .i64 t] 30)
  have hz : (w.alloc (.cells #[.string a, .int .i64 t] 30)).heap.size = w.heap.size + 1 := by simp
  have h1 := heap_alloc_new (w.alloc (.cells #[.string a, .int .i64 t] 30)) (.cells path0 61)
  rw [hz] at h1
  exact ⟨((Only.refl [] w).alloc _).alloc _, cell_past (Lib.cell_of_heap h0 0) _, cell_past (Lib.cell_of_heap h0 1) _, h1, some_lt h1⟩
/-- The walk down by a pair. -/
theorem downF {w : World} {d : Value} {D : Nat} {ns : List Nd} (h : Is w d D ns) (hr : Rises (prs ns)) (hlen : ns.length ≤ 1000000) (x : Sc) (B1 : Nat) (c0 : w.cell? ⟨B1, 0, none⟩ = some (.string x.1)) (c1 : w.cell? ⟨B1, 1, none⟩ = some (.int .i64 x.2)) :
    Calls Tryd.prog 31 #[d, .func (.func 33) #[] #[.pointer (some ⟨B1, 0, none⟩)]] w fun e w' => ∃ C D', e = .returned (.agg C) ∧ PathC C D' ns (ahd (prs ns) x) ∧ Only [] w w' ∧ (∃ sd' c', Lst w' D' sd' c' ns) ∧ (d = .pointer (some ⟨D, 0, none⟩) → D' = D) := by
  obtain ⟨sd, c, hd⟩ := h.down
  refine down_find (sd := sd) (c := c) w d hd (by have := ahd_le (prs ns) x; simpa [prs] using this) hlen B1 (fun w1 h1 r n hn => ?_)
  have := find1_any x n.x r B1 w1 (cell_keep h1 c0) (cell_keep h1 c1)
  rw [less_ahd hr x hn] at this
  exact this
set_option maxHeartbeats 1000000 in
theorem find_any {w : World} {d : Value} {D : Nat} {ns : List Nd} (hs : Is w d D ns) (hr : Rises (prs ns)) (hlen : ns.length ≤ 1000000) (x : Sc) :
    Calls Tryd.prog 26 #[d, scV x] w fun e w' => ∃ C D', e = .returned (.tuple #[.agg C, thereV ns x]) ∧ PathC C D' ns (ahd (prs ns) x) ∧ Only [] w w' ∧ (d = .pointer (some ⟨D, 0, none⟩) → D' = D) := by
  have hkl : ahd (prs ns) x ≤ ns.length := by have := ahd_le (prs ns) x; simpa [prs] using this
  have hmem := mem_ahd hr x
  have hp0 : path0 = #[.slice none 0 0, .int .i64 0, .slice none 0 0, .int .i64 0, .slice none 0 0, .int .i64 0, .slice none 0 0, .int .i64 0, .slice none 0 0, .int .i64 0, .slice none 0 0, .int .i64 0, .slice none 0 0, .int .i64 0, .slice none 0 0, .int .i64 0, .slice none 0 0, .int .i64 0, .slice none 0 0, .int .i64 0, .slice none 0 0, .int .i64 0, .slice none 0 0, .int .i64 0, .slice none 0 0, .int .i64 0, .slice none 0 0, .int .i64 0, .slice none 0 0, .int .i64 0, .slice none 0 0, .int .i64 0] := rfl
  have hpz : path0.size = 32 := rfl
  have hm : (ns[ahd (prs ns) x]? = none ∧ thereV ns x = .pointer none ∧ nodeV ns (ahd (prs ns) x) = .pointer none) ∨ ∃ n, ns[ahd (prs ns) x]? = some n ∧ nodeV ns (ahd (prs ns) x) = .pointer (some ⟨n.nb, 0, none⟩) ∧ ((n.x = x ∧ thereV ns x = .pointer (some ⟨n.nb, 0, none⟩)) ∨ (n.x ≠ x ∧ thereV ns x = .pointer none)) := by
    unfold thereV nodeV
    cases hn : ns[ahd (prs ns) x]? with
    | none =>
      refine Or.inl ⟨rfl, ?_, rfl⟩
      rw [if_neg]
      intro hx
      have := hmem.1 hx
      simp [prs, hn] at this
    | some n =>
      refine Or.inr ⟨n, rfl, rfl, ?_⟩
      by_cases hx : n.x = x
      · refine Or.inl ⟨hx, ?_⟩
        rw [if_pos (hmem.2 (by rw [prs_get hn, hx]))]
      · refine Or.inr ⟨hx, ?_⟩
        rw [if_neg]
        intro h
        have := hmem.1 h
        rw [prs_get hn] at this
        exact hx (Option.some.inj this)
  have hmH := Lib.hid hm
  have hdn := Lib.hid (fun (w1 : World) (h1 : Only [] w w1) => downF (hs.keep h1) hr hlen x)
  have hklH := Lib.hid hkl
  clear hm hmem hs hr hlen hkl
  generalize hk : ahd (prs ns) x = k at *
  generalize thereV ns x = tv at *
  generalize hnv : nodeV ns k = nv at *
  have hnvH := Lib.hid hnv
  clear hk hnv
  obtain ⟨xa, xs⟩ := x
  unfold scV
  go_enter Tryd.func26, Tryd.ntmps26
  go_upto_region 1 with (fail)
  obtain ⟨b1, b2, b3, b4, b5⟩ := boxed w xa xs
  rw [hp0] at b1 b2 b3 b4 b5
  generalize (w.alloc (.cells #[.string xa, .int .i64 xs] 30)).alloc (.cells #[.slice none 0 0, .int .i64 0, .slice none 0 0, .int .i64 0, .slice none 0 0, .int .i64 0, .slice none 0 0, .int .i64 0, .slice none 0 0, .int .i64 0, .slice none 0 0, .int .i64 0, .slice none 0 0, .int .i64 0, .slice none 0 0, .int .i64 0, .slice none 0 0, .int .i64 0, .slice none 0 0, .int .i64 0, .slice none 0 0, .int .i64 0, .slice none 0 0, .int .i64 0, .slice none 0 0, .int .i64 0, .slice none 0 0, .int .i64 0, .slice none 0 0, .int .i64 0, .slice none 0 0, .int .i64 0] 61) = W1 at *
  have hdn1 := Lib.hid (hdn.out W1 b1 w.heap.size b2 b3)
  have hRlt := Lib.hid (show w.heap.size ≤ w.heap.size + 1 from Nat.le_succ _)
  generalize w.heap.size + 1 = R at *
  generalize hB : w.heap.size = B at *
  have b1H := Lib.hid b1
  clear hdn b1
  have hnx := Lib.hid (fun (W2 W3 : World) (C : Array Value) (D' : Nat) (h3 : W3.heap[W2.heap.size]? = some (.cells C 61 (0, 0))) (hP : PathC C D' ns k) (hL : ∃ sd' c', Lst W2 D' sd' c' ns) (hO : Only [] W2 W3) => by
    obtain ⟨sd', c', hL⟩ := hL
    have := next_any (w := W3) ⟨⟨C, h3, hP⟩⟩ (hL.none' hO) hklH.out
    rw [hnvH.out] at this
    exact this)
  clear hnvH
  rcases hmH.out with ⟨e1, rfl, rfl⟩ | ⟨n, e1, rfl, ⟨e2, rfl⟩ | ⟨e2, rfl⟩⟩
  · have e1H := Lib.hid e1
    clear e1 hmH
    go_wp2_with (first
      | (go_at_call 31; ((with_reducible refine (hdn1.out).mono ?_); rintro e W2 ⟨C, D', rfl, hP, hO2, hL, hD⟩; have hPH := Lib.hid hP; have hO2H := Lib.hid hO2; have hLH := Lib.hid hL; have hDH := Lib.hid hD; clear hP hO2 hL hD))
      | (refine wpList_store_path (o := ⟨none, _, _, _, _, _⟩) (by rfl) (.tmp 6) (.tmp 10) (by rfl) W2.heap.size (by rfl) _ C (by rfl) (heap_alloc_new W2 _) (by rfl) hPH.out.size hPH.out.one ?_; intro W3 h3 hO3; have h3H := Lib.hid h3; have hO3H := Lib.hid (Only.none_of_new ((Only.refl [] W2).alloc _) hO3 (Nat.le_refl _)); clear h3 hO3)
      | (go_at_call 35; ((with_reducible refine (hnx.out _ _ _ _ h3H.out hPH.out hLH.out hO3H.out).mono ?_); rintro e w' ⟨rfl, rfl⟩)))
    go_quiet (fail)
    rename_i nq
    have hR3 := Lib.hid (((hO2H.out.trans hO3H.out (by simp)).drewN nq).keep b4 List.not_mem_nil)
    have h3q : Hid ((W3.drewN nq).heap[W2.heap.size]? = some (.cells C 61 (0, 0))) := h3H
    go_wp2_with (first
      | (refine wpList_load_path (o := ⟨some 22, _, _, _, _, _⟩) (by rfl) (.tmp 6) (by rfl) W2.heap.size (by rfl) C h3q.out hPH.out.size ?_)
      | (refine wpList_store_path (o := ⟨none, _, _, _, _, _⟩) (by rfl) (.tmp 4) (.tmp 22) (by rfl) R (by rfl) _ C (by rfl) hR3.out (by rfl) hPH.out.size hPH.out.one ?_; intro W4 h4 hO4; have h4H := Lib.hid h4; have hO4H := Lib.hid hO4; clear h4 hO4))
    have hO5 := Lib.hid (Only.none_of_new ((b1H.out.trans (hO2H.out.trans hO3H.out (by simp)) (by simp)).drewN nq) hO4H.out (by have := hRlt.out; omega))
    refine bodyPost_ret (v := .tuple #[.agg C, .pointer none]) ?_ rfl ⟨C, D', rfl, hPH.out, hO5.out, hDH.out⟩
    rw [results_cell_tmp rfl]
    simp [asAddr, Result.andThen, run_load_path h4H.out hPH.out.size]
  · have hx1 : n.x.1 = xa := by rw [e2]
    have hx2 : n.x.2 = xs := by rw [e2]
    have hcells := Lib.hid (fun (W2 W3 : World) (D' : Nat) (hL : ∃ sd' c', Lst W2 D' sd' c' ns) (hO : Only [] W2 W3) => by
      obtain ⟨sd', c', hL⟩ := hL
      have := (hL.none' hO).base.node_cells (List.mem_of_getElem? e1)
      exact (⟨this.1, this.2.1⟩ : W3.cell? ⟨n.nb, 0, none⟩ = some (.string n.x.1) ∧ W3.cell? ⟨n.nb, 1, none⟩ = some (.int .i64 n.x.2)))
    rw [hx1, hx2] at hcells
    clear hx1 hx2 e1 e2 hmH
    go_wp2_with (first
      | (go_at_call 31; ((with_reducible refine (hdn1.out).mono ?_); rintro e W2 ⟨C, D', rfl, hP, hO2, hL, hD⟩; have hPH := Lib.hid hP; have hO2H := Lib.hid hO2; have hLH := Lib.hid hL; have hDH := Lib.hid hD; clear hP hO2 hL hD))
      | (refine wpList_store_path (o := ⟨none, _, _, _, _, _⟩) (by rfl) (.tmp 6) (.tmp 10) (by rfl) W2.heap.size (by rfl) _ C (by rfl) (heap_alloc_new W2 _) (by rfl) hPH.out.size hPH.out.one ?_; intro W3 h3 hO3; have h3H := Lib.hid h3; have hO3H := Lib.hid (Only.none_of_new ((Only.refl [] W2).alloc _) hO3 (Nat.le_refl _)); clear h3 hO3)
      | (go_at_call 35; ((with_reducible refine (hnx.out _ _ _ _ h3H.out hPH.out hLH.out hO3H.out).mono ?_); rintro e w' ⟨rfl, rfl⟩; have hnc := hcells.out W2 W3 D' hLH.out hO3H.out; obtain ⟨k0, k1⟩ := hnc; have t0 := cell_keep (hO2H.out.trans hO3H.out (by simp)) b2; have t1 := cell_keep (hO2H.out.trans hO3H.out (by simp)) b3)))
    go_quiet (fail)
    rename_i nq
    have hR3 := Lib.hid (((hO2H.out.trans hO3H.out (by simp)).drewN nq).keep b4 List.not_mem_nil)
    have h3q : Hid ((W3.drewN nq).heap[W2.heap.size]? = some (.cells C 61 (0, 0))) := h3H
    go_wp2_with (first
      | (refine wpList_load_path (o := ⟨some 23, _, _, _, _, _⟩) (by rfl) (.tmp 6) (by rfl) W2.heap.size (by rfl) C h3q.out hPH.out.size ?_)
      | (refine wpList_store_path (o := ⟨none, _, _, _, _, _⟩) (by rfl) (.tmp 4) (.tmp 23) (by rfl) R (by rfl) _ C (by rfl) hR3.out (by rfl) hPH.out.size hPH.out.one ?_; intro W4 h4 hO4; have h4H := Lib.hid h4; have hO4H := Lib.hid hO4; clear h4 hO4))
    have hO5 := Lib.hid (Only.none_of_new ((b1H.out.trans (hO2H.out.trans hO3H.out (by simp)) (by simp)).drewN nq) hO4H.out (by have := hRlt.out; omega))
    refine bodyPost_ret (v := .tuple #[.agg C, .pointer (some ⟨n.nb, 0, none⟩)]) ?_ rfl ⟨C, D', rfl, hPH.out, hO5.out, hDH.out⟩
    rw [results_cell_tmp rfl]
    simp [asAddr, Result.andThen, run_load_path h4H.out hPH.out.size]
  · obtain ⟨⟨na, nx⟩, hnx0⟩ : ∃ y, y = n.x := ⟨_, rfl⟩
    have hne : ¬ (na = xa ∧ nx = xs) := fun h => e2 (by rw [← hnx0, h.1, h.2])
    have hcells := Lib.hid (fun (W2 W3 : World) (D' : Nat) (hL : ∃ sd' c', Lst W2 D' sd' c' ns) (hO : Only [] W2 W3) => by
      obtain ⟨sd', c', hL⟩ := hL
      have := (hL.none' hO).base.node_cells (List.mem_of_getElem? e1)
      exact (⟨this.1, this.2.1⟩ : W3.cell? ⟨n.nb, 0, none⟩ = some (.string n.x.1) ∧ W3.cell? ⟨n.nb, 1, none⟩ = some (.int .i64 n.x.2)))
    rw [← hnx0] at hcells
    clear hnx0 e1 e2 hmH
    simp only at hcells
    by_cases hna : na = xa
    · subst hna
      have hb2 : (nx == xs) = false := beq_false_of_ne (fun h => hne ⟨rfl, h⟩)
      clear hne
      go_wp2_with (first
        | (go_at_call 31; ((with_reducible refine (hdn1.out).mono ?_); rintro e W2 ⟨C, D', rfl, hP, hO2, hL, hD⟩; have hPH := Lib.hid hP; have hO2H := Lib.hid hO2; have hLH := Lib.hid hL; have hDH := Lib.hid hD; clear hP hO2 hL hD))
        | (refine wpList_store_path (o := ⟨none, _, _, _, _, _⟩) (by rfl) (.tmp 6) (.tmp 10) (by rfl) W2.heap.size (by rfl) _ C (by rfl) (heap_alloc_new W2 _) (by rfl) hPH.out.size hPH.out.one ?_; intro W3 h3 hO3; have h3H := Lib.hid h3; have hO3H := Lib.hid (Only.none_of_new ((Only.refl [] W2).alloc _) hO3 (Nat.le_refl _)); clear h3 hO3)
        | (go_at_call 35; ((with_reducible refine (hnx.out _ _ _ _ h3H.out hPH.out hLH.out hO3H.out).mono ?_); rintro e w' ⟨rfl, rfl⟩; have hnc := hcells.out W2 W3 D' hLH.out hO3H.out; obtain ⟨k0, k1⟩ := hnc; have t0 := cell_keep (hO2H.out.trans hO3H.out (by simp)) b2; have t1 := cell_keep (hO2H.out.trans hO3H.out (by simp)) b3)))
      go_quiet (fail)
      rename_i nq
      have hR3 := Lib.hid (((hO2H.out.trans hO3H.out (by simp)).drewN nq).keep b4 List.not_mem_nil)
      have h3q : Hid ((W3.drewN nq).heap[W2.heap.size]? = some (.cells C 61 (0, 0))) := h3H
      go_wp2_with (first
        | (refine wpList_load_path (o := ⟨some 22, _, _, _, _, _⟩) (by rfl) (.tmp 6) (by rfl) W2.heap.size (by rfl) C h3q.out hPH.out.size ?_)
        | (refine wpList_store_path (o := ⟨none, _, _, _, _, _⟩) (by rfl) (.tmp 4) (.tmp 22) (by rfl) R (by rfl) _ C (by rfl) hR3.out (by rfl) hPH.out.size hPH.out.one ?_; intro W4 h4 hO4; have h4H := Lib.hid h4; have hO4H := Lib.hid hO4; clear h4 hO4))
      have hO5 := Lib.hid (Only.none_of_new ((b1H.out.trans (hO2H.out.trans hO3H.out (by simp)) (by simp)).drewN nq) hO4H.out (by have := hRlt.out; omega))
      refine bodyPost_ret (v := .tuple #[.agg C, .pointer none]) ?_ rfl ⟨C, D', rfl, hPH.out, hO5.out, hDH.out⟩
      rw [results_cell_tmp rfl]
      simp [asAddr, Result.andThen, run_load_path h4H.out hPH.out.size]
    · have hb1 : (na.toList == xa.toList) = false := by
        cases hq : (na.toList == xa.toList) with
        | false => rfl
        | true => exact absurd (ba_eq (by simpa using hq)) hna
      clear hne
      go_wp2_with (first
        | (go_at_call 31; ((with_reducible refine (hdn1.out).mono ?_); rintro e W2 ⟨C, D', rfl, hP, hO2, hL, hD⟩; have hPH := Lib.hid hP; have hO2H := Lib.hid hO2; have hLH := Lib.hid hL; have hDH := Lib.hid hD; clear hP hO2 hL hD))
        | (refine wpList_store_path (o := ⟨none, _, _, _, _, _⟩) (by rfl) (.tmp 6) (.tmp 10) (by rfl) W2.heap.size (by rfl) _ C (by rfl) (heap_alloc_new W2 _) (by rfl) hPH.out.size hPH.out.one ?_; intro W3 h3 hO3; have h3H := Lib.hid h3; have hO3H := Lib.hid (Only.none_of_new ((Only.refl [] W2).alloc _) hO3 (Nat.le_refl _)); clear h3 hO3)
        | (go_at_call 35; ((with_reducible refine (hnx.out _ _ _ _ h3H.out hPH.out hLH.out hO3H.out).mono ?_); rintro e w' ⟨rfl, rfl⟩; have hnc := hcells.out W2 W3 D' hLH.out hO3H.out; obtain ⟨k0, k1⟩ := hnc; have t0 := cell_keep (hO2H.out.trans hO3H.out (by simp)) b2; have t1 := cell_keep (hO2H.out.trans hO3H.out (by simp)) b3)))
      go_quiet (fail)
      rename_i nq
      have hR3 := Lib.hid (((hO2H.out.trans hO3H.out (by simp)).drewN nq).keep b4 List.not_mem_nil)
      have h3q : Hid ((W3.drewN nq).heap[W2.heap.size]? = some (.cells C 61 (0, 0))) := h3H
      go_wp2_with (first
        | (refine wpList_load_path (o := ⟨some 22, _, _, _, _, _⟩) (by rfl) (.tmp 6) (by rfl) W2.heap.size (by rfl) C h3q.out hPH.out.size ?_)
        | (refine wpList_store_path (o := ⟨none, _, _, _, _, _⟩) (by rfl) (.tmp 4) (.tmp 22) (by rfl) R (by rfl) _ C (by rfl) hR3.out (by rfl) hPH.out.size hPH.out.one ?_; intro W4 h4 hO4; have h4H := Lib.hid h4; have hO4H := Lib.hid hO4; clear h4 hO4))
      have hO5 := Lib.hid (Only.none_of_new ((b1H.out.trans (hO2H.out.trans hO3H.out (by simp)) (by simp)).drewN nq) hO4H.out (by have := hRlt.out; omega))
      refine bodyPost_ret (v := .tuple #[.agg C, .pointer none]) ?_ rfl ⟨C, D', rfl, hPH.out, hO5.out, hDH.out⟩
      rw [results_cell_tmp rfl]
      simp [asAddr, Result.andThen, run_load_path h4H.out hPH.out.size]
end Go.Proofs.YtijfipghoilpeaaDoor
