/-
  The walks of at, Rank, Ahead, Below, Len, At. Premises: a list as it lies, in order, or none; fewer pairs than a million.
-/
import Derived.Test.YtijfipghoilpeaaDoorE
namespace Go.Proofs.YtijfipghoilpeaaDoor
open Go.RowKit

theorem Is.hs {w : World} {d : Value} {D : Nat} {ns : List Nd} (h : Is w d D ns) : ∀ n ∈ ns, 1 ≤ n.h ∧ n.h ≤ 16 := by
  rcases h with ⟨_, rfl⟩ | ⟨_, sd, h⟩
  · intro n hn; simp at hn
  · exact h.base.hs
theorem PathC.past {C : Array Value} {D : Nat} {ns : List Nd} {k : Nat} (h : PathC C D ns k) (hs : ∀ n ∈ ns, 1 ≤ n.h ∧ n.h ≤ 16) (hk : k ≤ ns.length) {w : World} {g : Nat} (hg : w.heap[g]? = some (.cells C 61 (0, 0))) : w.cell? ⟨g, 1, none⟩ = some (.int .i64 (k : Int)) := by
  have := (h.at_ 0 (by omega)).2
  rw [own_bot hs hk] at this
  simp only [Nat.mul_zero, Nat.zero_add] at this
  simp [World.cell?, hg, this]
theorem ahd_len (ns : List Nd) (x : Sc) : ahd (prs ns) x ≤ ns.length := by have := ahd_le (prs ns) x; simpa [prs] using this
theorem boxed1 (w : World) (a : ByteArray) (t : Int) : Only [] w (w.alloc (.cells #[.string a, .int .i64 t] 30)) ∧ (w.alloc (.cells #[.string a, .int .i64 t] 30)).cell? ⟨w.heap.size, 0, none⟩ = some (.string a) ∧ (w.alloc (.cells #[.string a, .int .i64 t] 30)).cell? ⟨w.heap.size, 1, none⟩ = some (.int .i64 t) := by
  have h0 := heap_alloc_new w (.cells #[.string a, .int .i64 t] 30)
  exact ⟨(Only.refl [] w).alloc _, Lib.cell_of_heap h0 0, Lib.cell_of_heap h0 1⟩
theorem box_int (w : World) (t : Int) : Only [] w (w.alloc (.cells #[.int .i64 t] 3)) ∧ (w.alloc (.cells #[.int .i64 t] 3)).cell? ⟨w.heap.size, 0, none⟩ = some (.int .i64 t) :=
  ⟨(Only.refl [] w).alloc _, Lib.cell_of_heap (heap_alloc_new w (.cells #[.int .i64 t] 3)) 0⟩

set_option maxHeartbeats 1000000 in
theorem ahead_any {w : World} {d : Value} {D : Nat} {ns : List Nd} (hs : Is w d D ns) (hr : Rises (prs ns)) (hlen : ns.length ≤ 1000000) (x : Sc) :
    Calls Tryd.prog 18 #[d, scV x] w fun e w' => e = .returned (.int .i64 (ahd (prs ns) x : Nat)) ∧ Only [] w w' := by
  obtain ⟨xa, xs⟩ := x
  unfold scV
  obtain ⟨b1, b2, b3⟩ := boxed1 w xa xs
  have hf := Lib.hid (find_any (hs.keep b1) hr hlen (xa, xs))
  unfold scV at hf
  have hk := Lib.hid (ahd_len ns (xa, xs))
  have hh := Lib.hid hs.hs
  have b1H := Lib.hid b1
  clear hs hr hlen b1
  generalize ahd (prs ns) (xa, xs) = k at *
  generalize thereV ns (xa, xs) = tv at *
  go_enter Tryd.func18, Tryd.ntmps18
  go_wp2_with (first
    | (go_at_call 26; ((with_reducible refine (hf.out).mono ?_); rintro e W2 ⟨C, D', rfl, hP, hO2, hD⟩; have hPH := Lib.hid hP; have hO2H := Lib.hid hO2; clear hP hO2 hD))
    | (refine wpList_store_path (o := ⟨none, _, _, _, _, _⟩) (by rfl) (.tmp 5) (.tmp 11) (by rfl) W2.heap.size (by rfl) _ C (by rfl) (heap_alloc_new W2 _) (by rfl) hPH.out.size hPH.out.one ?_; intro W3 h3 hO3; have hq1 := hPH.out.past hh.out hk.out h3; have hO3H := Lib.hid (Only.none_of_new ((Only.refl [] W2).alloc _) hO3 (Nat.le_refl _)); clear h3 hO3))
  go_ret
  exact ⟨rfl, b1H.out.trans (hO2H.out.trans hO3H.out (by simp)) (by simp)⟩

/-- A pair's rank, or -1. -/
def rnk (l : List Sc) (x : Sc) : Int := if x ∈ l then (ahd l x : Nat) else -1
theorem there_cases {w : World} {d : Value} {D : Nat} {ns : List Nd} (_ : Is w d D ns) (hr : Rises (prs ns)) (x : Sc) : (x ∉ prs ns ∧ thereV ns x = .pointer none) ∨ ∃ n, x ∈ prs ns ∧ ns[ahd (prs ns) x]? = some n ∧ n.x = x ∧ thereV ns x = .pointer (some ⟨n.nb, 0, none⟩) := by
  unfold thereV nodeV
  by_cases hx : x ∈ prs ns
  · have hm := (mem_ahd hr x).1 hx
    rw [List.getElem?_map] at hm
    cases hn : ns[ahd (prs ns) x]? with
    | none => rw [hn] at hm; cases hm
    | some n =>
      rw [hn] at hm
      exact Or.inr ⟨n, hx, rfl, Option.some.inj hm, by rw [if_pos hx]⟩
  · exact Or.inl ⟨hx, by rw [if_neg hx]⟩
set_option maxHeartbeats 1000000 in
theorem rank_any {w : World} {d : Value} {D : Nat} {ns : List Nd} (hs : Is w d D ns) (hr : Rises (prs ns)) (hlen : ns.length ≤ 1000000) (x : Sc) :
    Calls Tryd.prog 16 #[d, scV x] w fun e w' => e = .returned (.int .i64 (rnk (prs ns) x)) ∧ Only [] w w' := by
  obtain ⟨xa, xs⟩ := x
  unfold scV
  obtain ⟨b1, b2, b3⟩ := boxed1 w xa xs
  have hf := Lib.hid (find_any (hs.keep b1) hr hlen (xa, xs))
  unfold scV at hf
  have hk := Lib.hid (ahd_len ns (xa, xs))
  have hh := Lib.hid hs.hs
  have b1H := Lib.hid b1
  have hth := there_cases hs hr (xa, xs)
  have hrk : Hid (rnk (prs ns) (xa, xs) = if (xa, xs) ∈ prs ns then ((ahd (prs ns) (xa, xs) : Nat) : Int) else -1) := Lib.hid rfl
  clear hs hr hlen b1
  generalize ahd (prs ns) (xa, xs) = k at *
  generalize thereV ns (xa, xs) = tv at *
  generalize rnk (prs ns) (xa, xs) = rv at *
  rcases hth with ⟨e1, rfl⟩ | ⟨n, e1, _, _, rfl⟩
  · have hv : Hid (rv = -1) := Lib.hid (by rw [hrk.out, if_neg e1])
    clear e1 hrk
    go_enter Tryd.func16, Tryd.ntmps16
    go_wp2_with (first
      | (go_at_call 26; ((with_reducible refine (hf.out).mono ?_); rintro e W2 ⟨C, D', rfl, hP, hO2, hD⟩; have hPH := Lib.hid hP; have hO2H := Lib.hid hO2; clear hP hO2 hD))
      | (refine wpList_store_path (o := ⟨none, _, _, _, _, _⟩) (by rfl) (.tmp 5) (.tmp 11) (by rfl) W2.heap.size (by rfl) _ C (by rfl) (heap_alloc_new W2 _) (by rfl) hPH.out.size hPH.out.one ?_; intro W3 h3 hO3; have hq1 := hPH.out.past hh.out hk.out h3; have hO3H := Lib.hid (Only.none_of_new ((Only.refl [] W2).alloc _) hO3 (Nat.le_refl _)); clear h3 hO3))
    go_ret
    exact ⟨ret_int hv.out.symm, b1H.out.trans (hO2H.out.trans hO3H.out (by simp)) (by simp)⟩
  · have hv : Hid (rv = (k : Int)) := Lib.hid (by rw [hrk.out, if_pos e1])
    clear e1 hrk
    go_enter Tryd.func16, Tryd.ntmps16
    go_wp2_with (first
      | (go_at_call 26; ((with_reducible refine (hf.out).mono ?_); rintro e W2 ⟨C, D', rfl, hP, hO2, hD⟩; have hPH := Lib.hid hP; have hO2H := Lib.hid hO2; clear hP hO2 hD))
      | (refine wpList_store_path (o := ⟨none, _, _, _, _, _⟩) (by rfl) (.tmp 5) (.tmp 11) (by rfl) W2.heap.size (by rfl) _ C (by rfl) (heap_alloc_new W2 _) (by rfl) hPH.out.size hPH.out.one ?_; intro W3 h3 hO3; have hq1 := hPH.out.past hh.out hk.out h3; have hO3H := Lib.hid (Only.none_of_new ((Only.refl [] W2).alloc _) hO3 (Nat.le_refl _)); clear h3 hO3))
    go_ret
    exact ⟨ret_int hv.out.symm, b1H.out.trans (hO2H.out.trans hO3H.out (by simp)) (by simp)⟩

theorem blw_len (ns : List Nd) (s : Int) (op : Bool) : blw (prs ns) s op ≤ ns.length := by have := blw_le (prs ns) s op; simpa [prs] using this
theorem low_blw {ns : List Nd} (hr : Rises (prs ns)) (s : Int) (op : Bool) {r : Nat} {n : Nd} (h : ns[r]? = some n) : lowS s op n.x = decide (r < blw (prs ns) s op) := by
  obtain ⟨h1, h2⟩ := blw_split hr s op
  have hg := prs_get h
  have hd : (if r < blw (prs ns) s op then (decide (n.x.2 < s) || (op && n.x.2 == s)) = true else (decide (n.x.2 < s) || (op && n.x.2 == s)) = false) := by
    split
    · next hlt =>
      refine h1 n.x (List.mem_of_getElem? (i := r) ?_)
      rw [List.getElem?_take, if_pos hlt]; exact hg
    · refine h2 n.x (List.mem_of_getElem? (i := r - blw (prs ns) s op) ?_)
      rw [List.getElem?_drop, show blw (prs ns) s op + (r - blw (prs ns) s op) = r by omega]; exact hg
  unfold lowS
  split at hd
  · next hlt => rw [hd, decide_eq_true hlt]
  · next hlt => rw [hd, decide_eq_false hlt]
theorem downB {w : World} {d : Value} {D : Nat} {ns : List Nd} (h : Is w d D ns) (hr : Rises (prs ns)) (hlen : ns.length ≤ 1000000) (s : Int) (op : Bool) (B1 B2 : Nat) (c0 : w.cell? ⟨B1, 0, none⟩ = some (.int .i64 s)) (c1 : w.cell? ⟨B2, 0, none⟩ = some (.bool op)) :
    Calls Tryd.prog 31 #[d, .func (.func 32) #[] #[.pointer (some ⟨B1, 0, none⟩), .pointer (some ⟨B2, 0, none⟩)]] w fun e w' => ∃ C D', e = .returned (.agg C) ∧ PathC C D' ns (blw (prs ns) s op) ∧ Only [] w w' ∧ (∃ sd' c', Lst w' D' sd' c' ns) ∧ (d = .pointer (some ⟨D, 0, none⟩) → D' = D) := by
  obtain ⟨sd, c, hd⟩ := h.down
  refine down_below (sd := sd) (c := c) w d hd (blw_len ns s op) hlen B1 B2 (fun w1 h1 r n hn => ?_)
  have := below1_any n.x r s op B1 B2 w1 (cell_keep h1 c0) (cell_keep h1 c1)
  rw [low_blw hr s op hn] at this
  exact this
theorem box_two (w : World) (t : Int) (b : Bool) : Only [] w ((w.alloc (.cells #[.int .i64 t] 2)).alloc (.cells #[.bool b] 4)) ∧ ((w.alloc (.cells #[.int .i64 t] 2)).alloc (.cells #[.bool b] 4)).cell? ⟨w.heap.size, 0, none⟩ = some (.int .i64 t) ∧ ((w.alloc (.cells #[.int .i64 t] 2)).alloc (.cells #[.bool b] 4)).cell? ⟨w.heap.size + 1, 0, none⟩ = some (.bool b) := by
  have h0 := heap_alloc_new w (.cells #[.int .i64 t] 2)
  have h1 := heap_alloc_new (w.alloc (.cells #[.int .i64 t] 2)) (.cells #[.bool b] 4)
  rw [show (w.alloc (.cells #[.int .i64 t] 2)).heap.size = w.heap.size + 1 by simp] at h1
  exact ⟨((Only.refl [] w).alloc _).alloc _, cell_past (Lib.cell_of_heap h0 0) _, Lib.cell_of_heap h1 0⟩
set_option maxHeartbeats 1000000 in
theorem below_any {w : World} {d : Value} {D : Nat} {ns : List Nd} (hs : Is w d D ns) (hr : Rises (prs ns)) (hlen : ns.length ≤ 1000000) (s : Int) (op : Bool) :
    Calls Tryd.prog 20 #[d, .int .i64 s, .bool op] w fun e w' => e = .returned (.int .i64 (blw (prs ns) s op : Nat)) ∧ Only [] w w' := by
  obtain ⟨b1, b2, b3⟩ := box_two w s op
  have hf := Lib.hid (downB (hs.keep b1) hr hlen s op _ _ b2 b3)
  have hk := Lib.hid (blw_len ns s op)
  have hh := Lib.hid hs.hs
  have b1H := Lib.hid b1
  clear hs hr hlen b1
  generalize blw (prs ns) s op = k at *
  go_enter Tryd.func20, Tryd.ntmps20
  go_wp2_with (first
    | (go_at_call 31; ((with_reducible refine (hf.out).mono ?_); rintro e W2 ⟨C, D', rfl, hP, hO2, hL, hD⟩; have hPH := Lib.hid hP; have hO2H := Lib.hid hO2; clear hP hO2 hL hD))
    | (refine wpList_store_path (o := ⟨none, _, _, _, _, _⟩) (by rfl) (.tmp 7) (.tmp 10) (by rfl) W2.heap.size (by rfl) _ C (by rfl) (heap_alloc_new W2 _) (by rfl) hPH.out.size hPH.out.one ?_; intro W3 h3 hO3; have hq1 := hPH.out.past hh.out hk.out h3; have hO3H := Lib.hid (Only.none_of_new ((Only.refl [] W2).alloc _) hO3 (Nat.le_refl _)); clear h3 hO3))
  go_ret
  exact ⟨rfl, b1H.out.trans (hO2H.out.trans hO3H.out (by simp)) (by simp)⟩

theorem downA {w : World} {d : Value} {D : Nat} {ns : List Nd} (h : Is w d D ns) (hlen : ns.length ≤ 1000000) (k : Nat) (hk : k ≤ ns.length) (B1 : Nat) (c0 : w.cell? ⟨B1, 0, none⟩ = some (.int .i64 (k : Int))) :
    Calls Tryd.prog 31 #[d, .func (.func 38) #[] #[.pointer (some ⟨B1, 0, none⟩)]] w fun e w' => ∃ C D', e = .returned (.agg C) ∧ PathC C D' ns k ∧ Only [] w w' ∧ (∃ sd' c', Lst w' D' sd' c' ns) ∧ (d = .pointer (some ⟨D, 0, none⟩) → D' = D) := by
  obtain ⟨sd, c, hd⟩ := h.down
  refine down_at (sd := sd) (c := c) w d hd hk hlen B1 (fun w1 h1 r n hn => ?_)
  have := at1_any n.x r k B1 w1 (cell_keep h1 c0)
  rw [show decide ((r : Int) < (k : Int)) = decide (r < k) by by_cases hq : r < k <;> simp [hq]] at this
  exact this
set_option maxHeartbeats 1000000 in
theorem lat_any {w : World} {d : Value} {D : Nat} {ns : List Nd} (hs : Is w d D ns) (hlen : ns.length ≤ 1000000) (k : Nat) (hk : k ≤ ns.length) (x : Int) (hx : x = (k : Int)) :
    Calls Tryd.prog 30 #[d, .int .i64 x] w fun e w' => e = .returned (nodeV ns k) ∧ Only [] w w' := by
  subst hx
  obtain ⟨b1, b2⟩ := box_int w k
  have hf := Lib.hid (downA (hs.keep b1) hlen k hk _ b2)
  have hkH := Lib.hid hk
  have b1H := Lib.hid b1
  have hnx := Lib.hid (fun (W2 W3 : World) (C : Array Value) (D' : Nat) (h3 : W3.heap[W2.heap.size]? = some (.cells C 61 (0, 0))) (hP : PathC C D' ns k) (hL : ∃ sd' c', Lst W2 D' sd' c' ns) (hO : Only [] W2 W3) => by
    obtain ⟨sd', c', hL⟩ := hL
    exact next_any (w := W3) ⟨⟨C, h3, hP⟩⟩ (hL.none' hO) hkH.out)
  clear hs hlen b1 hk
  go_enter Tryd.func30, Tryd.ntmps30
  go_wp2_with (first
    | (go_at_call 31; ((with_reducible refine (hf.out).mono ?_); rintro e W2 ⟨C, D', rfl, hP, hO2, hL, hD⟩; have hPH := Lib.hid hP; have hO2H := Lib.hid hO2; have hLH := Lib.hid hL; clear hP hO2 hL hD))
    | (refine wpList_store_path (o := ⟨none, _, _, _, _, _⟩) (by rfl) (.tmp 5) (.tmp 8) (by rfl) W2.heap.size (by rfl) _ C (by rfl) (heap_alloc_new W2 _) (by rfl) hPH.out.size hPH.out.one ?_; intro W3 h3 hO3; have h3H := Lib.hid h3; have hO3H := Lib.hid (Only.none_of_new ((Only.refl [] W2).alloc _) hO3 (Nat.le_refl _)); clear h3 hO3)
    | (go_at_call 35; ((with_reducible refine (hnx.out _ _ _ _ h3H.out hPH.out hLH.out hO3H.out).mono ?_); rintro e w' ⟨rfl, rfl⟩)))
  go_ret
  exact ⟨rfl, b1H.out.trans (hO2H.out.trans hO3H.out (by simp)) (by simp)⟩

theorem Is.len {w : World} {d : Value} {D : Nat} {ns : List Nd} (h : Is w d D ns) : Calls Tryd.prog 15 #[d] w fun e w' => e = .returned (.int .i64 (ns.length : Nat)) ∧ w = w' := by
  rcases h with ⟨rfl, rfl⟩ | ⟨rfl, sd, h⟩
  · exact len_nil w
  · exact len_any h.base.head_cells.2.1
theorem info_sc : (Tryd.prog.info? 30).map (·.size) = some 2 := by kernel_rfl
theorem und_sc : (Tryd.prog.underlying 30).map (fun d => match d with | .struct _ => true | _ => false) = some true := by kernel_rfl
theorem run_load_sc {w : World} {g : Nat} {C : Array Value} (hg : w.heap[g]? = some (.cells C 30 (0, 0))) (hC : C.size = 2 := by rfl) : (loadVar 30 ⟨g, 0, none⟩).run Tryd.prog w = .ok (.agg C) w := by
  have hu := und_sc
  cases hq : Tryd.prog.underlying 30 with
  | none => rw [hq] at hu; cases hu
  | some d =>
    rw [hq] at hu
    refine run_loadVar_row w g _ _ C (0, 0) d hg hq ?_ (by rw [hC]; exact info_sc)
    cases d <;> simp_all
/-- What At tells. -/
def atV (l : List Sc) (i : Int) : Value := if 0 ≤ i then (match l[i.toNat]? with | some x => .tuple #[scV x, .bool true] | none => .tuple #[.agg #[.string ⟨#[]⟩, .int .i64 0], .bool false]) else .tuple #[.agg #[.string ⟨#[]⟩, .int .i64 0], .bool false]
set_option maxHeartbeats 1000000 in
theorem At_any {w : World} {d : Value} {D : Nat} {ns : List Nd} (hs : Is w d D ns) (hlen : ns.length ≤ 1000000) (i : Int) (hi : -9223372036854775808 ≤ i ∧ i ≤ 9223372036854775807) :
    Calls Tryd.prog 14 #[d, .int .i64 i] w fun e w' => e = .returned (atV (prs ns) i) ∧ Only [] w w' := by
  have hO1 : Only [] w (w.alloc (.cells #[.string ⟨#[]⟩, .int .i64 0] 30)) := (Only.refl [] w).alloc _
  have hl := Lib.hid (hs.keep hO1).len
  obtain ⟨hi0, hi1⟩ := hi
  by_cases h0 : i < 0
  · have hv : atV (prs ns) i = .tuple #[.agg #[.string ⟨#[]⟩, .int .i64 0], .bool false] := by unfold atV; rw [if_neg (by omega)]
    rw [hv]
    have hd0 : decide (i < 0) = true := decide_eq_true h0
    clear hs hlen hv h0
    go_enter Tryd.func14, Tryd.ntmps14
    go_wp2_with (go_at_call 15; ((with_reducible refine (hl.out).mono ?_); rintro e w' ⟨rfl, rfl⟩))
    refine bodyPost_ret (v := .tuple #[.agg #[.string ⟨#[]⟩, .int .i64 0], .bool false]) ?_ rfl ⟨rfl, hO1⟩
    rw [results_cell_tmp rfl]
    simp [asAddr, Result.andThen, run_load_sc (heap_alloc_new w (.cells #[.string ⟨#[]⟩, .int .i64 0] 30))]
  · have hd0 : decide (i < 0) = false := decide_eq_false h0
    have h0' : 0 ≤ i := by omega
    rcases Int.lt_or_le i (ns.length : Int) with h1 | h1
    · have hkl : i.toNat < ns.length := by omega
      obtain ⟨n, hn⟩ : ∃ n, ns[i.toNat]? = some n := ⟨_, List.getElem?_eq_getElem hkl⟩
      have hv : atV (prs ns) i = .tuple #[scV n.x, .bool true] := by unfold atV; rw [if_pos h0', prs_get hn]
      have hnv : nodeV ns i.toNat = .pointer (some ⟨n.nb, 0, none⟩) := by unfold nodeV; rw [hn]
      have hla := lat_any (hs.keep hO1) hlen i.toNat (by omega) i (by omega)
      rw [hnv] at hla
      have hlaH := Lib.hid hla
      have hcells := Lib.hid (fun (W2 : World) (hO : Only [] w W2) => by
        rcases hs.keep hO with ⟨_, rfl⟩ | ⟨_, sd, hL⟩
        · simp at hn
        · have := hL.base.node_cells (List.mem_of_getElem? hn)
          exact (⟨this.1, this.2.1⟩ : W2.cell? ⟨n.nb, 0, none⟩ = some (.string n.x.1) ∧ W2.cell? ⟨n.nb, 1, none⟩ = some (.int .i64 n.x.2)))
      have hg0 := heap_alloc_new w (.cells #[.string ⟨#[]⟩, .int .i64 0] 30)
      rw [hv]
      unfold scV
      have hd1 : decide ((ns.length : Int) ≤ i) = false := decide_eq_false (by omega)
      have hO1H := Lib.hid hO1
      clear hs hlen hv h0 h0' h1 hkl hn hnv hla hO1
      go_enter Tryd.func14, Tryd.ntmps14
      go_wp2_with (first
        | (go_at_call 15; ((with_reducible refine (hl.out).mono ?_); rintro e w' ⟨rfl, rfl⟩))
        | (go_at_call 30; ((with_reducible refine (hlaH.out).mono ?_); rintro e W2 ⟨rfl, hO2⟩; have hO2H := Lib.hid hO2; obtain ⟨k0, k1⟩ := hcells.out W2 (hO1H.out.trans hO2 (by simp)); have hgk := hO2.keep hg0 List.not_mem_nil; have g0 := Lib.cell_of_heap hgk 0; have g1 : ∀ v, (W2.setCell ⟨w.heap.size, 0, none⟩ v).cell? ⟨w.heap.size, 1, none⟩ = some (.int .i64 0) := (fun v => by rw [set_other _ (Or.inr (by omega))]; exact Lib.cell_of_heap hgk 1); have g2 : ∀ i, W2.frozen? ⟨w.heap.size, i, none⟩ = false := (fun i => by simp [World.frozen?, hgk]); have g3 : ∀ v i, (W2.setCell ⟨w.heap.size, 0, none⟩ v).frozen? ⟨w.heap.size, i, none⟩ = false := (fun v i => by simp [World.frozen?, Joins.block_setCell hgk v]); have hgkH := Lib.hid hgk; clear hO2 hgk)))
      have hgz := Joins.block_setCell (i := 1) (Joins.block_setCell (i := 0) hgkH.out (.string n.x.1)) (.int .i64 n.x.2)
      refine bodyPost_ret (v := .tuple #[.agg #[.string n.x.1, .int .i64 n.x.2], .bool true]) ?_ rfl ⟨rfl, ?_⟩
      · rw [results_cell_tmp rfl]
        simp [asAddr, Result.andThen, run_load_sc hgz]
      · exact Only.none_of_new (hO1H.out.trans hO2H.out (by simp)) (((Only.refl [w.heap.size] W2).set (p := ⟨w.heap.size, 0, none⟩) (Or.inl (by simp)) _).set (p := ⟨w.heap.size, 1, none⟩) (Or.inl (by simp)) _) (Nat.le_refl _)
    · have hv : atV (prs ns) i = .tuple #[.agg #[.string ⟨#[]⟩, .int .i64 0], .bool false] := by unfold atV; rw [if_pos h0', List.getElem?_eq_none (by simp [prs]; omega)]
      rw [hv]
      have hd1 : decide ((ns.length : Int) ≤ i) = true := decide_eq_true h1
      clear hs hlen hv h0 h0' h1
      go_enter Tryd.func14, Tryd.ntmps14
      go_wp2_with (go_at_call 15; ((with_reducible refine (hl.out).mono ?_); rintro e w' ⟨rfl, rfl⟩))
      refine bodyPost_ret (v := .tuple #[.agg #[.string ⟨#[]⟩, .int .i64 0], .bool false]) ?_ rfl ⟨rfl, hO1⟩
      rw [results_cell_tmp rfl]
      simp [asAddr, Result.andThen, run_load_sc (heap_alloc_new w (.cells #[.string ⟨#[]⟩, .int .i64 0] 30))]
end Go.Proofs.YtijfipghoilpeaaDoor
