/-
  The walk of Cut. Premises: a list as it lies, in order, or none; fewer pairs than a million.
-/
import Derived.Test.YtijfipghoilpeaaDoorP
namespace Go.Proofs.YtijfipghoilpeaaDoor
open Go.RowKit

def scC (m : Nat) : Array Value := madeCells (Value.agg #[.string ⟨#[]⟩, .int .i64 0]).cells (m * 2)
theorem scC_size (m : Nat) : (scC m).size = m * 2 := by simp [scC, madeCells]
theorem run_scs (x : Int) (m : Nat) (hx : x = (m : Int)) (hh : m ≤ 1048576) (w : World) : (Instr.makeSlice 28 (.int .i64 x) (.int .i64 x)).run Tryd.prog w = .ok (.slice (some ⟨w.heap.size, 0, none⟩) m m) (w.alloc (.cells (scC m) 30)) := by
  subst hx
  obtain ⟨i, hi, h0, h1, h2⟩ := info_partsS info_scz
  have hb : (i.bytes : Int) * (m : Int) ≤ 281474976710656 := by rw [h2]; omega
  have := run_make (P := Tryd.prog) w 28 30 i _ Tryd.underlying28 hi h0 .i64 .i64 m m (by omega) (by omega) hb (by omega)
  rw [h1] at this
  simp only [Int.toNat_natCast] at this
  exact this
theorem cutS_none {L : List Sc} {i j : Int} (h : min j ((L.length : Int) - 1) < max i 0) : cutS L i j = [] := by
  unfold cutS
  rw [List.drop_eq_nil_iff, List.length_take]
  omega
theorem cutS_some {L : List Sc} {i j : Int} {a m : Nat} (ha : max i 0 = (a : Int)) (hm : min j ((L.length : Int) - 1) - a + 1 = (m : Int)) (hp : 0 < m) : cutS L i j = (L.drop a).take m := by
  unfold cutS
  rw [List.drop_take]
  rw [show i.toNat = a by omega]
  apply List.ext_getElem?
  intro k
  rw [List.getElem?_take, List.getElem?_take, List.getElem?_drop]
  by_cases h1 : k < m
  · rw [if_pos h1, if_pos (by omega)]
  · rw [if_neg h1]
    split
    · rw [List.getElem?_eq_none (by omega)]
    · rfl
/-- While a cut is filled: k pairs of it are there. -/
structure Fl (w W : World) (D g : Nat) (sd : Int) (ns : List Nd) (a m k : Nat) : Prop where
  only : Only [] w W
  lst : Lst W D sd (ns.length : Nat) ns
  row : ∃ C, W.heap[g]? = some (.cells C 30 (0, 0)) ∧ C.size = m * 2 ∧ ∀ t x, t < k → (prs ns)[a + t]? = some x → C[t * 2]? = some (.string x.1) ∧ C[t * 2 + 1]? = some (.int .i64 x.2)
  new : w.heap.size ≤ g
  sep : ∀ b ∈ blks D ns, b ≠ g
theorem Fl.facts {w W : World} {D g : Nat} {sd : Int} {ns : List Nd} {a m k : Nat} (h : Fl w W D g sd ns a m k) (hk : k < m) {n : Nd} (hn : ns[a + k]? = some n) :
    W.cell? ⟨n.nb, 0, none⟩ = some (.string n.x.1) ∧ W.cell? ⟨n.nb, 1, none⟩ = some (.int .i64 n.x.2) ∧
    (∃ v, W.cell? ⟨g, k * 2, none⟩ = some v) ∧ (∀ i, W.frozen? ⟨g, i, none⟩ = false) ∧ (∃ u, ∀ v, (W.setCell ⟨g, k * 2, none⟩ v).cell? ⟨g, k * 2 + 1, none⟩ = some u) ∧ (∀ v i, (W.setCell ⟨g, k * 2, none⟩ v).frozen? ⟨g, i, none⟩ = false) ∧
    ((W.setCell ⟨g, k * 2, none⟩ (.string n.x.1)).setCell ⟨g, k * 2 + 1, none⟩ (.int .i64 n.x.2)).cell? ⟨n.nb, 2, none⟩ = some (.slice (some ⟨n.lb, 0, none⟩) n.h n.h) ∧
    ((W.setCell ⟨g, k * 2, none⟩ (.string n.x.1)).setCell ⟨g, k * 2 + 1, none⟩ (.int .i64 n.x.2)).cell? ⟨n.lb, 0, none⟩ = some (nodeV ns (a + (k + 1))) ∧
    0 < n.h ∧
    Fl w ((W.setCell ⟨g, k * 2, none⟩ (.string n.x.1)).setCell ⟨g, k * 2 + 1, none⟩ (.int .i64 n.x.2)) D g sd ns a m (k + 1) := by
  have hmem := List.mem_of_getElem? hn
  obtain ⟨c0, c1, c2⟩ := h.lst.base.node_cells hmem
  have hh := (h.lst.base.hs n hmem).1
  obtain ⟨C, r1, r2, r3⟩ := h.row
  have hi0 : k * 2 < C.size := by omega
  have hi1 : k * 2 + 1 < C.size := by omega
  have hO : Only [g] W ((W.setCell ⟨g, k * 2, none⟩ (.string n.x.1)).setCell ⟨g, k * 2 + 1, none⟩ (.int .i64 n.x.2)) :=
    ((Only.refl [g] W).set (p := ⟨g, k * 2, none⟩) (Or.inl (by simp)) _).set (p := ⟨g, k * 2 + 1, none⟩) (Or.inl (by simp)) _
  have hL := h.lst.keep hO (fun b hb => by simpa using h.sep b hb)
  obtain ⟨d0, d1, d2⟩ := hL.base.node_cells hmem
  have hlk := (hL.lv 0 (by omega) _ _ _ (ow_here (D := D) hn (by omega : 0 < n.h)).1).1
  rw [lnk_zero hL.base.hs] at hlk
  simp only [Nat.mul_zero, Nat.add_zero] at hlk
  refine ⟨c0, c1, ⟨C[k * 2], by simp [World.cell?, r1, hi0]⟩, fun i => by simp [World.frozen?, r1], ⟨C[k * 2 + 1], fun v => by rw [set_other _ (Or.inr (by omega))]; simp [World.cell?, r1, hi1]⟩, fun v i => by simp [World.frozen?, Joins.block_setCell r1 v], d2, hlk, by omega, ?_⟩
  refine ⟨Only.none_of_new h.only hO h.new, hL, ⟨_, Joins.block_setCell (Joins.block_setCell r1 _) _, by simpa using r2, fun t x ht hx => ?_⟩, h.new, h.sep⟩
  by_cases htk : t = k
  · subst htk
    have : x = n.x := by
      rw [prs_get hn] at hx
      exact (Option.some.inj hx).symm
    subst this
    constructor
    · rw [Array.getElem?_setIfInBounds_ne (by omega), Array.getElem?_setIfInBounds_self_of_lt hi0]
    · rw [Array.getElem?_setIfInBounds_self_of_lt (by simpa using hi1)]
  · obtain ⟨e0, e1⟩ := r3 t x (by omega) hx
    constructor
    · rw [Array.getElem?_setIfInBounds_ne (by omega), Array.getElem?_setIfInBounds_ne (by omega)]; exact e0
    · rw [Array.getElem?_setIfInBounds_ne (by omega), Array.getElem?_setIfInBounds_ne (by omega)]; exact e1
theorem Fl.done {w W : World} {D g : Nat} {sd : Int} {ns : List Nd} {a m : Nat} (h : Fl w W D g sd ns a m m) (ham : a + m ≤ ns.length) (hl : ns.length ≤ 1000000) : FreshS w (.slice (some ⟨g, 0, none⟩) m m) (((prs ns).drop a).take m) W := by
  obtain ⟨C, r1, r2, r3⟩ := h.row
  have hlen : (((prs ns).drop a).take m).length = m := by simp [prs]; omega
  have := rowS_mk (L := ((prs ns).drop a).take m) r1 (by rw [hlen]; exact r2) (by omega) (fun j x hj => by
    rw [List.getElem?_take] at hj
    split at hj
    · rw [List.getElem?_drop] at hj
      exact r3 j x (by omega) hj
    · cases hj) h.new
  rw [hlen] at this
  exact ⟨this, h.only⟩
set_option maxHeartbeats 4000000 in
theorem cut_any {w : World} {d : Value} {D : Nat} {ns : List Nd} (hs : Is w d D ns) (hlen : ns.length ≤ 1000000) (i j : Int) (hi : -9223372036854775808 ≤ i ∧ i ≤ 9223372036854775807) (hj : -9223372036854775808 ≤ j ∧ j ≤ 9223372036854775807) :
    Calls Tryd.prog 23 #[d, .int .i64 i, .int .i64 j] w fun e w' => ∃ v, e = .returned v ∧ FreshS w v (cutS (prs ns) i j) w' := by
  have hl := Lib.hid hs.len
  have hpl : (prs ns).length = ns.length := by simp [prs]
  obtain ⟨hi0, hi1⟩ := hi
  obtain ⟨hj0, hj1⟩ := hj
  have hw1 := wrap_small (x := (ns.length : Int) - 1) (by omega)
  obtain ⟨F, hF⟩ : ∃ F, (if i < 0 then 0 else i) = F := ⟨_, rfl⟩
  obtain ⟨T, hT⟩ : ∃ T, (if (ns.length : Int) - 1 < j then (ns.length : Int) - 1 else j) = T := ⟨_, rfl⟩
  have hFe : max i 0 = F := by rw [← hF]; split <;> omega
  have hTe : min j ((ns.length : Int) - 1) = T := by rw [← hT]; split <;> omega
  rcases Int.lt_or_le T F with hq | hq
  · have hz : Hid (cutS (prs ns) i j = []) := Lib.hid (cutS_none (by rw [hpl, hFe, hTe]; exact hq))
    rw [hz.out]
    have hd : decide (T < F) = true := decide_eq_true hq
    clear hs hpl hq hz hFe hTe
    generalize ns.length = n at *
    go_enter Tryd.func23, Tryd.ntmps23
    go_wp2_with (go_at_call 15; ((with_reducible refine (hl.out).mono ?_); rintro e w' ⟨rfl, rfl⟩))
    all_goals go_ret
    all_goals exact ⟨_, rfl, rowS_nil _ _, Only.refl _ _⟩
  · obtain ⟨a, ha⟩ : ∃ a : Nat, F = (a : Int) := ⟨F.toNat, by omega⟩
    obtain ⟨m, hm⟩ : ∃ m : Nat, T - a + 1 = (m : Int) := ⟨(T - a + 1).toNat, by omega⟩
    have hp : 0 < m := by omega
    have ham : a + m ≤ ns.length := by omega
    have hz := cutS_some (L := prs ns) (i := i) (j := j) (by rw [hFe]; exact ha) (by rw [hpl, hTe]; exact hm) hp
    rw [hz]
    obtain ⟨rfl, sd, hL⟩ : d = .pointer (some ⟨D, 0, none⟩) ∧ ∃ sd, Lst w D sd (ns.length : Nat) ns := by
      rcases hs with ⟨_, rfl⟩ | ⟨h1, sd, h2⟩
      · simp at ham; omega
      · exact ⟨h1, sd, h2⟩
    have hO1 : Only [] w (w.alloc (.cells (scC m) 30)) := (Only.refl [] w).alloc _
    have hla := Lib.hid (lat_any (hs.keep hO1) hlen a (by omega) F ha)
    have hd : decide (T < F) = false := decide_eq_false (by omega)
    have hmk := fun w => run_scs (T - F + 1) m (by omega) (by omega) w
    have hw2 := wrap_small (x := T - F) (by omega)
    have hw3 := wrap_small (x := T - F + 1) (by omega)
    have hF0 : Hid (∀ W2, Only [] (w.alloc (.cells (scC m) 30)) W2 → Fl w W2 D w.heap.size sd ns a m 0) := Lib.hid (fun W2 h2 =>
      ⟨hO1.trans h2 (by simp), hL.none' (hO1.trans h2 (by simp)), ⟨scC m, h2.keep (heap_alloc_new w _) List.not_mem_nil, scC_size m, fun t x ht => by omega⟩, Nat.le_refl _, fun b hb e => by have := hL.base.lt hb; omega⟩)
    have hlenH := Lib.hid hlen
    have hamH := Lib.hid ham
    clear hs hz hp hL hO1 hpl hm ha hq hlen ham hi0 hi1 hj0 hj1 hFe hTe
    generalize hnl : ns.length = nl at *
    have hnlH := Lib.hid hnl
    clear hnl
    go_enter Tryd.func23, Tryd.ntmps23
    go_wp2_with (first
      | (go_at_call 15; ((with_reducible refine (hl.out).mono ?_); rintro e w' ⟨rfl, rfl⟩))
      | (go_at_call 30; ((with_reducible refine (hla.out).mono ?_); rintro e W2 ⟨rfl, h2⟩; have hF := Lib.hid (hF0.out W2 h2); clear h2)))
    generalize w.heap.size = g at *
    go_loopw [8, 9, 30] (fun s8 s9 s30 wr => ∃ k : Nat, k ≤ m ∧ s30 = .int .i64 k ∧ s8 = nodeV ns (a + k) ∧ Hid (Fl w wr D g sd ns a m k)) (fun _ _ s30 _ => m - (intOf s30).toNat)
    case atStart => exact ⟨0, by omega, rfl, rfl, hF⟩
    case round =>
      obtain ⟨k, hk, rfl, rfl, hT⟩ := hrel
      by_cases hkm : k < m
      · obtain ⟨n, hn⟩ : ∃ n, ns[a + k]? = some n := ⟨_, List.getElem?_eq_getElem (by have := hamH.out; have := hnlH.out; omega)⟩
        obtain ⟨f0, f1, ⟨fv, f2⟩, f3, ⟨fu, f4⟩, f5, f6, f7, f8, f9⟩ := hT.out.facts hkm hn
        have hnv : nodeV ns (a + k) = .pointer (some ⟨n.nb, 0, none⟩) := by unfold nodeV; rw [hn]
        rw [hnv]
        have hix := run_ixS g k m m hkm
        have hix2 := run_lk n.lb 0 n.h 0 0 rfl f8
        have f9H := Lib.hid f9
        have hkmH := Lib.hid hkm
        have hlt : decide ((k : Int) < (m : Int)) = true := decide_eq_true (by omega)
        have hltn : decide (k < m) = true := decide_eq_true hkm
        have hbm : Hid (m ≤ 1000000) := Lib.hid (by have := hamH.out; have := hlenH.out; omega)
        have hwk := wrap_small (x := (k : Int) + 1) (by have := hbm.out; omega)
        clear f9 hkm hnv hn
        go_wp2_with fail
        go_roundw
        case rel => exact ⟨k + 1, by have := hkmH.out; omega, by go_num, rfl, f9H⟩
        case measure => have := hkmH.out; simp [intOf]; omega
      · have hin : k = m := by omega
        subst hin
        have hdone := Lib.hid (hT.out.done (by rw [hnlH.out]; exact hamH.out) (by rw [hnlH.out]; exact hlenH.out))
        go_wp2_with fail
        go_ret
        exact ⟨_, rfl, hdone.out⟩
end Go.Proofs.YtijfipghoilpeaaDoor
