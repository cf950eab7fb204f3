/-
  The walk of Drop; New. Premises: a list as it lies, in order, or none; fewer pairs than a million.
-/
import Derived.Test.YtijfipghoilpeaaDoorJ
namespace Go.Proofs.YtijfipghoilpeaaDoor
open Go.RowKit

theorem ins_of {ns : List Nd} {k : Nat} {n : Nd} (h : ns[k]? = some n) : ins (ns.take k ++ ns.drop (k + 1)) k n = ns ∧ k ≤ (ns.take k ++ ns.drop (k + 1)).length := by
  obtain ⟨hlt, he⟩ := List.getElem?_eq_some_iff.1 h
  have hl : (ns.take k).length = k := by simp; omega
  refine ⟨?_, by rw [List.length_append]; omega⟩
  unfold ins
  rw [List.take_append_of_le_length (by omega), List.take_of_length_le (by omega), List.drop_append, hl, Nat.sub_self, List.drop_zero, List.drop_eq_nil_of_le (by omega), List.nil_append, ← he, ← List.drop_eq_getElem_cons hlt, List.take_append_drop]
theorem part_fresh {W : World} {g D : Nat} {sd c : Int} {ns : List Nd} {k : Nat} {n : Nd} (hl : Lst W D sd c ns) (hp : PathAt W g D ns k) (hn : ns[k]? = some n) (hlen : ns.length ≤ 1000000) (hg : g ∉ blks D ns) :
    Calls Tryd.prog 27 #[.pointer (some ⟨g, 0, none⟩), .pointer (some ⟨n.nb, 0, none⟩)] W fun e w' => e = .returned (.tuple #[]) ∧ Pt W w' g D sd c (ns.take k ++ ns.drop (k + 1)) k n 16 := by
  obtain ⟨h1, h2⟩ := ins_of hn
  have h3 : (ns.take k ++ ns.drop (k + 1)).length ≤ 1000000 := by
    have := ins_len h2 n
    rw [h1] at this
    omega
  refine part_walk h2 h3 ⟨Only.refl _ _, ?_, fun L hL => by omega, fun L _ hL => ?_, ?_, ?_⟩
  · rw [h1]; exact hl.base
  · rw [h1]; exact hl.lv L hL
  · rw [h1]; exact hp
  · rw [h1]; exact hg
/-- Behind part and the count. -/
theorem drop_done {w W W' : World} {g D : Nat} {sd : Int} {ns : List Nd} {n : Nd} (hu : U sd) (hO : Only [] w W) (hr : Rises (prs ns)) (hx : n.x ∈ prs ns) (hn : ns[ahd (prs ns) n.x]? = some n) (hlen : ns.length ≤ 1000000)
    (h : Pt W W' g D sd (ns.length : Nat) (ns.take (ahd (prs ns) n.x) ++ ns.drop (ahd (prs ns) n.x + 1)) (ahd (prs ns) n.x) n 16) (c : Int) (hc : c = (ns.length : Int) - 1) : Done w D ns (dropS (prs ns) n.x) (W'.setCell ⟨D, 33, none⟩ (.int .i64 c)) := by
  obtain ⟨h1, h2⟩ := ins_of hn
  have hL := lst_count (pt_end h) c
  have hl := ins_len h2 n
  rw [h1] at hl
  have hp : prs (ns.take (ahd (prs ns) n.x) ++ ns.drop (ahd (prs ns) n.x + 1)) = dropS (prs ns) n.x := by
    unfold dropS prs at *
    rw [if_pos hx, List.map_append, List.map_take, List.map_drop]
  have hO2 := h.only
  rw [h1] at hO2
  have hM : ∀ b, b ∈ blks D (ns.take (ahd (prs ns) n.x) ++ ns.drop (ahd (prs ns) n.x + 1)) → b ∈ blks D ns := fun b hb => by
    rw [← h1]
    exact blks_ins.2 (Or.inr (Or.inr hb))
  refine ⟨_, ⟨⟨sd, hu, ?_⟩, ?_, by omega⟩, hp, ?_, fun b hb => Or.inl (hM b hb)⟩
  · rw [show (((ns.take (ahd (prs ns) n.x) ++ ns.drop (ahd (prs ns) n.x + 1)).length : Nat) : Int) = c by omega]
    exact hL
  · rw [hp]; exact drop_rises hr _
  · exact (hO.mono (O' := blks D ns) (by simp)).trans (hO2.set (p := ⟨D, 33, none⟩) (Or.inl (List.mem_cons_self ..)) _) (fun x hx => Or.inl (wrs_blks hx))
set_option maxHeartbeats 4000000 in
theorem drop_none {w : World} {d : Value} {D : Nat} {ns : List Nd} (hs : Is w d D ns) (hr : Rises (prs ns)) (hlen : ns.length ≤ 1000000) (x : Sc) (hx : x ∉ prs ns) :
    Calls Tryd.prog 10 #[d, scV x] w fun e w' => e = .returned (.bool false) ∧ Only [] w w' := by
  obtain ⟨b1, b2, b3⟩ := boxed1 w x.1 x.2
  have hf := Lib.hid (find_any (hs.keep b1) hr hlen x)
  rw [show thereV ns x = .pointer none by unfold thereV; rw [if_neg hx]] at hf
  have b1H := Lib.hid b1
  clear hs hr hlen hx b1
  obtain ⟨xa, xs⟩ := x
  unfold scV at *
  simp only at b1H b2 b3 hf
  go_enter Tryd.func10, Tryd.ntmps10
  go_wp2_with (first
    | (go_at_call 26; ((with_reducible refine (hf.out).mono ?_); rintro e W2 ⟨C, D', rfl, hP, hO2, hD⟩; have hPH := Lib.hid hP; have hO2H := Lib.hid hO2; clear hP hO2 hD))
    | (refine wpList_store_path (o := ⟨none, _, _, _, _, _⟩) (by rfl) (.tmp 5) (.tmp 11) (by rfl) W2.heap.size (by rfl) _ C (by rfl) (heap_alloc_new W2 _) (by rfl) hPH.out.size hPH.out.one ?_; intro W3 h3 hO3; have hO3H := Lib.hid (Only.none_of_new ((Only.refl [] W2).alloc _) hO3 (Nat.le_refl _)); clear h3 hO3))
  go_ret
  exact ⟨rfl, b1H.out.trans (hO2H.out.trans hO3H.out (by simp)) (by simp)⟩
set_option maxHeartbeats 4000000 in
theorem drop_some {w : World} {D : Nat} {ns : List Nd} (hs : Sk w D ns) (x : Sc) (hx : x ∈ prs ns) :
    Calls Tryd.prog 10 #[.pointer (some ⟨D, 0, none⟩), scV x] w fun e w' => e = .returned (.bool true) ∧ Done w D ns (dropS (prs ns) x) w' := by
  obtain ⟨b1, b2, b3⟩ := boxed1 w x.1 x.2
  have hf := Lib.hid (find_any (hs.is_.keep b1) hs.ord hs.few x)
  obtain ⟨sd, hu, hl⟩ := hs.at_
  rcases there_cases hs.is_ hs.ord x with ⟨e1, e2⟩ | ⟨n, e1, e3, e4, e2⟩
  · exact absurd hx e1
  · rw [e2] at hf
    subst e4
    have hlt : Hid (∀ b ∈ blks D ns, b < w.heap.size) := Lib.hid (fun b hb => hs.lt hb)
    have hlH := Lib.hid hl
    have huH := Lib.hid hu
    have hr := Lib.hid hs.ord
    have hfw := Lib.hid hs.few
    have hxH := Lib.hid hx
    have e3H := Lib.hid e3
    have b1H := Lib.hid b1
    have hpos : Hid (0 < ns.length) := Lib.hid (by have := (List.getElem?_eq_some_iff.1 e3).1; omega)
    clear hs hl hu e1 e2 e3 b1 b2 b3 hx
    unfold scV at *
    go_enter Tryd.func10, Tryd.ntmps10
    go_upto_region 4 with (first
      | (go_at_call 26; ((with_reducible refine (hf.out).mono ?_); rintro e W2 ⟨C, D', rfl, hP, hO2, hD⟩; have hPH := Lib.hid hP; have hO2H := Lib.hid hO2; have hDH := Lib.hid (hD (by simp)); clear hP hO2 hD))
      | (refine wpList_store_path (o := ⟨none, _, _, _, _, _⟩) (by rfl) (.tmp 5) (.tmp 11) (by rfl) W2.heap.size (by rfl) _ C (by rfl) (heap_alloc_new W2 _) (by rfl) hPH.out.size hPH.out.one ?_; intro W3 h3 hO3; have h3H := Lib.hid h3; have hO3H := Lib.hid (Only.none_of_new ((Only.refl [] W2).alloc _) hO3 (Nat.le_refl _)); clear h3 hO3))
    have hW3 := b1H.out.trans (hO2H.out.trans hO3H.out (by simp)) (by simp)
    have hPA : PathAt W3 W2.heap.size D ns (ahd (prs ns) n.x) := hDH.out ▸ ⟨⟨C, h3H.out, hPH.out⟩⟩
    have hg : W2.heap.size ∉ blks D ns := fun hm => by
      have := hlt.out _ hm
      have := (b1H.out.trans hO2H.out (by simp)).size
      omega
    have hpt := Lib.hid (part_fresh (hlH.out.none' hW3) hPA e3H.out hfw.out hg)
    have hW3H := Lib.hid hW3
    clear hW3 hPA hg
    generalize W2.heap.size = g at *
    go_wp2_with (go_at_call 27; ((with_reducible refine (hpt.out).mono ?_); rintro e W5 ⟨rfl, hJ⟩; have hJH := Lib.hid hJ; obtain ⟨_, d1, d2⟩ := (pt_end hJ).base.head_cells; have hfw1 := hfw.out; have hpos1 := hpos.out; have hdone := Lib.hid (drop_done (w := w) huH.out hW3H.out hr.out hxH.out e3H.out hfw.out hJ ((ns.length : Int) - 1) rfl); clear hJ; generalize ns.length = N at *))
    go_ret
    exact ⟨rfl, hdone.out⟩
theorem new_any (sd : Int) (hu : U sd) (w : World) :
    Calls Tryd.prog 9 #[.int .u64 sd] w fun e w' => e = .returned (.pointer (some ⟨w.heap.size, 0, none⟩)) ∧ Sk w' w.heap.size [] ∧ Only [] w w' := by
  have hz := lst_zero w sd
  go_enter Tryd.func9, Tryd.ntmps9
  go_wp2
  go_ret
  exact ⟨rfl, ⟨⟨sd, hu, hz⟩, List.Pairwise.nil, by simp⟩, (Only.refl [] w).alloc _⟩
end Go.Proofs.YtijfipghoilpeaaDoor
