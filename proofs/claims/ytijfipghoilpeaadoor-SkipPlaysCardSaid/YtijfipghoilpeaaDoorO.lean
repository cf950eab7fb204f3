/-
  The document's answers: Put, Drop. Premises: a row of pairs of one's own, in order.
-/
import Derived.Test.YtijfipghoilpeaaDoorN
namespace Go.Proofs.YtijfipghoilpeaaDoor
open Go.RowKit

theorem ret_vb {v : Value} {b c : Bool} (h : b = c) : Ending.returned (.tuple #[v, .bool b]) = .returned (.tuple #[v, .bool c]) := by rw [h]
set_option maxHeartbeats 4000000 in
theorem rput_there {w : World} {B : Nat} {v : Value} {L : List Sc} (h : RowS w B v L) (hr : Rises L) (hn : L.length ≤ 1000000) (x : Sc) (hx : x ∈ L) :
    Calls Tryd.prog 13 #[v, scV x] w fun e w' => e = .returned (.tuple #[v, .bool false]) ∧ Only [] w w' := by
  obtain ⟨b1, b2, b3⟩ := boxed1 w x.1 x.2
  have hR := Lib.hid (rrank_any (h.none b1) hr hn x)
  have hrv : Hid (rnk L x = ((ahd L x : Nat) : Int)) := Lib.hid (by unfold rnk; rw [if_pos hx])
  rw [hrv.out] at hR
  obtain ⟨A, c, rfl⟩ := h.len
  have b1H := Lib.hid b1
  clear h hr hx b1 hrv
  generalize ahd L x = a at *
  obtain ⟨xa, xs⟩ := x
  unfold scV at *
  simp only at b2 b3 b1H
  generalize L.length = n at *
  go_enter Tryd.func13, Tryd.ntmps13
  go_wp2_with (go_at_call 17; ((with_reducible refine (hR.out).mono ?_); rintro e w2 ⟨rfl, h2⟩; have h2H := Lib.hid h2; clear h2))
  all_goals go_ret2
  all_goals exact ⟨rfl, b1H.out.trans h2H.out (by simp)⟩
set_option maxHeartbeats 8000000 in
theorem rput_new {w : World} {B : Nat} {v : Value} {L : List Sc} (h : RowS w B v L) (hr : Rises L) (hn : L.length ≤ 1000000) (x : Sc) (hx : x ∉ L) :
    Calls Tryd.prog 13 #[v, scV x] w fun e w' => ∃ v', e = .returned (.tuple #[v', .bool true]) ∧ FreshS w v' (putS L x) w' := by
  obtain ⟨b1, b2, b3⟩ := boxed1 w x.1 x.2
  have hal := ahd_le L x
  have hR := Lib.hid (rrank_any (h.none b1) hr hn x)
  rw [show rnk L x = -1 by unfold rnk; rw [if_neg hx]] at hR
  have hAh := Lib.hid (fun w2 (h2 : Only [] (w.alloc (.cells #[.string x.1, .int .i64 x.2] 30)) w2) => rahead_any ((h.none b1).none h2) hn x)
  obtain ⟨S, hS, hsrc⟩ := cut_toS h (ahd L x) hal (ahd L x : Nat) rfl
  obtain ⟨T, hT, htsrc⟩ := cut_fromS h (ahd L x) hal (ahd L x : Nat) rfl
  obtain ⟨A, c, rfl⟩ := h.len
  have hsH := Lib.hid hsrc
  have htH := Lib.hid htsrc
  have hl1 : Hid ((L.take (ahd L x)).length ≤ 1000000) := Lib.hid (by rw [List.length_take]; omega)
  have hl2 : Hid ((L.take (ahd L x)).length + 1 + (L.drop (ahd L x)).length ≤ 1000001) := Lib.hid (by rw [List.length_take, List.length_drop]; omega)
  have hput : Hid (putS L x = L.take (ahd L x) ++ x :: L.drop (ahd L x)) := Lib.hid (by unfold putS; rw [if_neg hx])
  rw [hput.out]
  have b1H := Lib.hid b1
  clear h hsrc htsrc hr hn hx b1 hput hal
  generalize hP : L.take (ahd L x) = P at *
  generalize hD : L.drop (ahd L x) = R at *
  clear hP hD
  generalize ahd L x = a at *
  obtain ⟨xa, xs⟩ := x
  unfold scV at *
  simp only at b2 b3 b1H hAh
  generalize L.length = n at *
  go_enter Tryd.func13, Tryd.ntmps13
  generalize hW1 : w.alloc (.cells #[.string xa, .int .i64 xs] 30) = W1 at *
  generalize hb0 : w.heap.size = b0 at *
  go_wp2_with (first
    | (go_at_call 17; ((with_reducible refine (hR.out).mono ?_); rintro e w2 ⟨rfl, h2⟩; have c0 := cell_keep h2 b2; have c1 := cell_keep h2 b3; have h2H := Lib.hid h2; have hA2 := Lib.hid (hAh.out w2 h2); clear h2))
    | (go_at_call 19; ((with_reducible refine (hA2.out).mono ?_); rintro e w3 ⟨rfl, h3⟩; have d0 := cell_keep h3 c0; have d1 := cell_keep h3 c1; have h3H := Lib.hid (h2H.out.trans h3 (by simp)); have h03 := Lib.hid (b1H.out.trans h3H.out (by simp)); clear h3))
    | (at_builtin; refine wpList_append_s (o := ⟨some 19, _, _, _, _, _⟩) (by rfl) (.const (.slice none 0 0)) (.tmp 18) (by rfl) w3.heap.size (.slice none 0 0) S [] P (by rfl) (by rfl) (rowS_nil _ _) (hsH.out.none h03.out) (by have := hl1.out; simp; omega) (Nat.le_refl _) ?_; intro v4 w4 hR4 hO4 hv4; have hR4H := Lib.hid (show RowS w4 w3.heap.size v4 P from hR4); have hO4' : Only [] w3 w4 := hO4; have e0 := cell_keep hO4' d0; have e1 := cell_keep hO4' d1; have hO4H := Lib.hid hO4'; clear hR4 hO4 hv4 hO4')
    | (at_builtin; refine wpList_append_s (o := ⟨some 23, _, _, _, _, _⟩) (by rfl) (.tmp 20) (.tmp 22) (by rfl) w3.heap.size v4 (.slice (some ⟨w4.heap.size, 0, none⟩) 1 1) P [(xa, xs)] (by rfl) (by rfl) (hR4H.out.none ((Only.refl [] _).alloc (.cells #[.string xa, .int .i64 xs] 30))) (rowS_one (xa, xs) (Nat.le_refl _)).src (by have := hl1.out; simp; omega) (by have := hO4H.out.size; simp; omega) ?_; intro v5 w5 hR5 hO5 hv5; have hR5H := Lib.hid hR5; have hO5H := Lib.hid (own_newS hO5 (hO4H.out.alloc _) (fun k hk => (hR4H.out.lt k hk).1)); clear hR5 hO5 hv5)
    | (at_builtin; refine wpList_append_s (o := ⟨some 28, _, _, _, _, _⟩) (by rfl) (.tmp 24) (.tmp 27) (by rfl) w3.heap.size v5 T (P ++ [(xa, xs)]) R (by rfl) (by rfl) hR5H.out (htH.out.none (h03.out.trans hO5H.out (by simp))) (by have := hl2.out; simp; omega) hO5H.out.size ?_; intro v6 w6 hR6 hO6 hv6; have hR6H := Lib.hid hR6; have hO6H := Lib.hid (own_newS hO6 hO5H.out (fun k hk => (hR5H.out.lt k hk).1)); clear hR6 hO6 hv6))
  all_goals go_ret2
  subst hb0
  exact ⟨_, rfl, by simpa using hR6H.out.base h03.out.size, h03.out.trans hO6H.out (by simp)⟩

set_option maxHeartbeats 4000000 in
theorem rdrop_none {w : World} {B : Nat} {v : Value} {L : List Sc} (h : RowS w B v L) (hr : Rises L) (hn : L.length ≤ 1000000) (x : Sc) (hx : x ∉ L) :
    Calls Tryd.prog 11 #[v, scV x] w fun e w' => e = .returned (.tuple #[v, .bool false]) ∧ Only [] w w' := by
  obtain ⟨b1, b2, b3⟩ := boxed1 w x.1 x.2
  have hR := Lib.hid (rrank_any (h.none b1) hr hn x)
  rw [show rnk L x = -1 by unfold rnk; rw [if_neg hx]] at hR
  obtain ⟨A, c, rfl⟩ := h.len
  have b1H := Lib.hid b1
  clear h hr hx b1
  obtain ⟨xa, xs⟩ := x
  unfold scV at *
  simp only at b2 b3 b1H
  generalize L.length = n at *
  go_enter Tryd.func11, Tryd.ntmps11
  go_wp2_with (go_at_call 17; ((with_reducible refine (hR.out).mono ?_); rintro e w2 ⟨rfl, h2⟩; have h2H := Lib.hid h2; clear h2))
  all_goals go_ret2
  all_goals exact ⟨rfl, b1H.out.trans h2H.out (by simp)⟩
set_option maxHeartbeats 8000000 in
theorem rdrop_some {w : World} {B : Nat} {v : Value} {L : List Sc} (h : RowS w B v L) (hr : Rises L) (hn : L.length ≤ 1000000) (x : Sc) (hx : x ∈ L) :
    Calls Tryd.prog 11 #[v, scV x] w fun e w' => ∃ v', e = .returned (.tuple #[v', .bool true]) ∧ FreshS w v' (dropS L x) w' := by
  obtain ⟨b1, b2, b3⟩ := boxed1 w x.1 x.2
  have hal : ahd L x < L.length := (List.getElem?_eq_some_iff.1 ((mem_ahd hr x).1 hx)).1
  have hR := Lib.hid (rrank_any (h.none b1) hr hn x)
  rw [show rnk L x = ((ahd L x : Nat) : Int) by unfold rnk; rw [if_pos hx]] at hR
  obtain ⟨S, hS, hsrc⟩ := cut_toS h (ahd L x) (by omega) (ahd L x : Nat) rfl
  obtain ⟨T, hT, htsrc⟩ := cut_fromS h (ahd L x + 1) (by omega) ((ahd L x : Nat) + 1) (by omega)
  obtain ⟨A, c, rfl⟩ := h.len
  have hsH := Lib.hid hsrc
  have htH := Lib.hid htsrc
  have hw1 := wrap_small (x := ((ahd L x : Nat) : Int) + 1) (by omega)
  have hkn : decide (((ahd L x : Nat) : Int) < 0) = false := decide_eq_false (by omega)
  have hl1 : Hid ((L.take (ahd L x)).length ≤ 1000000) := Lib.hid (by rw [List.length_take]; omega)
  have hl2 : Hid ((L.take (ahd L x)).length + (L.drop (ahd L x + 1)).length ≤ 1000001) := Lib.hid (by rw [List.length_take, List.length_drop]; omega)
  have hdr : Hid (dropS L x = L.take (ahd L x) ++ L.drop (ahd L x + 1)) := Lib.hid (by unfold dropS; rw [if_pos hx])
  rw [hdr.out]
  have b1H := Lib.hid b1
  clear h hsrc htsrc hr hn hx b1 hdr hal
  generalize hP : L.take (ahd L x) = P at *
  generalize hD : L.drop (ahd L x + 1) = R at *
  clear hP hD
  generalize ahd L x = a at *
  obtain ⟨xa, xs⟩ := x
  unfold scV at *
  simp only at b2 b3 b1H
  generalize L.length = n at *
  go_enter Tryd.func11, Tryd.ntmps11
  generalize hW1 : w.alloc (.cells #[.string xa, .int .i64 xs] 30) = W1 at *
  generalize hb0 : w.heap.size = b0 at *
  go_wp2_with (go_at_call 17; ((with_reducible refine (hR.out).mono ?_); rintro e w2 ⟨rfl, h2⟩; have h2H := Lib.hid (b1H.out.trans h2 (by simp)); clear h2))
  go_region_law (first
    | (refine step_append_s (o := ⟨some 16, _, _, _, _, _⟩) (by rfl) (.const (.slice none 0 0)) (.tmp 15) (by rfl) w2.heap.size (.slice none 0 0) S [] P (by rfl) (by simp [Act.eval, Act.put]) (rowS_nil _ _) (hsH.out.none (h2H.out.drewN _)) (by have := hl1.out; simp; omega) (by simp) ?_; intro v1 w3 hR1 hO1 hv1; have hO1H := Lib.hid (((Only.refl [] w2).drew).trans hO1 (by simp [Value.ownBlock])); have hR1H := Lib.hid (show RowS w3 w2.heap.size v1 P from hR1); clear hR1 hO1 hv1)
    | (refine step_append_s (o := ⟨some 21, _, _, _, _, _⟩) (by rfl) (.tmp 16) (.tmp 20) (by rfl) w2.heap.size v1 T P R (by simp [Act.eval]) (by simp [Act.eval]) hR1H.out (htH.out.none (h2H.out.trans hO1H.out (by simp))) (by have := hl2.out; omega) hO1H.out.size ?_; intro v4 w4 hR2 hO2 hv2; have hR2H := Lib.hid hR2; have hO2H := Lib.hid (own_newS hO2 hO1H.out (fun k hk => (hR1H.out.lt k hk).1)); clear hR2 hO2 hv2))
  all_goals go_wp2_with fail
  all_goals go_ret2
  all_goals subst hb0
  all_goals exact ⟨_, rfl, hR2H.out.base h2H.out.size, h2H.out.trans hO2H.out (by simp)⟩
end Go.Proofs.YtijfipghoilpeaaDoor
