/-
  The walk of the law of splitting. A premise: the library's variable ErrSyntax holds an error, or none.
-/
import Derived.Test.YtkghdnifgoeljaaDoorWK
import Derived.Test.YtkghdnifgoeljaaDoorWT
namespace Go.Proofs.YtkghdnifgoeljaaDoor
open Go.RowKit Ln

theorem rsplit_yes (s : ByteArray) (l : List ByteArray) (w : World) (hs : s.size ≤ 65536) (h : spl s.data.toList = some (txt l)) :
    Calls Tryd.prog 10 #[.string s] w fun e w' => ∃ A cap, e = .returned (.tuple #[.slice A l.length cap, .bool true]) ∧ SB w' w'.heap.size A l ∧ Below w.heap.size w w' := by
  refine (rsplit_any s w hs).mono fun e w' hh => ?_
  rw [h] at hh
  obtain ⟨ss, v, h1, rfl, h3⟩ := hh
  obtain rfl := txt_inj h1
  obtain ⟨A, cap, rfl, h4⟩ := h3.open
  exact ⟨A, cap, rfl, h4, h3.bel⟩
theorem rsplit_no (s : ByteArray) (w : World) (hs : s.size ≤ 65536) (h : spl s.data.toList = none) :
    Calls Tryd.prog 10 #[.string s] w fun e w' => e = .returned (.tuple #[.slice none 0 0, .bool false]) ∧ Below w.heap.size w w' := by
  refine (rsplit_any s w hs).mono fun e w' hh => ?_
  rw [h] at hh
  exact hh
theorem RR.none_ (w : World) (A : Option Addr) : RR w A [] := fun i x hx => by cases hx

set_option maxRecDepth 100000 in
set_option maxHeartbeats 4000000 in
theorem splits_any (s : ByteArray) (w : World) (hE : ErrAt w) :
    Calls Tryd.prog 3 #[.string s] w fun e w' => e = .returned (.bool true) ∧ Below w.heap.size w w' := by
  have hb0 : Below w.heap.size w (w.alloc (.cells #[.string s] 9)) := (Below.refl _ _).alloc (Nat.le_refl _) _
  have hE0 := Lib.hid (hE.on hb0)
  have hEH := Lib.hid hE
  clear hE
  cases hG : farL [s] with
  | true =>
    have hGH := Lib.hid hG
    clear hG
    go_enter Tryd.func3, Tryd.ntmps3
    go_wp2_with (first
      | (go_at_call 7; ((with_reducible refine (far_one s _ true hGH).mono ?_); rintro e w' ⟨rfl, rfl⟩))
      | (go_at_call 8; ((with_reducible refine (alive_any _ hE0).mono ?_); rintro e w1 ⟨rfl, hb1⟩)))
    go_ret
    exact ⟨rfl, onB hb0 hb1⟩
  | false =>
    have hGH := Lib.hid hG
    have hs := far_one_size hG
    clear hG
    cases hsp : spl s.data.toList with
    | none =>
      have hN1 := Lib.hid (fun W hE' => split_no s W (by omega) hE' hsp)
      have hN2 := Lib.hid (fun W => rsplit_no s W (by omega) hsp)
      have hSm : Hid (∀ W, Calls Tryd.prog 11 #[.slice none 0 0, .slice none 0 0] W fun e w' => e = .returned (.bool true) ∧ ∃ n, w' = W.drewN n) :=
        Lib.hid fun W => same_any none none 0 0 [] W (by decide) (RR.none_ _ _) (RR.none_ _ _)
      clear hsp
      go_enter Tryd.func3, Tryd.ntmps3
      go_wp2_with (first
        | (go_at_call 7; ((with_reducible refine (far_one s _ false hGH).mono ?_); rintro e w' ⟨rfl, rfl⟩))
        | (go_at_call 9; ((with_reducible refine (hN1.out _ hE0.out).mono ?_); rintro e w1 ⟨rfl, hb1⟩; have hW1 := onB hb0 hb1))
        | (go_at_call 10; ((with_reducible refine (hN2.out _).mono ?_); rintro e w2 ⟨rfl, hb2⟩; have hW2 := onB hW1 hb2))
        | (go_at_call 11; ((with_reducible refine (hSm.out _).mono ?_); rintro e w3 ⟨rfl, n, rfl⟩; have hW3 := below_drewN hW2 n))
        | (go_at_call 8; ((with_reducible refine (alive_any _ (Lib.hid (hEH.out.on hW3))).mono ?_); rintro e w4 ⟨rfl, hb4⟩)))
      go_ret
      exact ⟨rfl, onB hW3 hb4⟩
    | some l =>
      have hlen := spl_len hsp
      have hsl : s.data.toList.length = s.size := by simp
      have hY1 := Lib.hid (fun W hE' => split_yes s (mkT l) W (by omega) hE' (by rw [hsp, txt_mk]))
      have hY2 := Lib.hid (fun W => rsplit_yes s (mkT l) W (by omega) (by rw [hsp, txt_mk]))
      have hlt2 : total (mkT l) + (mkT l).length ≤ 4000 := by
        rw [← total_tot, txt_mk]; omega
      generalize mkT l = sl at hY1 hY2 hlt2
      have hsll : sl.length ≤ 140737488355328 := by omega
      clear hsp hlen hsl hlt2
      go_enter Tryd.func3, Tryd.ntmps3
      go_wp2_with (first
        | (go_at_call 7; ((with_reducible refine (far_one s _ false hGH).mono ?_); rintro e w' ⟨rfl, rfl⟩))
        | (go_at_call 9; ((with_reducible refine (hY1.out _ hE0.out).mono ?_); rintro e w1 ⟨A1, cap1, rfl, hR1, hb1⟩; have hW1 := onB hb0 hb1))
        | (go_at_call 10; ((with_reducible refine (hY2.out _).mono ?_); rintro e w2 ⟨A2, cap2, rfl, hR2, hb2⟩; have hW2 := onB hW1 hb2; have hR12 := hR1.on hb2))
        | (go_at_call 11; ((with_reducible refine (same_any A1 A2 cap1 cap2 sl _ hsll hR12.rr hR2.rr).mono ?_); rintro e w3 ⟨rfl, n, rfl⟩; have hW3 := below_drewN hW2 n))
        | (go_at_call 8; ((with_reducible refine (alive_any _ (Lib.hid (hEH.out.on hW3))).mono ?_); rintro e w4 ⟨rfl, hb4⟩)))
      go_ret
      exact ⟨rfl, onB hW3 hb4⟩
end Go.Proofs.YtkghdnifgoeljaaDoor
