/-
  The library's copy of a row; the walk of All. Premises: a row of one's own; a timer as it lies.
-/
import Derived.Test.YtbaghdfalhlhcaaL
import Derived.Lib.SliceRun
namespace Go.Proofs.Ytbaghdfalhlhcaa
open Go.RowKit

set_option maxHeartbeats 2000000 in
theorem clone_any {w : World} {B : Nat} {v : Value} {h : List Sc} (hR : RowS w B v h) (hfew : h.length ≤ 1000000) :
    Calls Try.prog 27 #[v] w fun e w' => ∃ v', e = .returned v' ∧ FreshS w v' h w' := by
  have qE : ∀ (w : World) (a : Option Addr) (n c n' c' : Nat), (binOp .eql 27 (.slice a n c) (.slice none n' c')).run Try.prog w = .ok (.bool a.isNone) w := fun w a n c n' c' => Lib.run_eql_slice_nil w _ _ a n c n' c' Try.underlying27
  have hRH := Lib.hid hR
  have hfH := Lib.hid hfew
  rcases hR.form with ⟨rfl, rfl⟩ | ⟨g, cap, rfl, _, _, _, _⟩
  · clear hR hfew
    go_enter Try.func27, Try.ntmps27
    go_wp2
    go_ret
    exact ⟨_, rfl, rowS_nil _ _, Only.refl _ _⟩
  · obtain ⟨n, hnn⟩ : ∃ n, n = h.length := ⟨_, rfl⟩
    rw [← hnn] at hRH ⊢
    clear hR hfew hnn
    go_enter Try.func27, Try.ntmps27
    go_wp2_with (first
      | (at_builtin; refine wpList_append_s (o := ⟨some 7, _, _, _, _, _⟩) (by rfl) (.tmp 5) (.tmp 6) (by rfl) w.heap.size (.slice (some ⟨w.heap.size, 0, none⟩) 0 0) (.slice (some ⟨g, 0, none⟩) n cap) [] h (by rfl) (by rfl) (rowS_mk (L := []) (C := #[]) (heap_alloc_new w _) rfl (by simp) (fun j x hj => by simp at hj) (Nat.le_refl _)) (hRH.out.src.none ((Only.refl [] w).alloc _)) (by have := hfH.out; simp; omega) (by simp) ?_; intro v3 w3 hR3 hO3 hv3; have hO13 := Lib.hid (own_newS hO3 ((Only.refl [] w).alloc _) (fun k hk => by cases hk; exact Nat.le_refl _)); have hR4 := Lib.hid (show RowS w3 w.heap.size v3 h from hR3); clear hR3 hO3 hv3))
    all_goals go_ret
    exact ⟨_, rfl, hR4.out, hO13.out⟩
theorem all_nil (w : World) : Calls Try.prog 22 #[.pointer none] w fun e w' => e = .returned (.slice none 0 0) ∧ w = w' := by
  go_enter Try.func22, Try.ntmps22
  go_wp2
  all_goals go_ret
  all_goals exact ⟨rfl, rfl⟩
set_option maxHeartbeats 2000000 in
/-- All. -/
theorem all_any {w : World} {p : Nat} {O : List Nat} {h r : List Sc} (hT : Tm w p O h) (hr : HR h r) :
    Calls Try.prog 22 #[.pointer (some ⟨p, 0, none⟩)] w fun e w' => ∃ v', e = .returned v' ∧ FreshS w v' r w' := by
  obtain ⟨hv, mv, h1, h2, _, _⟩ := hT.heads
  have c0 : w.cell? ⟨p, 0, none⟩ = some hv := Lib.cell_of_heap h1 0
  have hcl := Lib.hid (clone_any h2 hT.few)
  have hso := Lib.hid (fun (w2 : World) (v : Value) (hR : RowS w2 w.heap.size v h) => sort_any hR hr hT.few)
  obtain ⟨A, c, hve⟩ := h2.len
  generalize h.length = n at hve
  subst hve
  clear h1 h2
  go_enter Try.func22, Try.ntmps22
  go_wp2_with (first
    | (go_at_call 27; ((with_reducible refine (hcl.out).mono ?_); rintro e w2 ⟨v2, rfl, h2⟩; have hs2 := Lib.hid (hso.out w2 v2 h2.1); have h2H := Lib.hid h2; clear h2))
    | (go_at_call 28; ((with_reducible refine (hs2.out).mono ?_); rintro e w3 ⟨rfl, h3, ho3⟩; have h3H := Lib.hid h3; have ho3H := Lib.hid ho3; clear h3 ho3)))
  all_goals go_ret
  exact ⟨_, rfl, h3H.out, own_newS ho3H.out h2H.out.2 (fun k hk => (h2H.out.1.lt k hk).1)⟩
end Go.Proofs.Ytbaghdfalhlhcaa
