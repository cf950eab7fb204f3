/-
  The walk of the law's own small look. A premise: the library's variable ErrSyntax holds an error, or none.
-/
import Derived.Test.YtkghdnifgoeljaaDoorWP
namespace Go.Proofs.YtkghdnifgoeljaaDoor
open Go.RowKit Ln

theorem txt_inj : ∀ {ss l : List ByteArray}, txt ss = txt l → ss = l
  | [], [], _ => rfl
  | [], _ :: _, h => by simp [txt] at h
  | _ :: _, [], h => by simp [txt] at h
  | a :: ss, b :: l, h => by
    simp only [txt, List.map_cons, List.cons.injEq] at h
    have hab : a = b := by
      apply ByteArray.ext
      exact Array.toList_inj.1 h.1
    rw [hab, txt_inj (ss := ss) (l := l) h.2]
theorem split_yes (s : ByteArray) (l : List ByteArray) (w : World) (hs : s.size ≤ 65536) (hE : ErrAt w) (h : spl s.data.toList = some (txt l)) :
    Calls Tryd.prog 9 #[.string s] w fun e w' => ∃ A cap, e = .returned (.tuple #[.slice A l.length cap, .bool true]) ∧ SB w' w'.heap.size A l ∧ Below w.heap.size w w' := by
  refine (split_any s w hs hE).mono fun e w' hh => ?_
  rw [h] at hh
  obtain ⟨ss, v, h1, rfl, h3⟩ := hh
  obtain rfl := txt_inj h1
  obtain ⟨A, cap, rfl, h4⟩ := h3.open
  exact ⟨A, cap, rfl, h4, h3.bel⟩
theorem split_no (s : ByteArray) (w : World) (hs : s.size ≤ 65536) (hE : ErrAt w) (h : spl s.data.toList = none) :
    Calls Tryd.prog 9 #[.string s] w fun e w' => e = .returned (.tuple #[.slice none 0 0, .bool false]) ∧ Below w.heap.size w w' := by
  refine (split_any s w hs hE).mono fun e w' hh => ?_
  rw [h] at hh
  exact hh
/-- A row of texts that is built. -/
theorem SB.new (w : World) (l : List ByteArray) : SB (w.alloc (.cells (strV l).toArray 9)) (w.heap.size + 1) (some ⟨w.heap.size, 0, none⟩) l := by
  intro i x hx
  exact ⟨_, rfl, Nat.lt_succ_self _, new_cells w (strV l) i (.string x) (by simp [strV, hx])⟩
theorem SB.on {w w' : World} {A : Option Addr} {ss : List ByteArray} (h : SB w w.heap.size A ss) (hb : Below w.heap.size w w') : SB w' w'.heap.size A ss := (h.below hb).mono hb.size

def k1 : List ByteArray := [⟨#[83, 69, 84]⟩, ⟨#[97, 98, 32, 99]⟩, ⟨#[]⟩]
def k2 : List ByteArray := [⟨#[97]⟩, ⟨#[98, 32, 99]⟩, ⟨#[]⟩]
theorem look1 : spl (⟨#[83, 69, 84, 32, 97, 34, 98, 32, 99, 34, 32, 39, 39, 32]⟩ : ByteArray).data.toList = some (txt k1) := by decide +kernel
theorem look2 : spl (⟨#[34, 97, 34, 98]⟩ : ByteArray).data.toList = none := by decide +kernel
theorem look3 : joinF (txt k2) = [97, 32, 34, 98, 32, 99, 34, 32, 34, 34] := by decide +kernel
set_option maxRecDepth 100000 in
set_option maxHeartbeats 2000000 in
theorem alive_any (w : World) (hE : Hid (ErrAt w)) : Calls Tryd.prog 8 #[] w fun e w' => e = .returned (.bool true) ∧ Below w.heap.size w w' := by
  have c1 : Hid (Calls Tryd.prog 9 #[.string ⟨#[83, 69, 84, 32, 97, 34, 98, 32, 99, 34, 32, 39, 39, 32]⟩] w fun e w' => ∃ A cap, e = .returned (.tuple #[.slice A 3 cap, .bool true]) ∧ SB w' w'.heap.size A k1 ∧ Below w.heap.size w w') :=
    Lib.hid (split_yes ⟨#[83, 69, 84, 32, 97, 34, 98, 32, 99, 34, 32, 39, 39, 32]⟩ k1 w (by decide) hE.out look1)
  have c2 := Lib.hid (fun W hE' => split_no ⟨#[34, 97, 34, 98]⟩ W (by decide) hE' look2)
  have c3 : Hid (∀ (A : Option Addr) (cap g : Nat) (W : World), RR W A k1 → RR W (some ⟨g, 0, none⟩) k1 → Calls Tryd.prog 11 #[.slice A 3 cap, .slice (some ⟨g, 0, none⟩) 3 3] W fun e w' => e = .returned (.bool true) ∧ ∃ n, w' = W.drewN n) :=
    Lib.hid fun A cap g W h1 h2 => same_any A (some ⟨g, 0, none⟩) cap 3 k1 W (by decide) h1 h2
  have c4 : Hid (∀ (g : Nat) (W : World), SB W W.heap.size (some ⟨g, 0, none⟩) k2 → Calls Tryd.prog 12 #[.slice (some ⟨g, 0, none⟩) 3 3] W fun e w' => e = .returned (.string ⟨#[97, 32, 34, 98, 32, 99, 34, 32, 34, 34]⟩) ∧ Below W.heap.size W w') :=
    Lib.hid fun g W h => by
      have := join_any (some ⟨g, 0, none⟩) 3 k2 W (by decide) (Lib.hid (by decide)) (by rw [look3]; decide) h
      rwa [look3] at this
  go_enter Tryd.func8, Tryd.ntmps8
  go_wp2_with (first
    | (go_at_call 9; ((with_reducible refine c1.out.mono ?_); rintro e w1 ⟨A, cap, rfl, hS, hb1⟩))
    | (go_at_call 9; ((with_reducible refine (c2.out w1 (hE.out.on hb1)).mono ?_); rintro e w2 ⟨rfl, hb2⟩)))
  have hW2 := hb1.trans (hb2.mono hb1.size)
  have hA1 : Below w2.heap.size w2 (w2.alloc (.cells #[.string ⟨#[83, 69, 84]⟩, .string ⟨#[97, 98, 32, 99]⟩, .string ⟨#[]⟩] 9)) := (Below.refl _ _).alloc (Nat.le_refl _) _
  have hR1 := ((hS.on hb2).on hA1).rr
  have hR2 : RR (w2.alloc (.cells #[.string ⟨#[83, 69, 84]⟩, .string ⟨#[97, 98, 32, 99]⟩, .string ⟨#[]⟩] 9)) (some ⟨w2.heap.size, 0, none⟩) k1 := (SB.new w2 k1).rr
  have hW3 := hW2.trans (hA1.mono hW2.size)
  have hg := hW3.size
  clear hS hA1 hb1 hb2 hW2
  generalize w2.alloc (.cells #[.string ⟨#[83, 69, 84]⟩, .string ⟨#[97, 98, 32, 99]⟩, .string ⟨#[]⟩] 9) = w3 at hR1 hR2 hW3 hg ⊢
  generalize w2.heap.size = g at hR2 ⊢
  go_wp2_with (go_at_call 11; ((with_reducible refine (c3.out A cap g w3 hR1 hR2).mono ?_); rintro e w4 ⟨rfl, n, rfl⟩))
  have hW4 := below_drewN hW3 n
  have hW5 := hW4.alloc hW4.size (.cells #[.string ⟨#[97]⟩, .string ⟨#[98, 32, 99]⟩, .string ⟨#[]⟩] 9)
  have hS2 : SB ((w3.drewN n).alloc (.cells #[.string ⟨#[97]⟩, .string ⟨#[98, 32, 99]⟩, .string ⟨#[]⟩] 9)) ((w3.drewN n).alloc (.cells #[.string ⟨#[97]⟩, .string ⟨#[98, 32, 99]⟩, .string ⟨#[]⟩] 9)).heap.size (some ⟨w3.heap.size, 0, none⟩) k2 :=
    (SB.new (w3.drewN n) k2).mono (by simp)
  clear hW4
  go_wp2_with (go_at_call 12; ((with_reducible refine (c4.out w3.heap.size _ hS2).mono ?_); rintro e w5 ⟨rfl, hb5⟩))
  go_ret
  exact ⟨rfl, hW5.trans (hb5.mono hW5.size)⟩
end Go.Proofs.YtkghdnifgoeljaaDoor
