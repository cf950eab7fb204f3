/-
  Drop. Premises: a book as it lies, of at most a million keys; keys of at most so many bytes as the model's texts have; a count from 1 to 255.
-/
import Derived.Test.YtpbmgaipeofpaaaNH
namespace Go.Proofs.Ytpbmgaipeofpaaa
open Go.RowKit
variable {q : Option Value} {w w' : World} {p n : Nat} {c : Cd} {O : List Nat} {T : List ByteArray} {F : Int → List ByteArray}

theorem Bk.cardAt (h : Bk q w p c F T n O) {key : ByteArray} (hk : key.size ≤ maxLen) : ∃ cm, w.cell? ⟨p, 0, none⟩ = some (.map cm) ∧ (Instr.lookup 49 (.map cm) (.string key) false).run Try.prog w = .ok (ptrV ((c key).map Prod.fst)) w := by
  obtain ⟨cm, rm, rv, room, r, R, OC, OR, h1, h2, rfl⟩ := h
  exact ⟨cm, h1.cell 0, h1.cards.look key hk false⟩
/-- A card goes, and room with it. -/
theorem Bk.del (h : Bk q w p c F T n O) {key : ByteArray} (hk : key.size ≤ maxLen) (hc : c key ≠ none) : ∃ m w2, w.cell? ⟨p, 0, none⟩ = some (.map (some m)) ∧ (Builtin.delete_ #[49, 9] 0 #[.map (some m), .string key]).run Try.prog w = .ok (.tuple #[]) w2 ∧
    Calls Try.prog 29 #[ptr p] w2 fun e w' => e = .returned (.tuple #[]) ∧ ∃ O', Bk q w' p (upC c key none) F T (n - 1) O' ∧ Move O w w' O' := by
  obtain ⟨cm, rm, rv, room, r, R, OC, OR, h1, h2, rfl⟩ := h
  cases cm with
  | none =>
    have := h1.cards.map.2 key
    cases hck : c key with
    | none => exact absurd hck hc
    | some q =>
      have e : (c key).map Prod.fst = none := this
      rw [hck] at e
      cases e
  | some m =>
    obtain ⟨w2, hr, k1, k2⟩ := h1.goneC hk hc 0
    refine ⟨m, w2, h1.cell 0, hr, k1.giveUp.mono ?_⟩
    rintro e w' ⟨rfl, cm', room', OC', k3, k4⟩
    exact ⟨rfl, _, ⟨cm', rm, rv, room', r, R, OC', OR, k3, h2, rfl⟩, k2.trans k4⟩
set_option maxHeartbeats 4000000 in
theorem Bk.drop {key : ByteArray} {b : Nat} {x : Int} (h : Bk none w p c F T n O) (hk : key.size ≤ maxLen) (hc : c key = some (b, x)) (hx : 1 ≤ x ∧ x ≤ 255) :
    Calls Try.prog 12 #[ptr p, .string key] w fun e w' => e = .returned (.bool true) ∧ ∃ O', Bk none w' p (upC c key none) (upF' F x (goK (F x) key)) (goK T key) (n - 1) O' ∧ Move O w w' O' := by
  have hC := Lib.hid (h.count key hk)
  have hcn : cntC c key = x := by unfold cntC; rw [hc]
  rw [hcn] at hC
  have hz : (x == 0) = false := beq_false_of_ne (by omega)
  obtain ⟨cm, c0, hlk⟩ := h.cardAt hk
  rw [hc] at hlk
  replace hlk : (Instr.lookup 49 (.map cm) (.string key) false).run Try.prog w = .ok (ptr b) w := hlk
  have hLv := Lib.hid (h.leave hc ⟨by omega, hx.2⟩ hk)
  have hkH := Lib.hid hk
  have hcH := Lib.hid hc
  clear h hk hc hcn hx
  go_enter Try.func12, Try.ntmps12
  go_wp2_with (first
    | (go_at_call 17; (with_reducible refine (hC.out).mono ?_); rintro e w1 ⟨rfl, rfl⟩)
    | (go_at_call 25; (with_reducible refine (hLv.out).mono ?_); rintro e w1 ⟨rfl, O1, h1, m1⟩; have hD := Lib.hid (h1.dropped hkH.out); have m1H := Lib.hid m1; clear h1 m1 c0 hlk)
    | (go_at_call 28; (with_reducible refine (hD.out).mono ?_); rintro e w2 ⟨v2, O2, rfl, h2, m2⟩; obtain ⟨mm, w3, c02, hdel, hG⟩ := h2.del hkH.out (by rw [hcH.out]; simp); have hGH := Lib.hid hG; have m2H := Lib.hid (m1H.out.trans m2); clear h2 m2 hG)
    | (go_at_call 29; (with_reducible refine (hGH.out).mono ?_); rintro e w4 ⟨rfl, O4, h4, m4⟩; have h4H := Lib.hid h4; have m4H := Lib.hid (m2H.out.trans m4); clear h4 m4))
  go_ret
  exact ⟨rfl, O4, h4H.out, m4H.out⟩
end Go.Proofs.Ytpbmgaipeofpaaa
