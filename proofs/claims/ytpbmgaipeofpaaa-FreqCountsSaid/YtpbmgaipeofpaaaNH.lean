/-
  A key leaves its count's row, and the row goes with its last key. Premises: a book as it lies, of at most a million keys; a key that has a card with a count from 0 to 255, of at most so many bytes as the model's texts have.
-/
import Derived.Test.YtpbmgaipeofpaaaNG
namespace Go.Proofs.Ytpbmgaipeofpaaa
open Go.RowKit
variable {q : Option Value} {w w' : World} {p room n : Nat} {cm rm : Option Nat} {rv : Value} {c : Cd} {r : Rw} {R OC OR O : List Nat} {T : List ByteArray} {F : Int → List ByteArray}

set_option maxHeartbeats 4000000 in
theorem leave_none {k : ByteArray} {b : Nat} {x : Int} (h : Bok q w p cm rm rv room n c r R T OC OR) (hc : c k = some (b, x)) (hx : 0 ≤ x ∧ x ≤ 255) (hr : r x = none) :
    Calls Try.prog 25 #[ptr p, ptr b] w fun e w' => e = .returned (.tuple #[]) ∧ Bok q w' p cm rm rv room n c (upR r x none) R T OC OR ∧ Move (ownB p OC OR R) w w' (ownB p OC OR R) := by
  have c1 : w.cell? ⟨p, 1, none⟩ = some (.map rm) := h.cell 1
  have hb := h.cards.card k b x hc
  have b0 : w.cell? ⟨b, 0, none⟩ = some (.string k) := Lib.cell_of_heap hb 0
  have b1 : w.cell? ⟨b, 1, none⟩ = some (.int .i64 x) := Lib.cell_of_heap hb 1
  have hd0 : Only [] w w.drew := drew_only w
  have hlk : (Instr.lookup 50 (.map rm) (.int .i64 x) false).run Try.prog w.drew = .ok (.pointer none) w.drew := by
    have := (h.keep hd0 (by simp)).rows.look x ⟨hx.1, by omega⟩ false
    rw [hr] at this
    exact this
  have hd1 : Only [] w w.drew.drew := hd0.trans (drew_only _) (by simp)
  obtain ⟨w2, hdel, hB2, hM2⟩ := (h.keep hd1 (by simp)).goneR hx 0
  have hfin2 := Lib.hid (show Bok q w2 p cm rm rv room n c (upR r x none) R T OC OR ∧ Move (ownB p OC OR R) w w2 (ownB p OC OR R) from ⟨hB2, (Move.none hd1).trans hM2⟩)
  clear h hc hx hr hB2 hM2 hb hd1 hd0
  go_enter Try.func25, Try.ntmps25
  go_wp2_with fail
  go_region
  all_goals go_wp2_with (first
    | (go_at_call 28; (with_reducible refine (drop_nil _ _).mono ?_); rintro e w' ⟨rfl, rfl⟩)
    | (go_at_call 33; (with_reducible refine (len_nil _).mono ?_); rintro e w' ⟨rfl, rfl⟩))
  all_goals go_region
  all_goals go_end0
  all_goals exact ⟨rfl, hfin2.out⟩
set_option maxHeartbeats 4000000 in
theorem leave_some {k : ByteArray} {b : Nat} {x : Int} {b1 : Nat} {R1 : List Nat} {K : List ByteArray} (h : Bok q w p cm rm rv room n c r R T OC OR) (hc : c k = some (b, x)) (hx : 0 ≤ x ∧ x ≤ 255) (hr : r x = some (b1, R1, K)) (hk : k.size ≤ maxLen) :
    Calls Try.prog 25 #[ptr p, ptr b] w fun e w' => e = .returned (.tuple #[]) ∧ ∃ r' OR', (∀ m, keysR r' m = upF' (keysR r) x (goK K k) m) ∧ Bok q w' p cm rm rv room n c r' R T OC OR' ∧ Move (ownB p OC OR R) w w' (ownB p OC OR' R) := by
  have c1 : w.cell? ⟨p, 1, none⟩ = some (.map rm) := h.cell 1
  have hb := h.cards.card k b x hc
  have b0 : w.cell? ⟨b, 0, none⟩ = some (.string k) := Lib.cell_of_heap hb 0
  have b1' : w.cell? ⟨b, 1, none⟩ = some (.int .i64 x) := Lib.cell_of_heap hb 1
  have hd0 : Only [] w w.drew := drew_only w
  have h0 := h.keep hd0 (by simp)
  have hlk : (Instr.lookup 50 (.map rm) (.int .i64 x) false).run Try.prog w.drew = .ok (ptr b1) w.drew := by
    have := h0.rows.look x ⟨hx.1, by omega⟩ false
    rw [hr] at this
    exact this
  obtain ⟨u, hu⟩ := h0.rows.row x b1 R1 K hr
  have hD := Lib.hid (ord_drop hu k hk)
  have hstep : Hid (∀ W, OrdTo w.drew W b1 0 #[u] 53 R1 (goK K k) → ∃ R2, Bok q W p cm rm rv room n c (upR r x (some (b1, R2, goK K k))) R T OC (OR ++ R2) ∧ Move (ownB p OC OR R) w W (ownB p OC (OR ++ R2) R)) := Lib.hid (fun W ht => by
    obtain ⟨R2, k1, k2⟩ := h0.rowTo hr ht
    exact ⟨R2, k1, (Move.none hd0).trans k2⟩)
  have hcH := Lib.hid hc
  have hxH := Lib.hid hx
  clear h hc hx hr hb h0 hd0 hu hk
  go_enter Try.func25, Try.ntmps25
  go_wp2_with fail
  go_region
  all_goals go_upto_region 2 with (go_at_call 28; (with_reducible refine (hD.out).mono ?_); rintro e w1 ⟨rfl, ht⟩)
  obtain ⟨R2, k1, k2⟩ := hstep.out w1 ht
  have hrow : ∃ u2, Ord w1 b1 0 #[u2] 53 R2 (goK K k) := k1.rows.row x b1 R2 _ (upR_at _ _ _)
  obtain ⟨u2, hu2⟩ := hrow
  have hL := Lib.hid (ord_len hu2)
  have d1 : w1.cell? ⟨p, 1, none⟩ = some (.map rm) := k1.cell 1
  have e1 : w1.cell? ⟨b, 1, none⟩ = some (.int .i64 x) := Lib.cell_of_heap (k1.cards.card k b x hcH.out) 1
  have k1H := Lib.hid k1
  have k2H := Lib.hid k2
  clear ht hu2 k1 k2 c1 b0 b1' hlk
  by_cases hz : goK K k = []
  · have hle : ((goK K k).length : Int) = 0 := by rw [hz]; rfl
    rw [hle] at hL
    have hzH := Lib.hid hz
    obtain ⟨w2, hdel, hB2, hM2⟩ := (k1H.out.keep (drew_only w1) (by simp)).goneR hxH.out 0
    have hB2H := Lib.hid hB2
    have hM2H := Lib.hid hM2
    clear hz hle hB2 hM2
    go_wp2_with (go_at_call 33; (with_reducible refine (hL.out).mono ?_); rintro e w' ⟨rfl, rfl⟩)
    go_region
    all_goals go_end0
    all_goals refine ⟨rfl, _, _, fun m => ?_, hB2H.out, k2H.out.trans ((Move.none (drew_only w1)).trans hM2H.out)⟩
    all_goals rw [keysR_gone, hzH.out]
    all_goals unfold upF'
    all_goals split
    all_goals first
      | rfl
      | (next hne => rw [keysR_up]; unfold upF'; rw [if_neg hne])
  · have hle : (((goK K k).length : Int) == 0) = false := beq_false_of_ne (by have := List.length_pos_iff.2 hz; omega)
    generalize (goK K k).length = q at *
    clear hz
    go_wp2_with (go_at_call 33; (with_reducible refine (hL.out).mono ?_); rintro e w' ⟨rfl, rfl⟩)
    go_end0
    exact ⟨rfl, _, _, fun m => keysR_up _ _ _ _ _ _, k1H.out, k2H.out⟩
/-- A key leaves its row. -/
theorem Bk.leave {k : ByteArray} {b : Nat} {x : Int} (h : Bk q w p c F T n O) (hc : c k = some (b, x)) (hx : 0 ≤ x ∧ x ≤ 255) (hk : k.size ≤ maxLen) :
    Calls Try.prog 25 #[ptr p, ptr b] w fun e w' => e = .returned (.tuple #[]) ∧ ∃ O', Bk q w' p c (upF' F x (goK (F x) k)) T n O' ∧ Move O w w' O' := by
  obtain ⟨cm, rm, rv, room, r, R, OC, OR, h1, h2, rfl⟩ := h
  cases hr : r x with
  | none =>
    refine (leave_none h1 hc hx hr).mono ?_
    rintro e w' ⟨rfl, k1, k2⟩
    refine ⟨rfl, _, ⟨cm, rm, rv, room, _, R, OC, OR, k1, fun m => ?_, rfl⟩, k2⟩
    rw [keysR_gone, ← h2, keysR_none hr]
    unfold upF'
    split
    · rfl
    · exact h2 m
  | some q =>
    obtain ⟨b1, R1, K⟩ := q
    refine (leave_some h1 hc hx hr hk).mono ?_
    rintro e w' ⟨rfl, r', OR', k0, k1, k2⟩
    refine ⟨rfl, _, ⟨cm, rm, rv, room, r', R, OC, OR', k1, fun m => ?_, rfl⟩, k2⟩
    rw [k0, ← h2, keysR_at hr]
    unfold upF'
    split
    · rfl
    · exact h2 m
theorem Bk.cell0 {k : ByteArray} {b : Nat} {x : Int} (h : Bk q w p c F T n O) (hc : c k = some (b, x)) : w.cell? ⟨b, 0, none⟩ = some (.string k) := Lib.cell_of_heap (h.card hc).1 0
theorem Bk.cell1 {k : ByteArray} {b : Nat} {x : Int} (h : Bk q w p c F T n O) (hc : c k = some (b, x)) : w.cell? ⟨b, 1, none⟩ = some (.int .i64 x) := Lib.cell_of_heap (h.card hc).1 1
theorem Bk.froz {k : ByteArray} {b : Nat} {x : Int} (h : Bk q w p c F T n O) (hc : c k = some (b, x)) (j : Nat) : w.frozen? ⟨b, j, none⟩ = false := block_frozen (h.card hc).1
end Go.Proofs.Ytpbmgaipeofpaaa
