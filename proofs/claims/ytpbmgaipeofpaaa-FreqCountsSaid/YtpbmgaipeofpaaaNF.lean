/-
  A key's card, a count's row: what the program finds, or makes. Premises: a book as it lies, of fewer than a million keys; keys of at most so many bytes as the model's texts have; counts from 0 to 255.
-/
import Derived.Test.YtpbmgaipeofpaaaNE
namespace Go.Proofs.Ytpbmgaipeofpaaa
open Go.RowKit
variable {q : Option Value} {w w' : World} {p room n : Nat} {cm rm : Option Nat} {rv : Value} {c : Cd} {r : Rw} {R OC OR O : List Nat} {T : List ByteArray} {F : Int → List ByteArray}

theorem cm_some_nil (m : Nat) (w : World) : Sem.run Try.prog (binOp .eql 49 (.map (some m)) (.map none)) w = .ok (.bool false) w := by rfl
theorem cm_none_nil (w : World) : Sem.run Try.prog (binOp .eql 49 (.map none) (.map none)) w = .ok (.bool true) w := by rfl
theorem rm_some_nil (m : Nat) (w : World) : Sem.run Try.prog (binOp .eql 50 (.map (some m)) (.map none)) w = .ok (.bool false) w := by rfl
theorem rm_none_nil (w : World) : Sem.run Try.prog (binOp .eql 50 (.map none) (.map none)) w = .ok (.bool true) w := by rfl
theorem cm_make (w : World) : (Instr.makeMap 49 none).run Try.prog w = .ok (.map (some w.heap.size)) (w.alloc (.map #[] 0)) := by
  simp [Instr.makeMap, Result.andThen, go_sem]
theorem cm_make_n (w : World) (n : Int) : (Instr.makeMap 49 (some (.int .i64 n))).run Try.prog w = .ok (.map (some w.heap.size)) (w.alloc (.map #[] 0)) := by
  simp [Instr.makeMap, run_underlying Try.underlying49, asInt, Result.andThen, go_sem]
theorem rm_make (w : World) : (Instr.makeMap 50 none).run Try.prog w = .ok (.map (some w.heap.size)) (w.alloc (.map #[] 0)) := by
  simp [Instr.makeMap, Result.andThen, go_sem]
theorem card_old {w : World} {p b : Nat} {cm : Option Nat} {key : ByteArray} (c0 : w.cell? ⟨p, 0, none⟩ = some (.map cm)) (hk : (Instr.lookup 49 (.map cm) (.string key) true).run Try.prog w = .ok (.tuple #[ptr b, .bool true]) w) :
    Calls Try.prog 24 #[ptr p, .string key] w fun e w' => e = .returned (ptr b) ∧ w = w' := by
  go_enter Try.func24, Try.ntmps24
  go_wp2
  all_goals go_ret
  all_goals exact ⟨rfl, rfl⟩
/-- What a new card leaves. -/
def NewCard (q : Option Value) (w w' : World) (p : Nat) (key : ByteArray) (n : Nat) (c : Cd) (rm : Option Nat) (rv : Value) (r : Rw) (R : List Nat) (T : List ByteArray) (OC OR : List Nat) (b : Nat) : Prop :=
  ∃ cm' room' OC', Bok q w' p cm' rm rv room' (n + 1) (upC c key (some (b, 0))) r R T OC' OR ∧ Move (ownB p OC OR R) w w' (ownB p OC' OR R)
def mkC (w : World) (p : Nat) : Option Nat → World
  | some _ => w
  | none => (w.alloc (.map #[] 0)).setCell ⟨p, 0, none⟩ (.map (some w.heap.size))
set_option maxHeartbeats 4000000 in
theorem card_new (h : Bok q w p cm rm rv room n c r R T OC OR) (hn : n < 1000000) {key : ByteArray} (hk : key.size ≤ maxLen) (hc : c key = none) :
    Calls Try.prog 24 #[ptr p, .string key] w fun e w' => ∃ b, e = .returned (ptr b) ∧ NewCard q w w' p key n c rm rv r R T OC OR b := by
  have c0 : w.cell? ⟨p, 0, none⟩ = some (.map cm) := h.cell 0
  have hlk : (Instr.lookup 49 (.map cm) (.string key) true).run Try.prog w = .ok (.tuple #[.pointer none, .bool false]) w := by
    have := h.cards.look key hk true
    rw [hc] at this
    exact this
  obtain ⟨W0, m, OC0, hW0, hB0, hM0⟩ : ∃ W0 m OC0, W0 = mkC w p cm ∧ Bok q W0 p (some m) rm rv room n c r R T OC0 OR ∧ Move (ownB p OC OR R) w W0 (ownB p OC0 OR R) := by
    cases cm with
    | some m => exact ⟨w, m, OC, rfl, h, Move.refl _ _⟩
    | none => exact ⟨_, _, _, rfl, h.makeC.1, h.makeC.2⟩
  obtain ⟨w2, hput, hB2, hM2⟩ := hB0.layC hn hk hc
  obtain ⟨W1, hW1⟩ : ∃ W1, W1 = W0.alloc (cardO key 0) := ⟨_, rfl⟩
  rw [← hW1] at hput
  have hcell1 : W1.cell? ⟨p, 0, none⟩ = some (.map (some m)) := by rw [hW1]; exact cell_past (hB0.cell 0) _
  have c32 : w2.cell? ⟨p, 3, none⟩ = some (.int .i64 (room : Int)) := hB2.cell 3
  have c02 : w2.cell? ⟨p, 0, none⟩ = some (.map (some m)) := hB2.cell 0
  have z32 : w2.frozen? ⟨p, 3, none⟩ = false := block_frozen hB2.ring.1
  have hlen : ∀ ty, (Builtin.len_ #[49] ty #[.map (some m)]).run Try.prog w2 = .ok (.int .i64 ((n + 1 : Nat) : Int)) w2 := fun ty => hB2.cards.map.len tC ty
  have hlen' : ∀ ty, (Builtin.len_ #[49] ty #[.map (some m)]).run Try.prog w2.drew = .ok (.int .i64 ((n + 1 : Nat) : Int)) w2.drew := fun ty => (hB2.cards.map.keep (drew_only w2) (by simp)).len tC ty
  obtain ⟨n1, hn1⟩ : ∃ n1 : Nat, n1 = n + 1 := ⟨_, rfl⟩
  rw [← hn1] at hlen hlen'
  have hr2 : ∃ r2 : Nat, (if room < n1 then (n1 : Int) else (room : Int)) = (r2 : Int) ∧ r2 ≤ 1000000 := by
    have h3 := h.rfew
    by_cases hc : room < n1
    · exact ⟨n1, if_pos hc, by omega⟩
    · exact ⟨room, if_neg hc, h3⟩
  obtain ⟨r2, hr2, hr2b⟩ := hr2
  have hr2H := Lib.hid hr2
  have hfin := Lib.hid (hB2.setRoom hr2b)
  have hM2H := Lib.hid hM2
  have hM0H := Lib.hid hM0
  have hW1H := Lib.hid hW1
  have hW0H := Lib.hid hW0
  have hn1H := Lib.hid hn1
  have d0 := Lib.hid h.ring.1
  clear h hn hk hc hB0 hM0 hM2 hB2 hr2 hr2b hW1 hW0 hn1
  cases cm with
  | some m0 =>
    replace hW0H : Hid (W0 = w) := hW0H
    obtain rfl := hW0H.out
    clear hW0H
    have hnl := cm_some_nil m0 W0
    go_enter Try.func24, Try.ntmps24
    go_upto_region 7 with (fail)
    have hW1e := hW1H.out
    unfold cardO at hW1e
    rw [← hW1e]
    obtain ⟨b, hb⟩ : ∃ b, b = W0.heap.size := ⟨_, rfl⟩
    have hbH := Lib.hid hb
    rw [← hb] at hput hfin hM2H ⊢
    clear hW1e hW1H c0 hlk hb
    go_upto_region 8 with (fail)
    clear hput hcell1
    go_region
    all_goals go_upto_region 9 with (fail)
    rw [hr2H.out]
    go_wp2_with fail
    go_ret
    exact ⟨b, rfl, some m, r2, _, hfin.out.1, (hM0H.out.trans hM2H.out).trans hfin.out.2⟩
  | none =>
    replace hW0H : Hid (W0 = (w.alloc (.map #[] 0)).setCell ⟨p, 0, none⟩ (.map (some w.heap.size))) := hW0H
    have z0 : (w.alloc (.map #[] 0)).frozen? ⟨p, 0, none⟩ = false := block_frozen (((Only.refl [] w).alloc _).keep d0.out (by simp))
    have c0' := cell_past c0 (.map #[] 0)
    have hnl := cm_none_nil w
    have hmk := cm_make w
    go_enter Try.func24, Try.ntmps24
    go_upto_region 6 with (fail)
    rw [← hW0H.out]
    clear c0 c0' z0 hlk
    go_upto_region 7 with (fail)
    have hW1e := hW1H.out
    unfold cardO at hW1e
    rw [← hW1e]
    obtain ⟨b, hb⟩ : ∃ b, b = W0.heap.size := ⟨_, rfl⟩
    have hbH := Lib.hid hb
    rw [← hb] at hput hfin hM2H ⊢
    clear hW1e hW1H hb
    go_upto_region 8 with (fail)
    clear hput hcell1
    go_region
    all_goals go_upto_region 9 with (fail)
    rw [hr2H.out]
    go_wp2_with fail
    go_ret
    exact ⟨b, rfl, some m, r2, _, hfin.out.1, (hM0H.out.trans hM2H.out).trans hfin.out.2⟩
theorem Bk.cardOf (h : Bk q w p c F T n O) (hn : n < 1000000) {key : ByteArray} (hk : key.size ≤ maxLen) :
    Calls Try.prog 24 #[ptr p, .string key] w fun e w' => ∃ b c' n' O', e = .returned (ptr b) ∧ Bk q w' p c' F T n' O' ∧ Move O w w' O' ∧ c' key = some (b, cntC c key) ∧ (∀ k, k ≠ key → c' k = c k) ∧ n' = (if (c key).isSome then n else n + 1) := by
  obtain ⟨cm, rm, rv, room, r, R, OC, OR, h1, h2, rfl⟩ := h
  cases hc : c key with
  | some q =>
    obtain ⟨b, x⟩ := q
    have hlk := h1.cards.look key hk true
    rw [hc] at hlk
    refine (card_old (b := b) (h1.cell 0) hlk).mono ?_
    rintro e w' ⟨rfl, rfl⟩
    exact ⟨b, c, n, _, rfl, ⟨cm, rm, rv, room, r, R, OC, OR, h1, h2, rfl⟩, Move.refl _ _, by unfold cntC; rw [hc], fun _ _ => rfl, rfl⟩
  | none =>
    refine (card_new h1 hn hk hc).mono ?_
    rintro e w' ⟨b, rfl, cm', room', OC', k1, k2⟩
    exact ⟨b, _, _, _, rfl, ⟨cm', rm, rv, room', r, R, OC', OR, k1, h2, rfl⟩, k2, by rw [upC_at]; unfold cntC; rw [hc], fun k hk => upC_other _ _ hk, rfl⟩
theorem row_old {w : World} {p b : Nat} {rm : Option Nat} {m : Int} (c1 : w.cell? ⟨p, 1, none⟩ = some (.map rm)) (hk : (Instr.lookup 50 (.map rm) (.int .i64 m) true).run Try.prog w = .ok (.tuple #[ptr b, .bool true]) w) :
    Calls Try.prog 26 #[ptr p, .int .i64 m] w fun e w' => e = .returned (ptr b) ∧ w = w' := by
  go_enter Try.func26, Try.ntmps26
  go_wp2
  all_goals go_ret
  all_goals exact ⟨rfl, rfl⟩
def mkR (w : World) (p : Nat) : Option Nat → World
  | some _ => w
  | none => (w.alloc (.map #[] 0)).setCell ⟨p, 1, none⟩ (.map (some w.heap.size))
set_option maxHeartbeats 4000000 in
theorem row_new {m : Int} (h : Bok q w p cm rm rv room n c r R T OC OR) (hm : 0 ≤ m ∧ m ≤ 255) (hr : r m = none) :
    Calls Try.prog 26 #[ptr p, .int .i64 m] w fun e w' => ∃ b, e = .returned (ptr b) ∧ ∃ rm' OR', Bok q w' p cm rm' rv room n c (upR r m (some (b, [], []))) R T OC OR' ∧ Move (ownB p OC OR R) w w' (ownB p OC OR' R) := by
  have c1 : w.cell? ⟨p, 1, none⟩ = some (.map rm) := h.cell 1
  have hlk : (Instr.lookup 50 (.map rm) (.int .i64 m) true).run Try.prog w = .ok (.tuple #[.pointer none, .bool false]) w := by
    have := h.rows.look m ⟨hm.1, by omega⟩ true
    rw [hr] at this
    exact this
  obtain ⟨W0, mb, OR0, hW0, hB0, hM0⟩ : ∃ W0 mb OR0, W0 = mkR w p rm ∧ Bok q W0 p cm (some mb) rv room n c r R T OC OR0 ∧ Move (ownB p OC OR R) w W0 (ownB p OC OR0 R) := by
    cases rm with
    | some m => exact ⟨w, m, OR, rfl, h, Move.refl _ _⟩
    | none => exact ⟨_, _, _, rfl, h.makeR.1, h.makeR.2⟩
  obtain ⟨w2, hput, hB2, hM2⟩ := hB0.layR hm hr
  obtain ⟨W1, hW1⟩ : ∃ W1, W1 = W0.alloc (.cells #[.pointer none] 53 (0, 0)) := ⟨_, rfl⟩
  rw [← hW1] at hput
  have hcell1 : W1.cell? ⟨p, 1, none⟩ = some (.map (some mb)) := by rw [hW1]; exact cell_past (hB0.cell 1) _
  have hN := Lib.hid (new_any W0)
  rw [← hW1] at hN
  have hfin := Lib.hid hB2
  have hMH := Lib.hid (hM0.trans hM2)
  have hW0H := Lib.hid hW0
  have d0 := Lib.hid h.ring.1
  clear h hm hr hB0 hM0 hM2 hB2 hW1 hW0
  cases rm with
  | some m0 =>
    replace hW0H : Hid (W0 = w) := hW0H
    obtain rfl := hW0H.out
    clear hW0H
    have hnl := rm_some_nil m0 W0
    go_enter Try.func26, Try.ntmps26
    go_wp2_with (go_at_call 34; (with_reducible refine (hN.out).mono ?_); rintro e w1 ⟨rfl, rfl⟩)
    go_ret
    exact ⟨_, rfl, _, _, hfin.out, hMH.out⟩
  | none =>
    replace hW0H : Hid (W0 = (w.alloc (.map #[] 0)).setCell ⟨p, 1, none⟩ (.map (some w.heap.size))) := hW0H
    have z0 : (w.alloc (.map #[] 0)).frozen? ⟨p, 1, none⟩ = false := block_frozen (((Only.refl [] w).alloc _).keep d0.out (by simp))
    have c0' := cell_past c1 (.map #[] 0)
    have hnl := rm_none_nil w
    have hmk := rm_make w
    go_enter Try.func26, Try.ntmps26
    go_upto_region 6 with (fail)
    rw [← hW0H.out]
    clear c1 c0' z0 hlk
    go_wp2_with (go_at_call 34; (with_reducible refine (hN.out).mono ?_); rintro e w1 ⟨rfl, rfl⟩)
    go_ret
    exact ⟨_, rfl, _, _, hfin.out, hMH.out⟩
/-- A book of which one row is at hand. -/
def BkR (q : Option Value) (w : World) (p : Nat) (c : Cd) (F : Int → List ByteArray) (T : List ByteArray) (n : Nat) (O : List Nat) (m : Int) (b : Nat) : Prop :=
  ∃ cm rm rv room r R OC OR, Bok q w p cm rm rv room n c r R T OC OR ∧ (∀ m, keysR r m = F m) ∧ O = ownB p OC OR R ∧ ∃ R1, r m = some (b, R1, F m)
theorem Bk.rowOf {m : Int} (h : Bk q w p c F T n O) (hm : 0 ≤ m ∧ m ≤ 255) :
    Calls Try.prog 26 #[ptr p, .int .i64 m] w fun e w' => ∃ b O', e = .returned (ptr b) ∧ BkR q w' p c F T n O' m b ∧ Move O w w' O' := by
  obtain ⟨cm, rm, rv, room, r, R, OC, OR, h1, h2, rfl⟩ := h
  cases hr : r m with
  | some q =>
    obtain ⟨b, R1, K⟩ := q
    have hlk := h1.rows.look m ⟨hm.1, by omega⟩ true
    rw [hr] at hlk
    refine (row_old (b := b) (h1.cell 1) hlk).mono ?_
    rintro e w' ⟨rfl, rfl⟩
    exact ⟨b, _, rfl, ⟨cm, rm, rv, room, r, R, OC, OR, h1, h2, rfl, R1, by rw [← h2, keysR_at hr, hr]⟩, Move.refl _ _⟩
  | none =>
    refine (row_new h1 hm hr).mono ?_
    rintro e w' ⟨b, rfl, rm', OR', k1, k2⟩
    have hF : F m = [] := by rw [← h2, keysR_none hr]
    refine ⟨b, _, rfl, ⟨cm, rm', rv, room, _, R, OC, OR', k1, fun x => ?_, rfl, [], by rw [upR_at, hF]⟩, k2⟩
    rw [keysR_up, ← h2]
    unfold upF'
    split
    · next e => rw [e, keysR_none hr]
    · rfl
theorem BkR.touch {m : Int} {b : Nat} (h : BkR q w p c F T n O m b) (hl : (F m).length < 1000000) {key : ByteArray} (hk : key.size ≤ maxLen) :
    Calls Try.prog 27 #[ptr b, .string key] w fun e w' => ∃ v O', e = .returned (.bool v) ∧ Bk q w' p c (upF' F m (tipK (F m) key)) T n O' ∧ Move O w w' O' := by
  obtain ⟨cm, rm, rv, room, r, R, OC, OR, h1, h2, rfl, R1, hr⟩ := h
  obtain ⟨u, hu⟩ := h1.rows.row m b R1 _ hr
  refine (ord_touch hu hl key hk).mono ?_
  rintro e w' ⟨rfl, ht⟩
  obtain ⟨R2, k1, k2⟩ := h1.rowTo hr ht
  refine ⟨_, _, rfl, ⟨cm, rm, rv, room, _, R, OC, _, k1, fun x => ?_, rfl⟩, k2⟩
  rw [keysR_up]
  unfold upF'
  rw [h2]
theorem BkR.bk {m : Int} {b : Nat} (h : BkR q w p c F T n O m b) : Bk q w p c F T n O := by
  obtain ⟨cm, rm, rv, room, r, R, OC, OR, h1, h2, h3, _⟩ := h
  exact ⟨cm, rm, rv, room, r, R, OC, OR, h1, h2, h3⟩
theorem BkR.same {m : Int} {b : Nat} (h : BkR q w p c F T n O m b) (ho : Only [] w w') : BkR q w' p c F T n O m b := by
  obtain ⟨cm, rm, rv, room, r, R, OC, OR, h1, h2, h3, h4⟩ := h
  exact ⟨cm, rm, rv, room, r, R, OC, OR, h1.keep ho (by simp), h2, h3, h4⟩
theorem Bk.touched (h : Bk none w p c F T n O) (hl : T.length < 1000000) {key : ByteArray} (hk : key.size ≤ maxLen) :
    Calls Try.prog 27 #[hdp p 2, .string key] w fun e w' => ∃ v O', e = .returned (.bool v) ∧ Bk none w' p c F (tipK T key) n O' ∧ Move O w w' O' := by
  obtain ⟨cm, rm, rv, room, r, R, OC, OR, h1, h2, rfl⟩ := h
  refine (ord_touch h1.ring.2.2.2 hl key hk).mono ?_
  rintro e w' ⟨rfl, ht⟩
  obtain ⟨u, R', k1, k2⟩ := h1.ringTo ht
  exact ⟨_, _, rfl, ⟨cm, rm, u, room, r, R', OC, OR, k1, h2, rfl⟩, k2⟩
theorem Bk.dropped (h : Bk none w p c F T n O) {key : ByteArray} (hk : key.size ≤ maxLen) :
    Calls Try.prog 28 #[hdp p 2, .string key] w fun e w' => ∃ v O', e = .returned (.bool v) ∧ Bk none w' p c F (goK T key) n O' ∧ Move O w w' O' := by
  obtain ⟨cm, rm, rv, room, r, R, OC, OR, h1, h2, rfl⟩ := h
  refine (ord_drop h1.ring.2.2.2 key hk).mono ?_
  rintro e w' ⟨rfl, ht⟩
  obtain ⟨u, R', k1, k2⟩ := h1.ringTo ht
  exact ⟨_, _, rfl, ⟨cm, rm, u, room, r, R', OC, OR, k1, h2, rfl⟩, k2⟩
theorem Bk.setC {k : ByteArray} {b : Nat} {x : Int} (h : Bk q w p c F T n O) (hc : c k = some (b, x)) (y : Int) :
    Bk q (w.setCell ⟨b, 1, none⟩ (.int .i64 y)) p (upC c k (some (b, y))) F T n O ∧ Move O w (w.setCell ⟨b, 1, none⟩ (.int .i64 y)) O := by
  obtain ⟨cm, rm, rv, room, r, R, OC, OR, h1, h2, rfl⟩ := h
  exact ⟨⟨cm, rm, rv, room, r, R, OC, OR, (h1.setC hc y).1, h2, rfl⟩, (h1.setC hc y).2⟩
end Go.Proofs.Ytpbmgaipeofpaaa
