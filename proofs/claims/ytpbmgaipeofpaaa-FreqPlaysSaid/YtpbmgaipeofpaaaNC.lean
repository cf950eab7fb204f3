/-
  What is asked of a book: Count, Len, Least, All; of one that is none, too. Premises: a book as it lies, of at most a million keys; keys of at most so many bytes as the model's texts have.
-/
import Derived.Test.YtpbmgaipeofpaaaNB
import Derived.Deep.CutBlock
import Derived.BigRegion
import Derived.BigQuiet
namespace Go.Proofs.Ytpbmgaipeofpaaa
open Go.RowKit
variable {q : Option Value} {w w' : World} {p room n : Nat} {cm rm : Option Nat} {rv : Value} {c : Cd} {r : Rw} {R OC OR O : List Nat} {T : List ByteArray} {F : Int → List ByteArray}

theorem count_nil (w : World) (key : ByteArray) : Calls Try.prog 17 #[.pointer none, .string key] w fun e w' => e = .returned (.int .i64 0) ∧ w = w' := by
  go_enter Try.func17, Try.ntmps17
  go_wp2
  all_goals go_ret
  all_goals exact ⟨rfl, rfl⟩
theorem blen_nil (w : World) : Calls Try.prog 16 #[.pointer none] w fun e w' => e = .returned (.int .i64 0) ∧ w = w' := by
  go_enter Try.func16, Try.ntmps16
  go_wp2
  all_goals go_ret
  all_goals exact ⟨rfl, rfl⟩
theorem least_nil (w : World) : Calls Try.prog 20 #[.pointer none] w fun e w' => e = .returned (.tuple #[.string ⟨#[]⟩, .bool false]) ∧ w = w' := by
  go_enter Try.func20, Try.ntmps20
  go_wp2
  all_goals go_ret2
  all_goals exact ⟨rfl, rfl⟩
theorem btouch_nil (w : World) (key : ByteArray) : Calls Try.prog 10 #[.pointer none, .string key] w fun e w' => e = .returned (.int .i64 0) ∧ w = w' := by
  go_enter Try.func10, Try.ntmps10
  go_wp2
  all_goals go_ret
  all_goals exact ⟨rfl, rfl⟩
theorem bdrop_zero {w : World} {rv : Value} (key : ByteArray) (hC : Calls Try.prog 17 #[rv, .string key] w fun e w' => e = .returned (.int .i64 0) ∧ w = w') : Calls Try.prog 12 #[rv, .string key] w fun e w' => e = .returned (.bool false) ∧ w = w' := by
  have hCH := Lib.hid hC
  clear hC
  go_enter Try.func12, Try.ntmps12
  go_wp2_with (go_at_call 17; (with_reducible refine (hCH.out).mono ?_); rintro e w1 ⟨rfl, rfl⟩)
  all_goals go_ret
  all_goals exact ⟨rfl, rfl⟩
theorem bdrop_nil (w : World) (key : ByteArray) : Calls Try.prog 12 #[.pointer none, .string key] w fun e w' => e = .returned (.bool false) ∧ w = w' := bdrop_zero key (count_nil w key)
/-- A key's count; 0: it has no card. -/
def cntC (c : Cd) (k : ByteArray) : Int := match c k with
  | some (_, x) => x
  | none => 0
theorem count_run {w : World} {p : Nat} {cm : Option Nat} {key : ByteArray} {o : Option Nat} {x : Int} (c0 : w.cell? ⟨p, 0, none⟩ = some (.map cm)) (hk : (Instr.lookup 49 (.map cm) (.string key) true).run Try.prog w = .ok (.tuple #[ptrV o, .bool o.isSome]) w)
    (hx : ∀ b, o = some b → w.cell? ⟨b, 1, none⟩ = some (.int .i64 x)) (h0 : o = none → x = 0) : Calls Try.prog 17 #[ptr p, .string key] w fun e w' => e = .returned (.int .i64 x) ∧ w = w' := by
  cases o with
  | none =>
    have e0 := h0 rfl
    subst e0
    replace hk : (Instr.lookup 49 (.map cm) (.string key) true).run Try.prog w = .ok (.tuple #[.pointer none, .bool false]) w := hk
    clear hx h0
    go_enter Try.func17, Try.ntmps17
    go_wp2
    all_goals go_ret
    all_goals exact ⟨rfl, rfl⟩
  | some b =>
    have c1 := hx b rfl
    replace hk : (Instr.lookup 49 (.map cm) (.string key) true).run Try.prog w = .ok (.tuple #[ptr b, .bool true]) w := hk
    clear hx h0
    go_enter Try.func17, Try.ntmps17
    go_wp2
    all_goals go_ret
    all_goals exact ⟨rfl, rfl⟩
theorem Cards.look (h : Cards w cm n c OC) (key : ByteArray) (hk : key.size ≤ maxLen) (b : Bool) :
    (Instr.lookup 49 (.map cm) (.string key) b).run Try.prog w = .ok (if b then .tuple #[ptrV ((c key).map Prod.fst), .bool ((c key).map Prod.fst).isSome] else ptrV ((c key).map Prod.fst)) w := h.map.look tC key hk b
theorem Bok.cell (h : Bok q w p cm rm rv room n c r R T OC OR) (j : Nat) : w.cell? ⟨p, j, none⟩ = (headA cm rm rv room)[j]? := Lib.cell_of_heap h.ring.1 j
theorem Bk.count (h : Bk q w p c F T n O) (key : ByteArray) (hk : key.size ≤ maxLen) :
    Calls Try.prog 17 #[ptr p, .string key] w fun e w' => e = .returned (.int .i64 (cntC c key)) ∧ w = w' := by
  obtain ⟨cm, rm, rv, room, r, R, OC, OR, h1, h2, rfl⟩ := h
  refine count_run (h1.cell 0) (h1.cards.look key hk true) (fun b hb => ?_) (fun h0 => ?_)
  · cases hc : c key with
    | none => rw [hc] at hb; cases hb
    | some q =>
      obtain ⟨b', x⟩ := q
      rw [hc] at hb
      cases hb
      have e : cntC c key = x := by unfold cntC; rw [hc]
      rw [e]
      exact Lib.cell_of_heap (h1.cards.card key _ x hc) 1
  · cases hc : c key with
    | none => unfold cntC; rw [hc]
    | some q => rw [hc] at h0; cases h0
theorem len_run' {w : World} {p n : Nat} {cm : Option Nat} (c0 : w.cell? ⟨p, 0, none⟩ = some (.map cm)) (hl : ∀ ty, (Builtin.len_ #[49] ty #[.map cm]).run Try.prog w = .ok (.int .i64 (n : Int)) w) :
    Calls Try.prog 16 #[ptr p] w fun e w' => e = .returned (.int .i64 (n : Int)) ∧ w = w' := by
  go_enter Try.func16, Try.ntmps16
  go_wp2
  all_goals go_ret
  all_goals exact ⟨rfl, rfl⟩
theorem Bk.len (h : Bk q w p c F T n O) : Calls Try.prog 16 #[ptr p] w fun e w' => e = .returned (.int .i64 (n : Int)) ∧ w = w' := by
  obtain ⟨cm, rm, rv, room, r, R, OC, OR, h1, h2, rfl⟩ := h
  exact len_run' (h1.cell 0) (fun ty => h1.cards.map.len tC ty)
/-- What a look for a row gives can be asked. -/
theorem Rows'.oldest (h : Rows' w rm r OR) (m : Int) : Calls Try.prog 31 #[ptrV ((r m).map Prod.fst)] w fun e w' => e = .returned (.tuple #[.string ((keysR r m).headD ⟨#[]⟩), .bool (decide (0 < (keysR r m).length))]) ∧ w = w' := by
  cases hr : r m with
  | none =>
    rw [keysR_none hr]
    exact oldest_nil w
  | some q =>
    obtain ⟨b, R', K⟩ := q
    rw [keysR_at hr]
    obtain ⟨u, hu⟩ := h.row m b R' K hr
    exact ord_oldest hu
theorem Rows'.all (h : Rows' w rm r OR) (m : Int) : Calls Try.prog 32 #[ptrV ((r m).map Prod.fst)] w fun e w' => ∃ v', e = .returned v' ∧ RowT w' w.heap.size v' (keysR r m) ∧ Only [] w w' := by
  cases hr : r m with
  | none =>
    rw [keysR_none hr]
    exact all_nil w
  | some q =>
    obtain ⟨b, R', K⟩ := q
    rw [keysR_at hr]
    obtain ⟨u, hu⟩ := h.row m b R' K hr
    exact ord_all hu
theorem Rows'.look (h : Rows' w rm r OR) (m : Int) (hm : 0 ≤ m ∧ m ≤ 1000) (b : Bool) :
    (Instr.lookup 50 (.map rm) (.int .i64 m) b).run Try.prog w = .ok (if b then .tuple #[ptrV ((r m).map Prod.fst), .bool ((r m).map Prod.fst).isSome] else ptrV ((r m).map Prod.fst)) w := h.map.look tR m (kI_ok hm) b
/-- The keys up to a count. -/
def uptoG (F : Int → List ByteArray) (i : Nat) : List ByteArray := (List.range i).flatMap fun (k : Nat) => F ((k : Int) + 1)
theorem uptoG_succ (F : Int → List ByteArray) (i : Nat) : uptoG F (i + 1) = uptoG F i ++ F ((i : Int) + 1) := by
  unfold uptoG
  rw [List.range_succ, List.flatMap_append]
  simp
theorem uptoG_add (F : Int → List ByteArray) (i d : Nat) : ∃ B, uptoG F (i + d) = uptoG F i ++ B := by
  induction d with
  | zero => exact ⟨[], by simp⟩
  | succ d ih =>
    obtain ⟨B, hB⟩ := ih
    exact ⟨B ++ F (((i + d : Nat) : Int) + 1), by rw [← Nat.add_assoc, uptoG_succ, hB, List.append_assoc]⟩
theorem uptoG_head {F : Int → List ByteArray} {i : Nat} (h : uptoG F i = []) (hne : F ((i : Int) + 1) ≠ []) (hi : i < 255) : (uptoG F 255).headD ⟨#[]⟩ = (F ((i : Int) + 1)).headD ⟨#[]⟩ ∧ 0 < (uptoG F 255).length := by
  obtain ⟨B, hB⟩ := uptoG_add F (i + 1) (255 - (i + 1))
  rw [show i + 1 + (255 - (i + 1)) = 255 by omega, uptoG_succ F i, h, List.nil_append] at hB
  rw [hB]
  cases hF : F ((i : Int) + 1) with
  | nil => exact absurd hF hne
  | cons a l => simp
set_option maxHeartbeats 4000000 in
theorem Bk.least (h : Bk q w p c F T n O) : Calls Try.prog 20 #[ptr p] w fun e w' => e = .returned (.tuple #[.string ((uptoG F 255).headD ⟨#[]⟩), .bool (decide (0 < (uptoG F 255).length))]) ∧ w = w' := by
  obtain ⟨cm, rm, rv, room, r, R, OC, OR, h1, h2, rfl⟩ := h
  have c1 : w.cell? ⟨p, 1, none⟩ = some (.map rm) := h1.cell 1
  have hrH := Lib.hid h1.rows
  have h2H := Lib.hid h2
  obtain ⟨k0, hk0⟩ : ∃ k0, k0 = (uptoG F 255).headD ⟨#[]⟩ := ⟨_, rfl⟩
  obtain ⟨b0, hb0⟩ : ∃ b0, b0 = decide (0 < (uptoG F 255).length) := ⟨_, rfl⟩
  rw [← hk0, ← hb0]
  have hk0H := Lib.hid hk0
  have hb0H := Lib.hid hb0
  clear h1 h2 hk0 hb0
  go_enter Try.func20, Try.ntmps20
  go_wp2_with fail
  go_loopw [9] (fun s9 wr => ∃ i : Nat, i ≤ 255 ∧ s9 = .int .i64 i ∧ w = wr ∧ Hid (uptoG F i = [])) (fun s9 _ => 255 - (intOf s9).toNat)
  case atStart => exact ⟨0, by omega, rfl, rfl, Lib.hid rfl⟩
  case round =>
    obtain ⟨i, hi, rfl, rfl, hu⟩ := hrel
    by_cases hil : i < 255
    · have hw1 := wrap_small (x := (i : Int) + 1) (by omega)
      have hlt : decide ((i : Int) < 255) = true := decide_eq_true (by omega)
      have hlk : (Instr.lookup 50 (.map rm) (.int .i64 ((i : Int) + 1)) false).run Try.prog w = .ok (ptrV ((r ((i : Int) + 1)).map Prod.fst)) w := hrH.out.look ((i : Int) + 1) (by omega) false
      have hO := hrH.out.oldest ((i : Int) + 1)
      rw [h2H.out] at hO
      have hilH := Lib.hid hil
      clear hil
      by_cases hF : F ((i : Int) + 1) = []
      · rw [hF] at hO
        have hO : Calls Try.prog 31 #[ptrV ((r ((i : Int) + 1)).map Prod.fst)] w fun e w' => e = .returned (.tuple #[.string ⟨#[]⟩, .bool false]) ∧ w = w' := hO
        generalize ptrV ((r ((i : Int) + 1)).map Prod.fst) = v at *
        have hOH := Lib.hid hO
        have hn : uptoG F (i + 1) = [] := by rw [uptoG_succ, hu.out, hF]; rfl
        have hnH := Lib.hid hn
        clear hn hF hO
        go_wp2_with (go_at_call 31; (with_reducible refine (hOH.out).mono ?_); rintro e w1 ⟨rfl, rfl⟩)
        go_roundw
        case rel => exact ⟨i + 1, by have := hilH.out; omega, by go_num, trivial, Lib.hid hnH.out⟩
        case measure => have := hilH.out; simp [intOf]; omega
      · have hd := uptoG_head hu.out hF hilH.out
        have e1 := hk0H.out.trans hd.1
        have e2 := hb0H.out.trans (decide_eq_true hd.2)
        have hpos : decide (0 < (F ((i : Int) + 1)).length) = true := decide_eq_true (List.length_pos_iff.2 hF)
        rw [hpos] at hO
        generalize ptrV ((r ((i : Int) + 1)).map Prod.fst) = v at *
        generalize (F ((i : Int) + 1)).headD ⟨#[]⟩ = k1 at *
        subst e1 e2
        have hOH := Lib.hid hO
        clear hpos hd hF hO
        go_wp2_with (go_at_call 31; (with_reducible refine (hOH.out).mono ?_); rintro e w1 ⟨rfl, rfl⟩)
        go_ret2
        exact ⟨rfl, rfl⟩
    · have hin : i = 255 := by omega
      have hlt : decide ((i : Int) < 255) = false := decide_eq_false (by omega)
      have e1 := hk0H.out
      have e2 := hb0H.out
      have e3 := hu.out
      rw [hin] at e3
      rw [e3] at e1 e2
      clear hin hil e3
      replace e1 : k0 = ⟨#[]⟩ := e1
      replace e2 : b0 = false := e2
      subst e1 e2
      go_wp2_with fail
      go_ret2
      exact ⟨rfl, rfl⟩
end Go.Proofs.Ytpbmgaipeofpaaa
