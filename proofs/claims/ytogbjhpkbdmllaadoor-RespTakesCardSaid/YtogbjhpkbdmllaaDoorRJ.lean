/-
  The walks of what is wrong with a reply. A premise: a text in which a line's end is looked for is shorter than 4294967281 bytes.
-/
import Derived.Test.YtogbjhpkbdmllaaDoorRB
import Derived.Test.YtogbjhpkbdmllaaDoorRD
import Derived.BigGuardPart
namespace Go.Proofs.YtogbjhpkbdmllaaDoor
open Go.RowKit Rp

def namedV (kd nm : Int) (t : List UInt8) (n : Nat) : Bool :=
  if kd = 1 ∨ kd = 2 ∨ kd = 4 then nm == 0 && (n : Int) == 0
  else if kd = 3 then t.isEmpty && (n : Int) == 0
  else if kd = 6 then nm == 0 && t.isEmpty
  else if kd = 5 ∨ kd = 7 then nm == 0 && t.isEmpty && (n : Int) == 0
  else false
theorem empty_len {α : Type} (l : List α) : l.isEmpty = ((l.length : Int) == 0) := by
  cases l with
  | nil => rfl
  | cons a l =>
    symm
    refine beq_eq_false_iff_ne.2 ?_
    simp
    omega
theorem named_V {α : Type} (x : RNode α) : named x = namedV x.kind x.num x.txt x.sub.length := by
  unfold named namedV
  rw [empty_len x.sub]
theorem str_empty {b : ByteArray} : b.toList = [] ↔ b.data.toList = [] := by rw [Lib.toList_data]
theorem one_box {w : World} {o : Obj} : Below w.heap.size w (w.alloc o) := (Below.refl _ _).alloc (Nat.le_refl _) _
set_option maxHeartbeats 1000000 in
theorem named_1 (nm : Int) (b : ByteArray) (A : Option Addr) (len cap : Nat) (w : World) :
    Calls Tryd.prog 45 #[.agg #[.int .i64 1, .int .i64 nm, .string b, .slice A len cap]] w fun e w' => e = .returned (.bool (namedV 1 nm b.data.toList len)) ∧ Below w.heap.size w w' := by
  have hT : Hid (∀ q : Bool, q = namedV 1 nm b.toList len → q = namedV 1 nm b.data.toList len) := Lib.hid (fun q h => by rw [h, Lib.toList_data])
  go_enter Tryd.func45, Tryd.ntmps45
  go_wp2_with fail
  all_goals
    go_ret
    exact ⟨ret_bool (hT.out _ (by simp [namedV, *])), one_box⟩
set_option maxHeartbeats 1000000 in
theorem named_2 (nm : Int) (b : ByteArray) (A : Option Addr) (len cap : Nat) (w : World) :
    Calls Tryd.prog 45 #[.agg #[.int .i64 2, .int .i64 nm, .string b, .slice A len cap]] w fun e w' => e = .returned (.bool (namedV 2 nm b.data.toList len)) ∧ Below w.heap.size w w' := by
  have hT : Hid (∀ q : Bool, q = namedV 2 nm b.toList len → q = namedV 2 nm b.data.toList len) := Lib.hid (fun q h => by rw [h, Lib.toList_data])
  go_enter Tryd.func45, Tryd.ntmps45
  go_wp2_with fail
  all_goals
    go_ret
    exact ⟨ret_bool (hT.out _ (by simp [namedV, *])), one_box⟩
set_option maxHeartbeats 1000000 in
theorem named_3 (nm : Int) (b : ByteArray) (A : Option Addr) (len cap : Nat) (w : World) :
    Calls Tryd.prog 45 #[.agg #[.int .i64 3, .int .i64 nm, .string b, .slice A len cap]] w fun e w' => e = .returned (.bool (namedV 3 nm b.data.toList len)) ∧ Below w.heap.size w w' := by
  have hT : Hid (∀ q : Bool, q = namedV 3 nm b.toList len → q = namedV 3 nm b.data.toList len) := Lib.hid (fun q h => by rw [h, Lib.toList_data])
  go_enter Tryd.func45, Tryd.ntmps45
  go_wp2_with fail
  all_goals
    go_ret
    exact ⟨ret_bool (hT.out _ (by simp [namedV, *])), one_box⟩
set_option maxHeartbeats 1000000 in
theorem named_4 (nm : Int) (b : ByteArray) (A : Option Addr) (len cap : Nat) (w : World) :
    Calls Tryd.prog 45 #[.agg #[.int .i64 4, .int .i64 nm, .string b, .slice A len cap]] w fun e w' => e = .returned (.bool (namedV 4 nm b.data.toList len)) ∧ Below w.heap.size w w' := by
  have hT : Hid (∀ q : Bool, q = namedV 4 nm b.toList len → q = namedV 4 nm b.data.toList len) := Lib.hid (fun q h => by rw [h, Lib.toList_data])
  go_enter Tryd.func45, Tryd.ntmps45
  go_wp2_with fail
  all_goals
    go_ret
    exact ⟨ret_bool (hT.out _ (by simp [namedV, *])), one_box⟩
set_option maxHeartbeats 1000000 in
theorem named_5 (nm : Int) (b : ByteArray) (A : Option Addr) (len cap : Nat) (w : World) :
    Calls Tryd.prog 45 #[.agg #[.int .i64 5, .int .i64 nm, .string b, .slice A len cap]] w fun e w' => e = .returned (.bool (namedV 5 nm b.data.toList len)) ∧ Below w.heap.size w w' := by
  have hT : Hid (∀ q : Bool, q = namedV 5 nm b.toList len → q = namedV 5 nm b.data.toList len) := Lib.hid (fun q h => by rw [h, Lib.toList_data])
  go_enter Tryd.func45, Tryd.ntmps45
  go_wp2_with fail
  all_goals
    go_ret
    exact ⟨ret_bool (hT.out _ (by simp [namedV, *])), one_box⟩
set_option maxHeartbeats 1000000 in
theorem named_6 (nm : Int) (b : ByteArray) (A : Option Addr) (len cap : Nat) (w : World) :
    Calls Tryd.prog 45 #[.agg #[.int .i64 6, .int .i64 nm, .string b, .slice A len cap]] w fun e w' => e = .returned (.bool (namedV 6 nm b.data.toList len)) ∧ Below w.heap.size w w' := by
  have hT : Hid (∀ q : Bool, q = namedV 6 nm b.toList len → q = namedV 6 nm b.data.toList len) := Lib.hid (fun q h => by rw [h, Lib.toList_data])
  go_enter Tryd.func45, Tryd.ntmps45
  go_wp2_with fail
  all_goals
    go_ret
    exact ⟨ret_bool (hT.out _ (by simp [namedV, *])), one_box⟩
set_option maxHeartbeats 1000000 in
theorem named_7 (nm : Int) (b : ByteArray) (A : Option Addr) (len cap : Nat) (w : World) :
    Calls Tryd.prog 45 #[.agg #[.int .i64 7, .int .i64 nm, .string b, .slice A len cap]] w fun e w' => e = .returned (.bool (namedV 7 nm b.data.toList len)) ∧ Below w.heap.size w w' := by
  have hT : Hid (∀ q : Bool, q = namedV 7 nm b.toList len → q = namedV 7 nm b.data.toList len) := Lib.hid (fun q h => by rw [h, Lib.toList_data])
  go_enter Tryd.func45, Tryd.ntmps45
  go_wp2_with fail
  all_goals
    go_ret
    exact ⟨ret_bool (hT.out _ (by simp [namedV, *])), one_box⟩
set_option maxHeartbeats 1000000 in
theorem named_other (kd nm : Int) (b : ByteArray) (A : Option Addr) (len cap : Nat) (w : World) (hk : Hid (namedV kd nm b.data.toList len = false))
    (h1 : (kd == 1) = false) (h2 : (kd == 2) = false) (h3 : (kd == 3) = false) (h4 : (kd == 4) = false) (h5 : (kd == 5) = false) (h6 : (kd == 6) = false) (h7 : (kd == 7) = false) :
    Calls Tryd.prog 45 #[.agg #[.int .i64 kd, .int .i64 nm, .string b, .slice A len cap]] w fun e w' => e = .returned (.bool (namedV kd nm b.data.toList len)) ∧ Below w.heap.size w w' := by
  rw [hk.out]
  go_enter Tryd.func45, Tryd.ntmps45
  go_wp2_with fail
  go_ret
  exact ⟨rfl, one_box⟩
theorem named_any (kd nm : Int) (b : ByteArray) (A : Option Addr) (len cap : Nat) (w : World) :
    Calls Tryd.prog 45 #[.agg #[.int .i64 kd, .int .i64 nm, .string b, .slice A len cap]] w fun e w' => e = .returned (.bool (namedV kd nm b.data.toList len)) ∧ Below w.heap.size w w' := by
  by_cases h1 : kd = 1
  · subst h1; exact named_1 nm b A len cap w
  by_cases h2 : kd = 2
  · subst h2; exact named_2 nm b A len cap w
  by_cases h3 : kd = 3
  · subst h3; exact named_3 nm b A len cap w
  by_cases h4 : kd = 4
  · subst h4; exact named_4 nm b A len cap w
  by_cases h5 : kd = 5
  · subst h5; exact named_5 nm b A len cap w
  by_cases h6 : kd = 6
  · subst h6; exact named_6 nm b A len cap w
  by_cases h7 : kd = 7
  · subst h7; exact named_7 nm b A len cap w
  exact named_other kd nm b A len cap w (Lib.hid (by unfold namedV; rw [if_neg (by omega), if_neg (by omega), if_neg (by omega), if_neg (by omega)])) (beq_eq_false_iff_ne.2 h1) (beq_eq_false_iff_ne.2 h2) (beq_eq_false_iff_ne.2 h3) (beq_eq_false_iff_ne.2 h4) (beq_eq_false_iff_ne.2 h5) (beq_eq_false_iff_ne.2 h6) (beq_eq_false_iff_ne.2 h7)

theorem eol_any (s : ByteArray) (w : World) (hs : s.size < 4294967281) :
    Calls Tryd.prog 46 #[.string s, .string ⟨#[13, 10]⟩] w fun e w' => e = .returned (.bool (hasEol s.data.toList)) ∧ Below w.heap.size w w' := by
  have hx := fun w => index_any s w hs
  have key : ∀ l : List UInt8, hasEol l = decide (0 ≤ Lib.indexAny l [13, 10]) := by
    intro l
    induction l with
    | nil => rfl
    | cons c l ih =>
      have hge := Lib.indexAny_ge [13, 10] l
      rw [Lib.indexAny]
      unfold hasEol at ih ⊢
      rw [List.any_cons, ih]
      by_cases hc : ([13, 10] : List UInt8).contains c = true
      · rw [if_pos hc]
        have : (c == 13 || c == 10) = true := by simpa using hc
        rw [this]; rfl
      · rw [if_neg hc]
        have : (c == 13 || c == 10) = false := by simpa using hc
        rw [this, Bool.false_or]
        split
        · rename_i e; rw [beq_iff_eq.1 e]
        · rename_i e
          have hn : Lib.indexAny l [13, 10] ≠ -1 := fun e' => e (by rw [e']; rfl)
          rw [decide_eq_decide]; omega
  rw [key]
  generalize Lib.indexAny s.data.toList [13, 10] = v at hx
  by_cases hv : 0 ≤ v
  · have hd : decide (0 ≤ v) = true := by simpa using hv
    rw [hd]
    go_enter Tryd.func46, Tryd.ntmps46
    go_wp2_with (go_at_call 51; ((with_reducible refine (hx _).mono ?_); rintro e w' ⟨rfl, hb⟩))
    go_ret
    exact ⟨rfl, hb⟩
  · have hd : decide (0 ≤ v) = false := by simpa using hv
    rw [hd]
    go_enter Tryd.func46, Tryd.ntmps46
    go_wp2_with (go_at_call 51; ((with_reducible refine (hx _).mono ?_); rintro e w' ⟨rfl, hb⟩))
    go_ret
    exact ⟨rfl, hb⟩

def faultV (kd nm : Int) (t : List UInt8) (n : Nat) (w : Nat) : Int :=
  if namedV kd nm t n = false then 1
  else if (kd = 1 ∨ kd = 2) ∧ hasEol t = true then 5
  else if kd = 4 ∧ 1048576 < t.length then 6
  else if kd = 6 ∧ 65536 < n then 7
  else if (kd = 6 ∨ kd = 7) ∧ 8 ≤ w then 7
  else 0
theorem fault_V {α : Type} (x : RNode α) (w : Nat) : faultF x w = faultV x.kind x.num x.txt x.sub.length w := by
  unfold faultF faultV
  rw [named_V]
theorem cellsF {W W' : World} {b B : Nat} {c0 c1 c2 c3 : Value} (hb : Below B W W') (h : W.heap[b]? = some (.cells #[c0, c1, c2, c3] 24 (0, 0))) (hl : b < B) :
    W'.cell? ⟨b, 0, none⟩ = some c0 ∧ W'.cell? ⟨b, 1, none⟩ = some c1 ∧ W'.cell? ⟨b, 2, none⟩ = some c2 ∧ W'.cell? ⟨b, 3, none⟩ = some c3 := by
  have h' := (hb.block b hl).trans h
  exact ⟨Lib.cell_of_heap h' 0, Lib.cell_of_heap h' 1, Lib.cell_of_heap h' 2, Lib.cell_of_heap h' 3⟩
theorem after_box {w w1 : World} {o : Obj} (hb : Below (w.alloc o).heap.size (w.alloc o) w1) : Below w.heap.size w w1 := one_box.trans (hb.mono (by simp))

set_option maxHeartbeats 1000000 in
theorem fault_bad (kd nm : Int) (b : ByteArray) (A : Option Addr) (len cap : Nat) (within : Nat) (w : World) (hq : namedV kd nm b.data.toList len = false) :
    Calls Tryd.prog 29 #[.agg #[.int .i64 kd, .int .i64 nm, .string b, .slice A len cap], .int .i64 within] w fun e w' => e = .returned (.int .i64 1) ∧ Below w.heap.size w w' := by
  have hN := fun w => named_any kd nm b A len cap w
  rw [hq] at hN
  clear hq
  go_enter Tryd.func29, Tryd.ntmps29
  go_wp2_with (go_at_call 45; ((with_reducible refine (hN _).mono ?_); rintro e w1 ⟨rfl, hb⟩))
  go_ret
  exact ⟨rfl, after_box hb⟩
set_option maxHeartbeats 2000000 in
theorem fault_1_true (nm : Int) (b : ByteArray) (A : Option Addr) (len cap : Nat) (within : Nat) (w : World) (hq : namedV 1 nm b.data.toList len = true) (hs : b.size < 4294967281) (he : hasEol b.data.toList = true) :
    Calls Tryd.prog 29 #[.agg #[.int .i64 1, .int .i64 nm, .string b, .slice A len cap], .int .i64 within] w fun e w' => e = .returned (.int .i64 5) ∧ Below w.heap.size w w' := by
  have hnew := Lib.hid (heap_alloc_new w (.cells #[.int .i64 1, .int .i64 nm, .string b, .slice A len cap] 24))
  have hN := fun w => named_any 1 nm b A len cap w
  rw [hq] at hN
  clear hq
  have hE := fun w => eol_any b w hs
  rw [he] at hE
  clear he
  go_enter Tryd.func29, Tryd.ntmps29
  go_wp2_with (first
    | (go_at_call 45; ((with_reducible refine (hN _).mono ?_); rintro e w1 ⟨rfl, hb⟩; obtain ⟨c0, c1, c2, c3⟩ := cellsF hb hnew.out (by simp)))
    | (go_at_call 46; ((with_reducible refine (hE _).mono ?_); rintro e w2 ⟨rfl, hb2⟩; obtain ⟨e0, e1, e2, e3⟩ := cellsF (hb.trans (hb2.mono hb.size)) hnew.out (by simp))))
  go_ret
  exact ⟨rfl, (after_box hb).trans (hb2.mono (after_box hb).size)⟩
set_option maxHeartbeats 2000000 in
theorem fault_1_false (nm : Int) (b : ByteArray) (A : Option Addr) (len cap : Nat) (within : Nat) (w : World) (hq : namedV 1 nm b.data.toList len = true) (hs : b.size < 4294967281) (he : hasEol b.data.toList = false) :
    Calls Tryd.prog 29 #[.agg #[.int .i64 1, .int .i64 nm, .string b, .slice A len cap], .int .i64 within] w fun e w' => e = .returned (.int .i64 0) ∧ Below w.heap.size w w' := by
  have hnew := Lib.hid (heap_alloc_new w (.cells #[.int .i64 1, .int .i64 nm, .string b, .slice A len cap] 24))
  have hN := fun w => named_any 1 nm b A len cap w
  rw [hq] at hN
  clear hq
  have hE := fun w => eol_any b w hs
  rw [he] at hE
  clear he
  go_enter Tryd.func29, Tryd.ntmps29
  go_wp2_with (first
    | (go_at_call 45; ((with_reducible refine (hN _).mono ?_); rintro e w1 ⟨rfl, hb⟩; obtain ⟨c0, c1, c2, c3⟩ := cellsF hb hnew.out (by simp)))
    | (go_at_call 46; ((with_reducible refine (hE _).mono ?_); rintro e w2 ⟨rfl, hb2⟩; obtain ⟨e0, e1, e2, e3⟩ := cellsF (hb.trans (hb2.mono hb.size)) hnew.out (by simp))))
  go_ret
  exact ⟨rfl, (after_box hb).trans (hb2.mono (after_box hb).size)⟩
set_option maxHeartbeats 2000000 in
theorem fault_2_true (nm : Int) (b : ByteArray) (A : Option Addr) (len cap : Nat) (within : Nat) (w : World) (hq : namedV 2 nm b.data.toList len = true) (hs : b.size < 4294967281) (he : hasEol b.data.toList = true) :
    Calls Tryd.prog 29 #[.agg #[.int .i64 2, .int .i64 nm, .string b, .slice A len cap], .int .i64 within] w fun e w' => e = .returned (.int .i64 5) ∧ Below w.heap.size w w' := by
  have hnew := Lib.hid (heap_alloc_new w (.cells #[.int .i64 2, .int .i64 nm, .string b, .slice A len cap] 24))
  have hN := fun w => named_any 2 nm b A len cap w
  rw [hq] at hN
  clear hq
  have hE := fun w => eol_any b w hs
  rw [he] at hE
  clear he
  go_enter Tryd.func29, Tryd.ntmps29
  go_wp2_with (first
    | (go_at_call 45; ((with_reducible refine (hN _).mono ?_); rintro e w1 ⟨rfl, hb⟩; obtain ⟨c0, c1, c2, c3⟩ := cellsF hb hnew.out (by simp)))
    | (go_at_call 46; ((with_reducible refine (hE _).mono ?_); rintro e w2 ⟨rfl, hb2⟩; obtain ⟨e0, e1, e2, e3⟩ := cellsF (hb.trans (hb2.mono hb.size)) hnew.out (by simp))))
  go_ret
  exact ⟨rfl, (after_box hb).trans (hb2.mono (after_box hb).size)⟩
set_option maxHeartbeats 2000000 in
theorem fault_2_false (nm : Int) (b : ByteArray) (A : Option Addr) (len cap : Nat) (within : Nat) (w : World) (hq : namedV 2 nm b.data.toList len = true) (hs : b.size < 4294967281) (he : hasEol b.data.toList = false) :
    Calls Tryd.prog 29 #[.agg #[.int .i64 2, .int .i64 nm, .string b, .slice A len cap], .int .i64 within] w fun e w' => e = .returned (.int .i64 0) ∧ Below w.heap.size w w' := by
  have hnew := Lib.hid (heap_alloc_new w (.cells #[.int .i64 2, .int .i64 nm, .string b, .slice A len cap] 24))
  have hN := fun w => named_any 2 nm b A len cap w
  rw [hq] at hN
  clear hq
  have hE := fun w => eol_any b w hs
  rw [he] at hE
  clear he
  go_enter Tryd.func29, Tryd.ntmps29
  go_wp2_with (first
    | (go_at_call 45; ((with_reducible refine (hN _).mono ?_); rintro e w1 ⟨rfl, hb⟩; obtain ⟨c0, c1, c2, c3⟩ := cellsF hb hnew.out (by simp)))
    | (go_at_call 46; ((with_reducible refine (hE _).mono ?_); rintro e w2 ⟨rfl, hb2⟩; obtain ⟨e0, e1, e2, e3⟩ := cellsF (hb.trans (hb2.mono hb.size)) hnew.out (by simp))))
  go_ret
  exact ⟨rfl, (after_box hb).trans (hb2.mono (after_box hb).size)⟩
set_option maxHeartbeats 2000000 in
theorem fault_3 (nm : Int) (b : ByteArray) (A : Option Addr) (len cap : Nat) (within : Nat) (w : World) (hq : namedV 3 nm b.data.toList len = true) :
    Calls Tryd.prog 29 #[.agg #[.int .i64 3, .int .i64 nm, .string b, .slice A len cap], .int .i64 within] w fun e w' => e = .returned (.int .i64 0) ∧ Below w.heap.size w w' := by
  have hnew := Lib.hid (heap_alloc_new w (.cells #[.int .i64 3, .int .i64 nm, .string b, .slice A len cap] 24))
  have hN := fun w => named_any 3 nm b A len cap w
  rw [hq] at hN
  clear hq
  go_enter Tryd.func29, Tryd.ntmps29
  go_wp2_with (first
    | (go_at_call 45; ((with_reducible refine (hN _).mono ?_); rintro e w1 ⟨rfl, hb⟩; obtain ⟨c0, c1, c2, c3⟩ := cellsF hb hnew.out (by simp)))
    | (go_at_call 46; ((with_reducible refine (hE _).mono ?_); rintro e w2 ⟨rfl, hb2⟩; obtain ⟨e0, e1, e2, e3⟩ := cellsF (hb.trans (hb2.mono hb.size)) hnew.out (by simp))))
  go_ret
  exact ⟨rfl, after_box hb⟩
set_option maxHeartbeats 2000000 in
theorem fault_5 (nm : Int) (b : ByteArray) (A : Option Addr) (len cap : Nat) (within : Nat) (w : World) (hq : namedV 5 nm b.data.toList len = true) :
    Calls Tryd.prog 29 #[.agg #[.int .i64 5, .int .i64 nm, .string b, .slice A len cap], .int .i64 within] w fun e w' => e = .returned (.int .i64 0) ∧ Below w.heap.size w w' := by
  have hnew := Lib.hid (heap_alloc_new w (.cells #[.int .i64 5, .int .i64 nm, .string b, .slice A len cap] 24))
  have hN := fun w => named_any 5 nm b A len cap w
  rw [hq] at hN
  clear hq
  go_enter Tryd.func29, Tryd.ntmps29
  go_wp2_with (first
    | (go_at_call 45; ((with_reducible refine (hN _).mono ?_); rintro e w1 ⟨rfl, hb⟩; obtain ⟨c0, c1, c2, c3⟩ := cellsF hb hnew.out (by simp)))
    | (go_at_call 46; ((with_reducible refine (hE _).mono ?_); rintro e w2 ⟨rfl, hb2⟩; obtain ⟨e0, e1, e2, e3⟩ := cellsF (hb.trans (hb2.mono hb.size)) hnew.out (by simp))))
  go_ret
  exact ⟨rfl, after_box hb⟩
set_option maxHeartbeats 2000000 in
theorem fault_4_far (nm : Int) (b : ByteArray) (A : Option Addr) (len cap : Nat) (within : Nat) (w : World) (hq : namedV 4 nm b.data.toList len = true) (h : 1048576 < b.size) :
    Calls Tryd.prog 29 #[.agg #[.int .i64 4, .int .i64 nm, .string b, .slice A len cap], .int .i64 within] w fun e w' => e = .returned (.int .i64 6) ∧ Below w.heap.size w w' := by
  have hnew := Lib.hid (heap_alloc_new w (.cells #[.int .i64 4, .int .i64 nm, .string b, .slice A len cap] 24))
  have hN := fun w => named_any 4 nm b A len cap w
  rw [hq] at hN
  clear hq
  go_enter Tryd.func29, Tryd.ntmps29
  go_wp2_with (first
    | (go_at_call 45; ((with_reducible refine (hN _).mono ?_); rintro e w1 ⟨rfl, hb⟩; obtain ⟨c0, c1, c2, c3⟩ := cellsF hb hnew.out (by simp)))
    | (go_at_call 46; ((with_reducible refine (hE _).mono ?_); rintro e w2 ⟨rfl, hb2⟩; obtain ⟨e0, e1, e2, e3⟩ := cellsF (hb.trans (hb2.mono hb.size)) hnew.out (by simp))))
  go_ret
  exact ⟨rfl, after_box hb⟩
set_option maxHeartbeats 2000000 in
theorem fault_4 (nm : Int) (b : ByteArray) (A : Option Addr) (len cap : Nat) (within : Nat) (w : World) (hq : namedV 4 nm b.data.toList len = true) (h : b.size ≤ 1048576) :
    Calls Tryd.prog 29 #[.agg #[.int .i64 4, .int .i64 nm, .string b, .slice A len cap], .int .i64 within] w fun e w' => e = .returned (.int .i64 0) ∧ Below w.heap.size w w' := by
  have hnew := Lib.hid (heap_alloc_new w (.cells #[.int .i64 4, .int .i64 nm, .string b, .slice A len cap] 24))
  have hN := fun w => named_any 4 nm b A len cap w
  rw [hq] at hN
  clear hq
  go_enter Tryd.func29, Tryd.ntmps29
  go_wp2_with (first
    | (go_at_call 45; ((with_reducible refine (hN _).mono ?_); rintro e w1 ⟨rfl, hb⟩; obtain ⟨c0, c1, c2, c3⟩ := cellsF hb hnew.out (by simp)))
    | (go_at_call 46; ((with_reducible refine (hE _).mono ?_); rintro e w2 ⟨rfl, hb2⟩; obtain ⟨e0, e1, e2, e3⟩ := cellsF (hb.trans (hb2.mono hb.size)) hnew.out (by simp))))
  go_ret
  exact ⟨rfl, after_box hb⟩
set_option maxHeartbeats 2000000 in
theorem fault_6_far (nm : Int) (b : ByteArray) (A : Option Addr) (len cap : Nat) (within : Nat) (w : World) (hq : namedV 6 nm b.data.toList len = true) (h : 65536 < len) :
    Calls Tryd.prog 29 #[.agg #[.int .i64 6, .int .i64 nm, .string b, .slice A len cap], .int .i64 within] w fun e w' => e = .returned (.int .i64 7) ∧ Below w.heap.size w w' := by
  have hnew := Lib.hid (heap_alloc_new w (.cells #[.int .i64 6, .int .i64 nm, .string b, .slice A len cap] 24))
  have hN := fun w => named_any 6 nm b A len cap w
  rw [hq] at hN
  clear hq
  go_enter Tryd.func29, Tryd.ntmps29
  go_wp2_with (first
    | (go_at_call 45; ((with_reducible refine (hN _).mono ?_); rintro e w1 ⟨rfl, hb⟩; obtain ⟨c0, c1, c2, c3⟩ := cellsF hb hnew.out (by simp)))
    | (go_at_call 46; ((with_reducible refine (hE _).mono ?_); rintro e w2 ⟨rfl, hb2⟩; obtain ⟨e0, e1, e2, e3⟩ := cellsF (hb.trans (hb2.mono hb.size)) hnew.out (by simp))))
  go_ret
  exact ⟨rfl, after_box hb⟩
set_option maxHeartbeats 2000000 in
theorem fault_6_deep (nm : Int) (b : ByteArray) (A : Option Addr) (len cap : Nat) (within : Nat) (w : World) (hq : namedV 6 nm b.data.toList len = true) (h : len ≤ 65536) (hw : 8 ≤ within) :
    Calls Tryd.prog 29 #[.agg #[.int .i64 6, .int .i64 nm, .string b, .slice A len cap], .int .i64 within] w fun e w' => e = .returned (.int .i64 7) ∧ Below w.heap.size w w' := by
  have hnew := Lib.hid (heap_alloc_new w (.cells #[.int .i64 6, .int .i64 nm, .string b, .slice A len cap] 24))
  have hN := fun w => named_any 6 nm b A len cap w
  rw [hq] at hN
  clear hq
  go_enter Tryd.func29, Tryd.ntmps29
  go_wp2_with (first
    | (go_at_call 45; ((with_reducible refine (hN _).mono ?_); rintro e w1 ⟨rfl, hb⟩; obtain ⟨c0, c1, c2, c3⟩ := cellsF hb hnew.out (by simp)))
    | (go_at_call 46; ((with_reducible refine (hE _).mono ?_); rintro e w2 ⟨rfl, hb2⟩; obtain ⟨e0, e1, e2, e3⟩ := cellsF (hb.trans (hb2.mono hb.size)) hnew.out (by simp))))
  go_ret
  exact ⟨rfl, after_box hb⟩
set_option maxHeartbeats 2000000 in
theorem fault_6 (nm : Int) (b : ByteArray) (A : Option Addr) (len cap : Nat) (within : Nat) (w : World) (hq : namedV 6 nm b.data.toList len = true) (h : len ≤ 65536) (hw : within < 8) :
    Calls Tryd.prog 29 #[.agg #[.int .i64 6, .int .i64 nm, .string b, .slice A len cap], .int .i64 within] w fun e w' => e = .returned (.int .i64 0) ∧ Below w.heap.size w w' := by
  have hnew := Lib.hid (heap_alloc_new w (.cells #[.int .i64 6, .int .i64 nm, .string b, .slice A len cap] 24))
  have hN := fun w => named_any 6 nm b A len cap w
  rw [hq] at hN
  clear hq
  go_enter Tryd.func29, Tryd.ntmps29
  go_wp2_with (first
    | (go_at_call 45; ((with_reducible refine (hN _).mono ?_); rintro e w1 ⟨rfl, hb⟩; obtain ⟨c0, c1, c2, c3⟩ := cellsF hb hnew.out (by simp)))
    | (go_at_call 46; ((with_reducible refine (hE _).mono ?_); rintro e w2 ⟨rfl, hb2⟩; obtain ⟨e0, e1, e2, e3⟩ := cellsF (hb.trans (hb2.mono hb.size)) hnew.out (by simp))))
  go_ret
  exact ⟨rfl, after_box hb⟩
set_option maxHeartbeats 2000000 in
theorem fault_7_deep (nm : Int) (b : ByteArray) (A : Option Addr) (len cap : Nat) (within : Nat) (w : World) (hq : namedV 7 nm b.data.toList len = true) (hw : 8 ≤ within) :
    Calls Tryd.prog 29 #[.agg #[.int .i64 7, .int .i64 nm, .string b, .slice A len cap], .int .i64 within] w fun e w' => e = .returned (.int .i64 7) ∧ Below w.heap.size w w' := by
  have hnew := Lib.hid (heap_alloc_new w (.cells #[.int .i64 7, .int .i64 nm, .string b, .slice A len cap] 24))
  have hN := fun w => named_any 7 nm b A len cap w
  rw [hq] at hN
  clear hq
  go_enter Tryd.func29, Tryd.ntmps29
  go_wp2_with (first
    | (go_at_call 45; ((with_reducible refine (hN _).mono ?_); rintro e w1 ⟨rfl, hb⟩; obtain ⟨c0, c1, c2, c3⟩ := cellsF hb hnew.out (by simp)))
    | (go_at_call 46; ((with_reducible refine (hE _).mono ?_); rintro e w2 ⟨rfl, hb2⟩; obtain ⟨e0, e1, e2, e3⟩ := cellsF (hb.trans (hb2.mono hb.size)) hnew.out (by simp))))
  go_ret
  exact ⟨rfl, after_box hb⟩
set_option maxHeartbeats 2000000 in
theorem fault_7 (nm : Int) (b : ByteArray) (A : Option Addr) (len cap : Nat) (within : Nat) (w : World) (hq : namedV 7 nm b.data.toList len = true) (hw : within < 8) :
    Calls Tryd.prog 29 #[.agg #[.int .i64 7, .int .i64 nm, .string b, .slice A len cap], .int .i64 within] w fun e w' => e = .returned (.int .i64 0) ∧ Below w.heap.size w w' := by
  have hnew := Lib.hid (heap_alloc_new w (.cells #[.int .i64 7, .int .i64 nm, .string b, .slice A len cap] 24))
  have hN := fun w => named_any 7 nm b A len cap w
  rw [hq] at hN
  clear hq
  go_enter Tryd.func29, Tryd.ntmps29
  go_wp2_with (first
    | (go_at_call 45; ((with_reducible refine (hN _).mono ?_); rintro e w1 ⟨rfl, hb⟩; obtain ⟨c0, c1, c2, c3⟩ := cellsF hb hnew.out (by simp)))
    | (go_at_call 46; ((with_reducible refine (hE _).mono ?_); rintro e w2 ⟨rfl, hb2⟩; obtain ⟨e0, e1, e2, e3⟩ := cellsF (hb.trans (hb2.mono hb.size)) hnew.out (by simp))))
  go_ret
  exact ⟨rfl, after_box hb⟩
theorem fault_any (kd nm : Int) (b : ByteArray) (A : Option Addr) (len cap : Nat) (within : Nat) (w : World) (hs : namedV kd nm b.data.toList len = true → (kd = 1 ∨ kd = 2) → b.size < 4294967281) :
    Calls Tryd.prog 29 #[.agg #[.int .i64 kd, .int .i64 nm, .string b, .slice A len cap], .int .i64 within] w fun e w' => e = .returned (.int .i64 (faultV kd nm b.data.toList len within)) ∧ Below w.heap.size w w' := by
  have hz : b.data.toList.length = b.size := by simp
  cases hq : namedV kd nm b.data.toList len with
  | false =>
    have : faultV kd nm b.data.toList len within = 1 := by unfold faultV; rw [if_pos hq]
    rw [this]
    exact fault_bad kd nm b A len cap within w hq
  | true =>
    have hs' := hs hq
    have hkd : kd = 1 ∨ kd = 2 ∨ kd = 3 ∨ kd = 4 ∨ kd = 5 ∨ kd = 6 ∨ kd = 7 := by
      have h := hq
      unfold namedV at h
      split at h
      · omega
      · split at h
        · omega
        · split at h
          · omega
          · split at h
            · omega
            · cases h
    have hV : faultV kd nm b.data.toList len within = if (kd = 1 ∨ kd = 2) ∧ hasEol b.data.toList = true then 5 else if kd = 4 ∧ 1048576 < b.size then 6 else if kd = 6 ∧ 65536 < len then 7 else if (kd = 6 ∨ kd = 7) ∧ 8 ≤ within then 7 else 0 := by
      unfold faultV; rw [if_neg (by rw [hq]; decide), hz]
    rw [hV]
    rcases hkd with rfl | rfl | rfl | rfl | rfl | rfl | rfl
    · cases he : hasEol b.data.toList with
      | true => exact fault_1_true nm b A len cap within w hq (hs' (Or.inl rfl)) he
      | false => exact fault_1_false nm b A len cap within w hq (hs' (Or.inl rfl)) he
    · cases he : hasEol b.data.toList with
      | true => exact fault_2_true nm b A len cap within w hq (hs' (Or.inr rfl)) he
      | false => exact fault_2_false nm b A len cap within w hq (hs' (Or.inr rfl)) he
    · exact fault_3 nm b A len cap within w hq
    · by_cases h : 1048576 < b.size
      · have := fault_4_far nm b A len cap within w hq h
        simpa [h] using this
      · have := fault_4 nm b A len cap within w hq (by omega)
        simpa [h] using this
    · exact fault_5 nm b A len cap within w hq
    · by_cases h : 65536 < len
      · have := fault_6_far nm b A len cap within w hq h
        simpa [h] using this
      · by_cases hw : 8 ≤ within
        · have := fault_6_deep nm b A len cap within w hq (by omega) hw
          simpa [h, hw] using this
        · have := fault_6 nm b A len cap within w hq (by omega) (by omega)
          simpa [h, hw] using this
    · by_cases hw : 8 ≤ within
      · have := fault_7_deep nm b A len cap within w hq hw
        simpa [hw] using this
      · have := fault_7 nm b A len cap within w hq (by omega)
        simpa [hw] using this

end Go.Proofs.YtogbjhpkbdmllaaDoor
