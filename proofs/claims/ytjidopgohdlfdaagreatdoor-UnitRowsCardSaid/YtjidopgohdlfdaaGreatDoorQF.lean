/-
  The walk of a line's arguments, and whether one is too long (told by a function literal). Premises: the line is no longer than 65536 bytes; the library's variable ErrSyntax holds an error, or none.
-/
import Derived.Test.YtjidopgohdlfdaaGreatDoorQB
import Derived.Test.YtjidopgohdlfdaaGreatDoorLMathC
import Derived.Deep.CutBlock
namespace Go.Proofs.YtjidopgohdlfdaaGreatDoor
open Go.RowKit Dec Pq S4

theorem long_any (x : ByteArray) (g B : Nat) (w : World) (hc : w.cell? ⟨g, 1, none⟩ = some (.int .i64 B)) (b : Bool) (hb : Hid (decide (B < x.size) = b)) :
    Calls Tryz.prog 96 #[.string x, .pointer (some ⟨g, 0, none⟩)] w fun e w' => e = .returned (.bool b) ∧ w = w' := by
  go_enter Tryz.func96, Tryz.ntmps96
  go_wp2_with fail
  go_ret
  exact ⟨by rw [← hb.out]; simp, rfl⟩
theorem add_index (a : Addr) (i : Nat) : a.add (i * 1) = a.add i := by rw [Nat.mul_one]
set_option maxHeartbeats 2000000 in
theorem index_any (A : Option Addr) (cap g B : Nat) (ss : List ByteArray) (w : World) (hn : ss.length ≤ 1000000) (hr : SOk w (fun _ => True) A ss) (hc : w.cell? ⟨g, 1, none⟩ = some (.int .i64 B)) :
    Calls Tryz.prog 65 #[.slice A ss.length cap, .func (.func 96) #[] #[.pointer (some ⟨g, 0, none⟩)]] w fun e w' => (∃ r : Int, e = .returned (.int .i64 r) ∧ (decide (0 ≤ r) = ss.any fun x => decide (B < x.size))) ∧ w = w' := by
  have hrH := Lib.hid hr
  clear hr
  go_enter Tryz.func65, Tryz.ntmps65
  go_wp2_with fail
  go_loop [8] (fun i => ∃ k : Nat, i = .int .i64 k ∧ k ≤ ss.length ∧ Hid (∀ x ∈ ss.take k, ¬ B < x.size)) (fun i => ss.length - (intOf i).toNat)
  case atStart => exact ⟨0, rfl, by omega, Lib.hid (fun x h => by simp at h)⟩
  case round =>
    obtain ⟨k, rfl, hk, hA⟩ := hrel
    by_cases hlt : k < ss.length
    · obtain ⟨x, hx⟩ : ∃ x, ss[k]? = some x := ⟨_, List.getElem?_eq_getElem hlt⟩
      obtain ⟨a, rfl, _, _, hcell⟩ := hrH.out k x hx
      cases hb : decide (B < x.size) with
      | true =>
        have hC := Lib.hid (long_any x g B w hc true (Lib.hid hb))
        have hR : Hid (ss.any (fun x => decide (B < x.size)) = true) := Lib.hid (List.any_eq_true.2 ⟨x, List.mem_of_getElem? hx, hb⟩)
        clear hx hb
        go_wp2_with (go_at_call 96; ((with_reducible refine hC.out.mono ?_); rintro e w' ⟨rfl, rfl⟩))
        go_ret
        exact ⟨⟨_, rfl, by rw [hR.out]; simp⟩, rfl⟩
      | false =>
        have hC := Lib.hid (long_any x g B w hc false (Lib.hid hb))
        have hA2 : Hid (∀ y ∈ ss.take (k + 1), ¬ B < y.size) := Lib.hid (by
          intro y hy
          rw [List.take_add_one, hx] at hy
          rcases List.mem_append.1 hy with h | h
          · exact hA.out y h
          · simp at h; subst h; simpa using hb)
        clear hx hb
        go_wp2_with (go_at_call 96; ((with_reducible refine hC.out.mono ?_); rintro e w' ⟨rfl, rfl⟩))
        go_round
        case rel => exact ⟨k + 1, by go_num, by omega, hA2⟩
        case measure => simp [intOf]; omega
    · have hR : Hid (ss.any (fun x => decide (B < x.size)) = false) := Lib.hid (by
        rw [List.any_eq_false]
        intro y hy
        have := hA.out y (by rw [List.take_of_length_le (by omega)]; exact hy)
        simpa using this)
      go_wp2_with fail
      go_ret
      exact ⟨⟨_, rfl, by rw [hR.out]; rfl⟩, rfl⟩
theorem contains_any (A : Option Addr) (cap g B : Nat) (ss : List ByteArray) (w : World) (hn : ss.length ≤ 1000000) (hr : SOk w (fun _ => True) A ss) (hc : w.cell? ⟨g, 1, none⟩ = some (.int .i64 B)) (b : Bool) (hb : Hid ((ss.any fun x => decide (B < x.size)) = b)) :
    Calls Tryz.prog 50 #[.slice A ss.length cap, .func (.func 96) #[] #[.pointer (some ⟨g, 0, none⟩)]] w fun e w' => e = .returned (.bool b) ∧ w = w' := by
  have hI := Lib.hid (index_any A cap g B ss w hn hr hc)
  clear hr
  go_enter Tryz.func50, Tryz.ntmps50
  go_wp2_with (go_at_call 65; ((with_reducible refine hI.out.mono ?_); rintro e w' ⟨⟨r, rfl, hr⟩, rfl⟩))
  go_ret
  exact ⟨by rw [← hb.out, ← hr]; simp, rfl⟩
theorem len_tot (l : List (List UInt8)) : l.length ≤ Ln.tot l := by
  induction l with
  | nil => simp
  | cons a l ih => simp [Ln.tot]
def argF (A B : Nat) (t : List UInt8) : Sum Int (List (List UInt8)) := match Ln.spl t with
  | none => .inl 16
  | some l => if A < l.length then .inl 7 else if l.any (fun a => decide (B < a.length)) then .inl 6 else .inr l
def ArgsEnd (R : Sum Int (List (List UInt8))) (w : World) (e : Ending) (w' : World) : Prop := Below w.heap.size w w' ∧ match R with
  | .inl k => e = .returned (.tuple #[.slice none 0 0, .int .i64 k])
  | .inr l => ∃ ss v, txt ss = l ∧ e = .returned (.tuple #[v, .int .i64 0]) ∧ w'.ownsRow w.heap.size 9 1 v ss.length (strV ss)
theorem txt_any (ss : List ByteArray) (B : Nat) : ((txt ss).any fun a => decide (B < a.length)) = ss.any fun x => decide (B < x.size) := by
  simp [txt, List.any_map]
  rfl
theorem own_base {W : World} {b b' : Nat} {v : Value} {n : Nat} {xs : List Value} (h : W.ownsRow b 9 1 v n xs) (hb : b' ≤ b) : W.ownsRow b' 9 1 v n xs := by
  refine ⟨h.1, ?_⟩
  rcases h.2 with h0 | ⟨g, cap, cur, e1, e2, e3⟩
  · exact Or.inl h0
  · exact Or.inr ⟨g, cap, cur, e1, Nat.le_trans hb e2, e3⟩
set_option maxRecDepth 100000 in
set_option maxHeartbeats 2000000 in
theorem arguments_any (t : ByteArray) (A B L : Nat) (w : World) (ht : t.size ≤ 65536) (hE : ErrAt w) :
    Calls Tryz.prog 88 #[.string t, .agg #[.int .i64 A, .int .i64 B, .int .i64 L]] w (ArgsEnd (argF A B t.data.toList) w) := by
  have hmf : ∀ (fn : Fn) (first cap : Array Value) (w : World), (Instr.makeFunc fn first cap).run Tryz.prog w = .ok (.func fn first cap) w := fun _ _ _ _ => rfl
  have hnew := Lib.hid (heap_alloc_new w (.cells #[.int .i64 A, .int .i64 B, .int .i64 L] 67))
  have hba : Below w.heap.size w (w.alloc (.cells #[.int .i64 A, .int .i64 B, .int .i64 L] 67)) := (Below.refl _ _).alloc (Nat.le_refl _) _
  have hS := Lib.hid (split_any t (w.alloc (.cells #[.int .i64 A, .int .i64 B, .int .i64 L] 67)) ht (hE.on hba))
  have hbaH := Lib.hid hba
  clear hba hE
  cases hs : Ln.spl t.data.toList with
  | none =>
    have hG : Hid (argF A B t.data.toList = .inl 16) := Lib.hid (by unfold argF; rw [hs])
    rw [hs] at hS
    clear hs
    go_enter Tryz.func88, Tryz.ntmps88
    go_wp2_with (go_at_call 95; ((with_reducible refine hS.out.mono ?_); rintro e w1 ⟨rfl, hb1⟩))
    refine bodyPost_ret (v := .tuple #[.slice none 0 0, .int .i64 16]) (by simp [results, Tryz.results88, go_sem]) rfl ?_
    rw [hG.out]
    exact ⟨onB hbaH.out hb1, rfl⟩
  | some l =>
    have hll : l.length ≤ 1000000 := by
      have h1 := Ln.spl_len hs
      have h2 := len_tot l
      have e : t.data.toList.length = t.size := by simp
      omega
    have hG : Hid (argF A B t.data.toList = if A < l.length then .inl 7 else if l.any (fun a => decide (B < a.length)) then .inl 6 else .inr l) := Lib.hid (by unfold argF; rw [hs])
    rw [hs] at hS
    clear hs
    go_enter Tryz.func88, Tryz.ntmps88
    go_upto_region 2 with (go_at_call 95; ((with_reducible refine hS.out.mono ?_); rintro e w1 ⟨ss, v, hss, rfl, hT⟩))
    have hTH := Lib.hid hT
    have hb1 := Lib.hid (hbaH.out.trans (hT.bel.mono (by simp)))
    obtain ⟨A', cap', rfl, hcap, hsk⟩ := own_sok hT.own
    have hsn : ss.length ≤ 1000000 := by rw [← hss] at hll; simpa [txt] using hll
    have hsl := Lib.hid (show ss.length = l.length by rw [← hss]; simp [txt])
    clear hll
    have hlim := (hT.bel.block w.heap.size (by simp)).trans hnew.out
    have q0 := Lib.cell_of_heap hlim 0
    have q1 := Lib.cell_of_heap hlim 1
    clear hT hlim
    by_cases hA : A < ss.length
    · rw [if_pos (by have := hsl.out; omega)] at hG
      go_wp2_with fail
      refine bodyPost_ret (v := .tuple #[.slice none 0 0, .int .i64 7]) (by simp [results, Tryz.results88, go_sem]) rfl ?_
      rw [hG.out]
      exact ⟨hb1.out, rfl⟩
    · rw [if_neg (by have := hsl.out; omega)] at hG
      rw [← hss, txt_any] at hG
      cases hb : ss.any (fun x => decide (B < x.size)) with
      | true =>
        rw [hb, if_pos rfl] at hG
        have hC := Lib.hid (contains_any A' cap' w.heap.size B ss w1 (by omega) (hsk.keep (fun _ _ _ => rfl) (Nat.le_refl _) (fun _ _ _ => trivial)) q1 true (Lib.hid hb))
        clear hb hsk
        go_wp2_with (go_at_call 50; ((with_reducible refine hC.out.mono ?_); rintro e w' ⟨rfl, rfl⟩))
        refine bodyPost_ret (v := .tuple #[.slice none 0 0, .int .i64 6]) (by simp [results, Tryz.results88, go_sem]) rfl ?_
        rw [hG.out]
        exact ⟨hb1.out, rfl⟩
      | false =>
        rw [hb, if_neg (by decide)] at hG
        have hC := Lib.hid (contains_any A' cap' w.heap.size B ss w1 (by omega) (hsk.keep (fun _ _ _ => rfl) (Nat.le_refl _) (fun _ _ _ => trivial)) q1 false (Lib.hid hb))
        clear hb hsk
        go_wp2_with (go_at_call 50; ((with_reducible refine hC.out.mono ?_); rintro e w' ⟨rfl, rfl⟩))
        refine bodyPost_ret (v := .tuple #[.slice A' ss.length cap', .int .i64 0]) (by simp [results, Tryz.results88, go_sem]) rfl ?_
        rw [hG.out]
        exact ⟨hb1.out, ss, _, rfl, rfl, own_base hTH.out.own (by simp)⟩
end Go.Proofs.YtjidopgohdlfdaaGreatDoor
