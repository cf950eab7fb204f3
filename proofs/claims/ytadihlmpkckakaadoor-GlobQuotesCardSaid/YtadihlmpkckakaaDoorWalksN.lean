/-
  The walks over rows of texts, and of the law's own small look. A premise: texts no longer than 65536 bytes.
-/
import Derived.Test.YtadihlmpkckakaaDoorWalksM
namespace Go.Proofs.YtadihlmpkckakaaDoor
open Go.RowKit Gl

/-- A row of texts that is read. -/
def SR (w : World) (A : Option Addr) (ss : List ByteArray) : Prop := ∀ i x, ss[i]? = some x → ∃ a, A = some a ∧ w.cell? (a.add i) = some (.string x)
def farL (ss : List ByteArray) : Bool := (ss.any fun s => decide (300 < s.size)) || decide (100 < ss.length)
theorem far_hit {ss : List ByteArray} {k : Nat} {x : ByteArray} (h : ss[k]? = some x) (hx : 300 < x.size) : farL ss = true := by
  unfold farL
  rw [Bool.or_eq_true, List.any_eq_true]
  exact Or.inl ⟨x, List.mem_of_getElem? h, by simpa using hx⟩
theorem far_end {ss : List ByteArray} (h : ∀ (i : Nat) (x : ByteArray), ss[i]? = some x → x.size ≤ 300) : farL ss = decide (100 < ss.length) := by
  unfold farL
  have e : (ss.any fun s => decide (300 < s.size)) = false := by
    rw [List.any_eq_false]
    intro x hx
    obtain ⟨i, hi, rfl⟩ := List.mem_iff_getElem.1 hx
    have := h i _ (List.getElem?_eq_getElem hi)
    simp; omega
  rw [e]; rfl
theorem far_not {ss : List ByteArray} (h : farL ss = false) : (∀ x ∈ ss, x.size ≤ 300) ∧ ss.length ≤ 100 := by
  unfold farL at h
  rw [Bool.or_eq_false_iff, List.any_eq_false] at h
  refine ⟨fun x hx => ?_, by simpa using h.2⟩
  have := h.1 x hx
  simpa using this

set_option maxHeartbeats 1000000 in
theorem far_any (A : Option Addr) (c : Nat) (ss : List ByteArray) (w : World) (hr : SR w A ss) (hl : ss.length ≤ 9223372036854775807) (F : Bool) (hF : Hid (farL ss = F)) :
    Calls Tryd.prog 7 #[.slice A ss.length c] w fun e w' => e = .returned (.bool F) ∧ w = w' := by
  have hrH := Lib.hid hr
  clear hr
  go_enter Tryd.func7, Tryd.ntmps7
  go_wp2_with fail
  go_loop [7] (fun i => ∃ k : Nat, k ≤ ss.length ∧ i = .int .i64 k ∧ Hid (∀ (i : Nat) (x : ByteArray), i < k → ss[i]? = some x → x.size ≤ 300)) (fun i => ss.length - (intOf i).toNat)
  case atStart => exact ⟨0, by omega, rfl, Lib.hid (fun i x h => by omega)⟩
  case round =>
    obtain ⟨k, hk, rfl, hS⟩ := hrel
    by_cases hlt : k < ss.length
    · obtain ⟨x, hx⟩ : ∃ x, ss[k]? = some x := ⟨_, List.getElem?_eq_getElem hlt⟩
      obtain ⟨a, rfl, hc⟩ := hrH.out k x hx
      by_cases hbig : 300 < x.size
      · have hn := Lib.hid (far_hit hx hbig)
        clear hx
        go_wp2_with fail
        go_ret
        exact ⟨ret_bool (hn.out.symm.trans hF.out), rfl⟩
      · have hS2 : Hid (∀ (i : Nat) (y : ByteArray), i < k + 1 → ss[i]? = some y → y.size ≤ 300) := Lib.hid (by
          intro i y hi hy
          by_cases e : i = k
          · subst e
            rw [hx] at hy
            obtain rfl := Option.some.inj hy
            omega
          · exact hS.out i y (by omega) hy)
        clear hx
        go_wp2_with fail
        go_round
        case rel => exact ⟨k + 1, by omega, by go_num, hS2⟩
        case measure => simp [intOf]; omega
    · have hn := Lib.hid (far_end fun i x h => hS.out i x (by have := (List.getElem?_eq_some_iff.1 h).1; omega) h)
      go_wp2_with fail
      go_ret
      refine ⟨ret_bool ?_, rfl⟩
      rw [← hF.out, hn.out, decide_eq_decide]
      omega

theorem const_plain (w : World) : Calls Tryd.prog 11 #[.string ⟨#[97, 92, 42]⟩] w fun e w' => e = .returned (.tuple #[.string ⟨#[97, 42]⟩, .bool true]) ∧ Below w.heap.size w w' := by
  refine (plain_any ⟨#[97, 92, 42]⟩ w (by decide)).mono fun e w' ⟨he, hw⟩ => ⟨?_, hw⟩
  have h : bytesOf (parts [97, 92, 42]) = some [97, 42] := bytesOf_quote [97, 42]
  rw [he]
  unfold plT plB
  show Ending.returned (.tuple #[.string ⟨((bytesOf (parts [97, 92, 42])).getD []).toArray⟩, .bool (bytesOf (parts [97, 92, 42])).isSome]) = _
  rw [h]
  rfl
theorem const_quote (w : World) : Calls Tryd.prog 13 #[.string ⟨#[91]⟩] w fun e w' => e = .returned (.string ⟨#[92, 91]⟩) ∧ Below w.heap.size w w' :=
  quote_any ⟨#[91]⟩ w (by decide)
theorem const_one : mt (parts [97, 91, 94, 98, 45, 100, 93, 42]) [97, 101, 98] = true := by
  have hI : itemsLen [98, 45, 100, 93, 42] = 3 := by
    rw [len_more (by simp) (by decide)]
    show 3 + itemsLen [93, 42] = 3
    rw [len_end (Or.inr rfl)]
  have hH : itemsHas [98, 45, 100, 93, 42] 101 = false := by
    rw [has_more (by simp) (by decide)]
    show (within (98, 100, 3) 101 || itemsHas [93, 42] 101) = false
    rw [has_end (Or.inr rfl)]
    decide
  have hb : body [94, 98, 45, 100, 93, 42] = [98, 45, 100, 93, 42] := rfl
  have ht : turned [94, 98, 45, 100, 93, 42] = true := rfl
  have hL : clsLen [94, 98, 45, 100, 93, 42] = 5 := by unfold clsLen; rw [hb, ht, hI]; rfl
  have hC : clsHas [94, 98, 45, 100, 93, 42] 101 = true := by unfold clsHas; rw [hb, ht, hH]; rfl
  rw [parts_more (by simp), part_cons, partLen_cons]
  show mt (.byte 97 :: parts [91, 94, 98, 45, 100, 93, 42]) [97, 101, 98] = true
  rw [mt_one rfl, parts_more (by simp), part_cons, partLen_cons]
  show (_ && mt (.cls (clsHas [94, 98, 45, 100, 93, 42]) :: parts ([91, 94, 98, 45, 100, 93, 42].drop (1 + clsLen [94, 98, 45, 100, 93, 42]))) [101, 98]) = true
  rw [hL, mt_one rfl]
  show (_ && (clsHas [94, 98, 45, 100, 93, 42] 101 && mt (parts [42]) [98])) = true
  rw [hC, parts_star, parts_nil, mt_run_any]
  rfl
theorem const_two : mt (parts [91, 93]) [93] = false := by
  have hL : clsLen [93] = 1 := by
    unfold clsLen
    rw [show body [93] = [93] from rfl, len_end (Or.inr rfl)]
    rfl
  have hC : clsHas [93] 93 = false := by
    unfold clsHas
    rw [show body [93] = [93] from rfl, has_end (Or.inr rfl)]
    rfl
  rw [parts_more (by simp), part_cons, partLen_cons]
  show mt (.cls (clsHas [93]) :: parts ([91, 93].drop (1 + clsLen [93]))) [93] = false
  rw [mt_one rfl]
  show (clsHas [93] 93 && _) = false
  rw [hC]
  rfl
theorem const_three : mt (parts [91, 97]) [97] = true := by
  have hI : itemsLen [97] = 1 := by
    rw [len_more (by simp) (by decide)]
    show 1 + itemsLen [] = 1
    rw [len_end (Or.inl rfl)]
  have hH : itemsHas [97] 97 = true := by
    rw [has_more (by simp) (by decide)]
    show (within (97, 97, 1) 97 || itemsHas [] 97) = true
    rw [has_end (Or.inl rfl)]
    decide
  have hb : body [97] = [97] := rfl
  have hL : clsLen [97] = 2 := by unfold clsLen; rw [hb, hI]; rfl
  have hC : clsHas [97] 97 = true := by unfold clsHas; rw [hb, hH]; rfl
  rw [parts_more (by simp), part_cons, partLen_cons]
  show mt (.cls (clsHas [97]) :: parts ([91, 97].drop (1 + clsLen [97]))) [97] = true
  rw [hL, mt_one rfl]
  show (clsHas [97] 97 && mt (parts []) []) = true
  rw [hC, parts_nil]
  rfl
/-- The law's own small look at package glob. -/
theorem alive_any (w : World) : Calls Tryd.prog 8 #[] w fun e w' => e = .returned (.bool true) ∧ Below w.heap.size w w' := by
  have m1 := fun W => match_any ⟨#[97, 91, 94, 98, 45, 100, 93, 42]⟩ ⟨#[97, 101, 98]⟩ W (by decide) (by decide) true (Lib.hid const_one)
  have m2 := fun W => match_any ⟨#[91, 93]⟩ ⟨#[93]⟩ W (by decide) (by decide) false (Lib.hid const_two)
  have m3 := fun W => match_any ⟨#[91, 97]⟩ ⟨#[97]⟩ W (by decide) (by decide) true (Lib.hid const_three)
  go_enter Tryd.func8, Tryd.ntmps8
  go_wp2_with (first
    | (go_at_call 11; (with_reducible refine (const_plain _).mono ?_); rintro e w1 ⟨rfl, hb1⟩)
    | (go_at_call 13; (with_reducible refine (const_quote _).mono ?_); rintro e w2 ⟨rfl, hb2⟩)
    | (go_at_call 9; (with_reducible refine (m1 _).mono ?_); rintro e w' ⟨rfl, n, rfl⟩)
    | (go_at_call 9; (with_reducible refine (m2 _).mono ?_); rintro e w' ⟨rfl, n, rfl⟩)
    | (go_at_call 9; (with_reducible refine (m3 _).mono ?_); rintro e w' ⟨rfl, n, rfl⟩))
  go_ret
  exact ⟨rfl, (below_drewN hb1 _).trans (hb2.mono hb1.size)⟩

end Go.Proofs.YtadihlmpkckakaaDoor
