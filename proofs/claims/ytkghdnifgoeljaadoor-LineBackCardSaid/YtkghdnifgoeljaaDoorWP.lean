/-
  The walks of what the laws ask first, and of what compares two rows of texts. A premise: a row has at most 2^47 texts.
-/
import Derived.Test.YtkghdnifgoeljaaDoorWN
namespace Go.Proofs.YtkghdnifgoeljaaDoor
open Go.RowKit Ln

/-- A row of texts that is read. -/
def RR (w : World) (A : Option Addr) (ss : List ByteArray) : Prop := ∀ i x, ss[i]? = some x → ∃ a, A = some a ∧ w.cell? (a.add i) = some (.string x)
theorem SB.rr {w : World} {B : Nat} {A : Option Addr} {ss : List ByteArray} (h : SB w B A ss) : RR w A ss := by
  intro i x hx
  obtain ⟨a, h1, _, h3⟩ := h i x hx
  exact ⟨a, h1, h3⟩
def total (ss : List ByteArray) : Nat := (ss.map (·.size)).sum
def farL (ss : List ByteArray) : Bool := (ss.any fun s => decide (2000 < s.size)) || (decide (100 < ss.length) || decide (4000 < total ss))
theorem far_hit {ss : List ByteArray} {k : Nat} {x : ByteArray} (h : ss[k]? = some x) (hx : 2000 < x.size) : farL ss = true := by
  unfold farL
  rw [Bool.or_eq_true, List.any_eq_true]
  exact Or.inl ⟨x, List.mem_of_getElem? h, by simpa using hx⟩
theorem far_end {ss : List ByteArray} (h : ∀ (i : Nat) (x : ByteArray), ss[i]? = some x → x.size ≤ 2000) : farL ss = (decide (100 < ss.length) || decide (4000 < total ss)) := by
  unfold farL
  have e : (ss.any fun s => decide (2000 < s.size)) = false := by
    rw [List.any_eq_false]
    intro x hx
    obtain ⟨i, hi, rfl⟩ := List.mem_iff_getElem.1 hx
    have := h i _ (List.getElem?_eq_getElem hi)
    simp; omega
  rw [e]; rfl
theorem far_not {ss : List ByteArray} (h : farL ss = false) : (∀ x ∈ ss, x.size ≤ 2000) ∧ ss.length ≤ 100 ∧ total ss ≤ 4000 := by
  unfold farL at h
  rw [Bool.or_eq_false_iff, List.any_eq_false, Bool.or_eq_false_iff] at h
  refine ⟨fun x hx => ?_, by simpa using h.2.1, by simpa using h.2.2⟩
  have := h.1 x hx
  simpa using this
theorem total_take {ss : List ByteArray} {k : Nat} {x : ByteArray} (h : ss[k]? = some x) : total (ss.take (k + 1)) = total (ss.take k) + x.size := by
  unfold total; rw [take_row h]; simp

set_option maxHeartbeats 1000000 in
theorem far_any (A : Option Addr) (c : Nat) (ss : List ByteArray) (w : World) (hr : RR w A ss) (hl : ss.length ≤ 140737488355328) (F : Bool) (hF : Hid (farL ss = F)) :
    Calls Tryd.prog 7 #[.slice A ss.length c] w fun e w' => e = .returned (.bool F) ∧ w = w' := by
  have hrH := Lib.hid hr
  clear hr
  go_enter Tryd.func7, Tryd.ntmps7
  go_wp2_with fail
  go_loop [3, 8] (fun nv i => ∃ k n : Nat, k ≤ ss.length ∧ i = .int .i64 k ∧ nv = .int .i64 n ∧ n ≤ 2000 * k ∧ Hid (n = total (ss.take k)) ∧ Hid (∀ (i : Nat) (x : ByteArray), i < k → ss[i]? = some x → x.size ≤ 2000)) (fun _ i => ss.length - (intOf i).toNat)
  case atStart => exact ⟨0, 0, by omega, rfl, rfl, by omega, Lib.hid rfl, Lib.hid (fun i x h => by omega)⟩
  case round =>
    obtain ⟨k, n, hk, rfl, rfl, hn, hT, hS⟩ := hrel
    by_cases hlt : k < ss.length
    · obtain ⟨x, hx⟩ : ∃ x, ss[k]? = some x := ⟨_, List.getElem?_eq_getElem hlt⟩
      obtain ⟨a, rfl, hc⟩ := hrH.out k x hx
      by_cases hbig : 2000 < x.size
      · have hR := Lib.hid (far_hit hx hbig)
        clear hx
        go_wp2_with fail
        go_ret
        exact ⟨ret_bool (hR.out.symm.trans hF.out), rfl⟩
      · have hS2 : Hid (∀ (i : Nat) (y : ByteArray), i < k + 1 → ss[i]? = some y → y.size ≤ 2000) := Lib.hid (by
          intro i y hi hy
          by_cases e : i = k
          · subst e
            rw [hx] at hy
            obtain rfl := Option.some.inj hy
            omega
          · exact hS.out i y (by omega) hy)
        have hT2 : Hid (n + x.size = total (ss.take (k + 1))) := Lib.hid (by rw [total_take hx, ← hT.out])
        clear hx
        go_wp2_with fail
        go_round
        case rel => exact ⟨k + 1, n + x.size, by omega, by go_num, by go_num, by omega, hT2, hS2⟩
        case measure => simp [intOf]; omega
    · have hR := Lib.hid (far_end fun i x h => hS.out i x (by have := (List.getElem?_eq_some_iff.1 h).1; omega) h)
      have hTT : Hid (n = total ss) := Lib.hid (by rw [hT.out, List.take_of_length_le (by omega)])
      by_cases h1 : 100 < ss.length
      · have hFF : Hid (F = true) := Lib.hid (by rw [← hF.out, hR.out, decide_eq_true h1]; rfl)
        go_wp2_with fail
        go_ret
        exact ⟨by rw [hFF.out]; exact ret_bool (by simp <;> omega), rfl⟩
      · by_cases h2 : 4000 < n
        · have hFF : Hid (F = true) := Lib.hid (by rw [← hF.out, hR.out, ← hTT.out, decide_eq_true h2, Bool.or_true])
          go_wp2_with fail
          go_ret
          exact ⟨by rw [hFF.out]; exact ret_bool (by simp <;> omega), rfl⟩
        · have hFF : Hid (F = false) := Lib.hid (by rw [← hF.out, hR.out, ← hTT.out, decide_eq_false h1, decide_eq_false h2]; rfl)
          go_wp2_with fail
          go_ret
          exact ⟨by rw [hFF.out]; exact ret_bool (by simp <;> omega), rfl⟩

theorem drew_on' {w wr : World} (h : Hid (∃ m, wr = w.drewN m)) (n : Nat) : Hid (∃ m, wr.drewN n = w.drewN m) := by
  obtain ⟨m, rfl⟩ := h.out
  exact Lib.hid ⟨m + n, by unfold World.drewN; simp [Nat.add_assoc]⟩
set_option maxHeartbeats 1000000 in
theorem same_any (A A' : Option Addr) (c c' : Nat) (ss : List ByteArray) (w : World) (hl : ss.length ≤ 140737488355328) (h1 : RR w A ss) (h2 : RR w A' ss) :
    Calls Tryd.prog 11 #[.slice A ss.length c, .slice A' ss.length c'] w fun e w' => e = .returned (.bool true) ∧ ∃ n, w' = w.drewN n := by
  have h1H := Lib.hid h1
  have h2H := Lib.hid h2
  clear h1 h2
  go_enter Tryd.func11, Tryd.ntmps11
  go_wp2_with fail
  go_loopw [5] (fun i wr => ∃ k : Nat, k ≤ ss.length ∧ i = .int .i64 k ∧ Hid (∃ m, wr = w.drewN m)) (fun i _ => ss.length - (intOf i).toNat)
  case atStart => exact ⟨0, by omega, rfl, Lib.hid ⟨0, rfl⟩⟩
  case round =>
    obtain ⟨k, hk, rfl, hW⟩ := hrel
    by_cases hlt : k < ss.length
    · obtain ⟨x, hx⟩ : ∃ x, ss[k]? = some x := ⟨_, List.getElem?_eq_getElem hlt⟩
      obtain ⟨a, rfl, hc⟩ := h1H.out k x hx
      obtain ⟨a', rfl, hc'⟩ := h2H.out k x hx
      clear hx
      obtain ⟨m, hm⟩ := hW.out
      have hcw : wr.cell? (a.add k) = some (.string x) := by rw [hm]; exact hc
      have hcw' : wr.cell? (a'.add k) = some (.string x) := by rw [hm]; exact hc'
      clear hc hc' hm
      go_wp2_with fail
      go_quiet (fail)
      go_wp2_with fail
      go_roundw
      case rel => exact ⟨k + 1, by omega, by go_num, drew_on' hW _⟩
      case measure => simp [intOf]; omega
    · go_wp2_with fail
      go_ret
      exact ⟨rfl, hW.out⟩

/-- The row that a splitting made, as what is read. -/
theorem Txts.open {w W : World} {ss : List ByteArray} {v : Value} (h : Txts w ss v W) : ∃ A cap, v = .slice A ss.length cap ∧ SB W W.heap.size A ss := by
  rcases h.own.2 with ⟨rfl, h0⟩ | ⟨g, cap, cur, rfl, h1, h3, h4, h5, h6, h7⟩
  · have hs : ss = [] := List.eq_nil_of_length_eq_zero (by simpa [strV] using h0)
    subst hs
    exact ⟨none, 0, rfl, fun i x hx => by cases hx⟩
  · refine ⟨_, cap, rfl, fun i x hx => ⟨_, rfl, heap_lt h3, ?_⟩⟩
    exact h.own.cells (g := g) rfl i (.string x) (by simp [strV, hx])
end Go.Proofs.YtkghdnifgoeljaaDoor
