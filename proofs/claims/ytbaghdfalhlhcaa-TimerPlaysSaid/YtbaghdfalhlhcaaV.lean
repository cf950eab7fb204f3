/-
  A timer of the call's own; what each call turns; the law's own alive.
-/
import Derived.Test.YtbaghdfalhlhcaaK
import Derived.Test.YtbaghdfalhlhcaaN
import Derived.Test.YtbaghdfalhlhcaaT
namespace Go.Proofs.Ytbaghdfalhlhcaa
open Go.RowKit

/-- A call may have written the blocks O; the timer's blocks are O' now. -/
def Move (O : List Nat) (w w' : World) (O' : List Nat) : Prop := Only O w w' ∧ ∀ b ∈ O', b ∈ O ∨ w.heap.size ≤ b
theorem Move.apart {O O' : List Nat} {w w' : World} (m : Move O w w' O') {b : Nat} {o : Obj} (hb : w.heap[b]? = some o) (hn : b ∉ O) : w'.heap[b]? = some o ∧ b ∉ O' := by
  refine ⟨m.1.keep hb hn, fun hm => ?_⟩
  have := some_lt hb
  rcases m.2 b hm with e | e
  · exact hn e
  · omega
/-- The call (begun in the world w0) has a timer p of its own, of the blocks O, whose keys in order are L; of what was there before nothing has turned. -/
def Pl (w0 w : World) (p : Nat) (O : List Nat) (L : List Sc) : Prop := (∃ h, Tm w p O h ∧ HR h L) ∧ (∀ b ∈ O, w0.heap.size ≤ b) ∧ Only [] w0 w
variable {w0 w : World} {p : Nat} {O : List Nat} {L : List Sc}
theorem Pl.rises (h : Pl w0 w p O L) : Rises L := by obtain ⟨⟨x, _, k⟩, _⟩ := h; exact k.ord
theorem Pl.uniq (h : Pl w0 w p O L) : Uniq L := by obtain ⟨⟨x, _, k⟩, _⟩ := h; exact k.uniq
theorem Pl.few (h : Pl w0 w p O L) : L.length ≤ 1000000 := by obtain ⟨⟨x, t, k⟩, _⟩ := h; rw [← k.len]; exact t.few
theorem Pl.most (h : Pl w0 w p O L) : Only [] w0 w := h.2.2
theorem Pl.lt (h : Pl w0 w p O L) {b : Nat} (hb : b ∈ O) : b < w.heap.size := by obtain ⟨⟨x, t, k⟩, _⟩ := h; exact t.lt hb
theorem Pl.ge (h : Pl w0 w p O L) {b : Nat} (hb : b ∈ O) : w0.heap.size ≤ b := h.2.1 b hb
theorem Pl.same {w' : World} (h : Pl w0 w p O L) (ho : Only [] w w') : Pl w0 w' p O L := by
  obtain ⟨⟨x, t, k⟩, h2, h3⟩ := h
  exact ⟨⟨x, t.keep ho (by simp), k⟩, h2, only_nil h3 ho⟩
theorem Pl.keep {w' : World} {O' : List Nat} (h : Pl w0 w p O L) (ho : Only O' w w') (hd : ∀ b ∈ O, b ∉ O') (hO : ∀ b ∈ O', w0.heap.size ≤ b) : Pl w0 w' p O L := by
  obtain ⟨⟨x, t, k⟩, h2, h3⟩ := h
  exact ⟨⟨x, t.keep ho hd, k⟩, h2, h3.trans ho (fun b hb => Or.inr (hO b hb))⟩
theorem Pl.moved {w' : World} {O' : List Nat} {L' h' : List Sc} (h : Pl w0 w p O L) (t : Tm w' p O' h') (k : HR h' L') (m : Move O w w' O') : Pl w0 w' p O' L' := by
  have hs := h.most.size
  refine ⟨⟨h', t, k⟩, fun b hb => ?_, h.most.trans m.1 (fun b hb => Or.inr (h.ge hb))⟩
  rcases m.2 b hb with e | e
  · exact h.ge e
  · omega
theorem pl_new (ho : Only [] w0 w) : Calls Try.prog 9 #[] w fun e w' => e = .returned (.pointer (some ⟨w.heap.size, 0, none⟩)) ∧ Pl w0 w' w.heap.size [w.heap.size] [] ∧ Only [] w w' := by
  refine (new_any w).mono ?_
  rintro e w' ⟨rfl, h1, h2⟩
  refine ⟨rfl, ⟨⟨[], h1, HR.nil⟩, fun b hb => ?_, only_nil ho h2⟩, h2⟩
  have := List.mem_singleton.1 hb
  have := ho.size
  omega
theorem Pl.set (h : Pl w0 w p O L) (hl : L.length < 1000000) (key : ByteArray) (hkey : key.size ≤ maxLen) (t : Int) :
    Calls Try.prog 10 #[.pointer (some ⟨p, 0, none⟩), .string key, .int .i64 t] w fun e w' => e = .returned (.bool (atK L key).isNone) ∧ ∃ O', Pl w0 w' p O' (setK L key t) ∧ Move O w w' O' := by
  have h' := h
  obtain ⟨⟨x, tm, k⟩, _, _⟩ := h
  refine (set_any tm k (by rw [k.len]; exact hl) key hkey t).mono ?_
  rintro e w' ⟨rfl, x', ⟨O', d1, d2, d3⟩, k'⟩
  exact ⟨rfl, O', h'.moved d1 k' ⟨d2, d3⟩, d2, d3⟩
theorem Pl.drop (h : Pl w0 w p O L) (key : ByteArray) (hkey : key.size ≤ maxLen) :
    Calls Try.prog 12 #[.pointer (some ⟨p, 0, none⟩), .string key] w fun e w' => e = .returned (.bool (atK L key).isSome) ∧ ∃ O', Pl w0 w' p O' (dropK L key) ∧ Move O w w' O' := by
  have h' := h
  obtain ⟨⟨x, tm, k⟩, _, _⟩ := h
  cases hq : atK L key with
  | none =>
    refine (drop_none tm key hkey (fun y hy e => (atK_none.1 hq) y (k.mem.1 hy) e)).mono ?_
    rintro e w' ⟨rfl, rfl⟩
    rw [dropK_none (atK_none.1 hq)]
    exact ⟨rfl, O, h', Only.refl _ _, fun b hb => Or.inl hb⟩
  | some t =>
    refine (drop_there tm k key hq).mono ?_
    rintro e w' ⟨rfl, x', ⟨O', d1, d2, d3⟩, k'⟩
    exact ⟨rfl, O', h'.moved d1 k' ⟨d2, d3⟩, d2, d3⟩
theorem Pl.due (h : Pl w0 w p O L) (now : Int) :
    Calls Try.prog 16 #[.pointer (some ⟨p, 0, none⟩), .int .i64 now] w fun e w' => ∃ u, e = .returned u ∧ RowT w' w.heap.size u ((L.take (dueN L now)).map Prod.fst) ∧ ∃ O', Pl w0 w' p O' (L.drop (dueN L now)) ∧ Move O w w' O' ∧ ∀ q, u.ownBlock = some q → q ∉ O' := by
  have h' := h
  obtain ⟨⟨x, tm, k⟩, _, _⟩ := h
  refine (due_any tm k now).mono ?_
  rintro e w' ⟨u, rfl, x', O', d1, k', d2, d3, d4, d5⟩
  exact ⟨u, rfl, d2, O', h'.moved d1 k' ⟨d3, d4⟩, ⟨d3, d4⟩, d5⟩
theorem Pl.at_ (h : Pl w0 w p O L) (key : ByteArray) (hkey : key.size ≤ maxLen) :
    Calls Try.prog 17 #[.pointer (some ⟨p, 0, none⟩), .string key] w fun e w' => e = .returned (atV L key) ∧ w = w' := by
  obtain ⟨⟨x, tm, k⟩, _, _⟩ := h
  exact at_any tm k key hkey
theorem Pl.first (h : Pl w0 w p O L) : Calls Try.prog 19 #[.pointer (some ⟨p, 0, none⟩)] w fun e w' => e = .returned (firstV L) ∧ Only [] w w' := by
  obtain ⟨⟨x, tm, k⟩, _, _⟩ := h
  exact first_any tm k
theorem Pl.len (h : Pl w0 w p O L) : Calls Try.prog 20 #[.pointer (some ⟨p, 0, none⟩)] w fun e w' => e = .returned (.int .i64 (L.length : Nat)) ∧ w = w' := by
  obtain ⟨⟨x, tm, k⟩, _, _⟩ := h
  rw [← k.len]
  exact len_any tm
theorem Pl.all (h : Pl w0 w p O L) : Calls Try.prog 22 #[.pointer (some ⟨p, 0, none⟩)] w fun e w' => ∃ v', e = .returned v' ∧ FreshS w v' L w' := by
  obtain ⟨⟨x, tm, k⟩, _, _⟩ := h
  exact all_any tm k

theorem alive_1 : setK [] ⟨#[98]⟩ 1 = ([(⟨#[98]⟩, 1)] : List Sc) := by decide +kernel
theorem alive_2 : setK [(⟨#[98]⟩, 1)] ⟨#[97]⟩ 2 = ([(⟨#[98]⟩, 1), (⟨#[97]⟩, 2)] : List Sc) := by decide +kernel
theorem alive_3 : setK [(⟨#[98]⟩, 1), (⟨#[97]⟩, 2)] ⟨#[99]⟩ 1 = ([(⟨#[98]⟩, 1), (⟨#[99]⟩, 1), (⟨#[97]⟩, 2)] : List Sc) := by decide +kernel
theorem alive_4 : setK [(⟨#[98]⟩, 1), (⟨#[99]⟩, 1), (⟨#[97]⟩, 2)] ⟨#[99]⟩ 1 = ([(⟨#[98]⟩, 1), (⟨#[99]⟩, 1), (⟨#[97]⟩, 2)] : List Sc) := by decide +kernel
theorem alive_b1 : (atK ([] : List Sc) ⟨#[98]⟩).isNone = true := by decide +kernel
theorem alive_b2 : (atK ([(⟨#[98]⟩, 1)] : List Sc) ⟨#[97]⟩).isNone = true := by decide +kernel
theorem alive_b3 : (atK ([(⟨#[98]⟩, 1), (⟨#[97]⟩, 2)] : List Sc) ⟨#[99]⟩).isNone = true := by decide +kernel
theorem alive_b4 : (atK ([(⟨#[98]⟩, 1), (⟨#[99]⟩, 1), (⟨#[97]⟩, 2)] : List Sc) ⟨#[99]⟩).isNone = false := by decide +kernel
theorem alive_d : dueN ([(⟨#[98]⟩, 1), (⟨#[99]⟩, 1), (⟨#[97]⟩, 2)] : List Sc) 1 = 2 := by decide +kernel
set_option maxHeartbeats 4000000 in
theorem alive_any (w : World) : Calls Try.prog 8 #[] w fun e w' => e = .returned (.bool true) ∧ Only [] w w' := by
  have hN := Lib.hid (pl_new (Only.refl [] w))
  go_enter Try.func8, Try.ntmps8
  generalize w.heap.size = D at *
  go_wp2_with (first
    | (go_at_call 9; ((with_reducible refine (hN.out).mono ?_); rintro e w1 ⟨rfl, h1, _⟩; have hS1 := h1.set (by decide) ⟨#[98]⟩ (by decide) 1; rw [alive_1, alive_b1] at hS1; have hS1H := Lib.hid hS1; clear h1 hS1))
    | (go_at_call 10; ((with_reducible refine (hS1H.out).mono ?_); rintro e w2 ⟨rfl, O2, h2, _⟩; have hS2 := h2.set (by decide) ⟨#[97]⟩ (by decide) 2; rw [alive_2, alive_b2] at hS2; have hS2H := Lib.hid hS2; clear h2 hS2))
    | (go_at_call 10; ((with_reducible refine (hS2H.out).mono ?_); rintro e w3 ⟨rfl, O3, h3, _⟩; have hS3 := h3.set (by decide) ⟨#[99]⟩ (by decide) 1; rw [alive_3, alive_b3] at hS3; have hS3H := Lib.hid hS3; clear h3 hS3))
    | (go_at_call 10; ((with_reducible refine (hS3H.out).mono ?_); rintro e w4 ⟨rfl, O4, h4, _⟩; have hS4 := h4.set (by decide) ⟨#[99]⟩ (by decide) 1; rw [alive_4, alive_b4] at hS4; have hS4H := Lib.hid hS4; clear h4 hS4))
    | (go_at_call 10; ((with_reducible refine (hS4H.out).mono ?_); rintro e w5 ⟨rfl, O5, h5, _⟩; have hD5 := h5.due 1; rw [alive_d] at hD5; simp only [List.take_succ_cons, List.take_zero, List.map_cons, List.map_nil] at hD5; have hD5H := Lib.hid hD5; clear h5 hD5))
    | (go_at_call 16; ((with_reducible refine (hD5H.out).mono ?_); rintro e w6 ⟨u6, rfl, hR6, O6, h6, _, _⟩; obtain ⟨A6, c6, hve⟩ := hR6.len; simp only [List.length_cons, List.length_nil, Nat.zero_add, Nat.reduceAdd] at hve; subst hve; have h6H := Lib.hid h6; have hal : Only [] w6 (w6.alloc (.cells #[.string ⟨#[98]⟩, .string ⟨#[99]⟩] 9)) := (Only.refl [] w6).alloc _; have hal6 := Lib.hid hal; have hT6 : RowT (w6.alloc (.cells #[.string ⟨#[98]⟩, .string ⟨#[99]⟩] 9)) w6.heap.size (.slice (some ⟨w6.heap.size, 0, none⟩) 2 2) [⟨#[98]⟩, ⟨#[99]⟩] := rowT_mk (L := [⟨#[98]⟩, ⟨#[99]⟩]) (heap_alloc_new w6 _) rfl (by simp) (Nat.le_refl _); have hQ6 := Lib.hid (tsame_any (hR6.same hal) hT6 (by decide)); clear h6 hR6 hal hT6))
    | (go_at_call 15; ((with_reducible refine (hQ6.out).mono ?_); rintro e w7 ⟨rfl, ho7⟩; have hP7 := (h6H.out.same hal6.out).same ho7; have hLn := Lib.hid hP7.len; have hP7H := Lib.hid hP7; clear hP7 ho7))
    | (go_at_call 20; ((with_reducible refine (hLn.out).mono ?_); rintro e w' ⟨rfl, rfl⟩)))
  all_goals go_ret
  exact ⟨rfl, hP7H.out.most⟩
end Go.Proofs.Ytbaghdfalhlhcaa
