/-
  The walk of one step. Premises: how the holder lies, and that numbers are small; the library's variable ErrSyntax holds an error, or none.
-/
import Derived.Test.YtjidopgohdlfdaaGreatDoorQI
namespace Go.Proofs.YtjidopgohdlfdaaGreatDoor
open Go.RowKit Dec Pq S4

section
variable {w0 W : World} {g A B L : Nat} {q : List MR}
theorem lineF_nil : lineF A B L [] = .inl (-1) := by
  unfold lineF oneF
  rw [lineGo, if_neg (by simp)]
theorem start_line {c : UInt8} {t : List UInt8} (h : c ≠ 42) : startF A B L (c :: t) = lineF A B L (c :: t) := by
  unfold startF lineF
  simp only []
  rw [if_neg h]
  rfl
theorem start_count {t : List UInt8} : startF A B L (42 :: t) = countF A (42 :: t) := by
  unfold startF countF
  simp only []
  rw [if_pos trivial]
  rfl
theorem step_none {rest : ByteArray} : stepF A B L (MI.none rest).inp = startF A B L rest.data.toList := by
  unfold stepF
  exact if_pos rfl
/-- The numbers are such that all sums fit. -/
def Small (q : List MR) (x : MI) : Prop := q.length + x.size + x.rest.size ≤ 1000000000
theorem none_of {x : MI} (h : x.Ok A) (h0 : x.left = 0) : x = MI.none x.rest := by
  obtain ⟨h1, h2, h3, h4⟩ := h.1 h0
  cases x
  simp only at h0 h1 h2 h3 h4
  subst h0 h1 h2 h3 h4
  rfl
theorem step_fin {f : FuncId} {args : Array Value} {x : MI} {R R' : Sum Int (Inp × List Rq)} (h : Calls Tryz.prog f args W (StepEnd w0 g A B L x q R)) (hR : R' = R) : Calls Tryz.prog f args W fun e w' => ∃ b k, e = .returned (.tuple #[.bool b, .int .i64 k]) ∧ Hid (StepEnd w0 g A B L x q R' (.returned (.tuple #[.bool b, .int .i64 k])) w') := by
  subst hR
  refine h.mono fun e w' h => ?_
  have h' := h
  unfold StepEnd at h'
  cases R' with
  | inl k => obtain ⟨_, rfl⟩ := h'; exact ⟨_, _, rfl, Lib.hid h⟩
  | inr p => obtain ⟨_, _, _, _, _, _, _, rfl⟩ := h'; exact ⟨_, _, rfl, Lib.hid h⟩
set_option maxRecDepth 100000 in
set_option maxHeartbeats 2000000 in
theorem step_any {x : MI} (hR : RD w0 g A B L x q W) (hok : x.Ok A) (hsz : Small q x) (hA : A ≤ 65536) (hB : B ≤ 1048576) (hL : L ≤ 65536) (hE : ErrAt W) :
    Calls Tryz.prog 59 #[.pointer (some ⟨g, 0, none⟩)] W (StepEnd w0 g A B L x q (stepF A B L x.inp)) := by
  unfold Small at hsz
  obtain ⟨u, v, hh, hH, hnu⟩ := hR
  obtain ⟨c0, c1, c2, c3, c4, c5, c6, c7, c8, c9, c10, f0, f1, f2, f3, f4, f5, f6, f7⟩ := hold_facts hh
  have hR : RD w0 g A B L x q W := ⟨u, v, hh, hH, hnu⟩
  by_cases h0 : x.left = 0
  · have hx := none_of hok h0
    obtain ⟨rest, hrest⟩ : ∃ r, r = x.rest := ⟨_, rfl⟩
    rw [← hrest] at hx
    subst hx
    change W.cell? ⟨g, 0, none⟩ = some (.string rest) at c0
    change W.cell? ⟨g, 2, none⟩ = some (.int .i64 0) at c2
    change q.length + 0 + rest.size ≤ 1000000000 at hsz
    clear hrest
    by_cases h42 : ∃ t, rest.data.toList = 42 :: t
    · obtain ⟨t, ht⟩ := h42
      have hC := Lib.hid (step_fin (count_any hR (by omega) hA) (show stepF A B L (MI.none rest).inp = countF A rest.data.toList by rw [step_none, ht, start_count]))
      have hne : rest.data.toList ≠ [] := by rw [ht]; simp
      have he : rest.toList.isEmpty = false := by rw [Lib.toList_data]; simpa using hne
      have hpos : 0 < rest.size := by rw [← size_len, ht]; simp
      have h42 : ((rest[(0 : Nat)].toNat : Int) == 42) = true := by
        have hcons := str_cons rest 0 hpos
        rw [List.drop_zero, ht] at hcons
        rw [← (List.cons.inj hcons).1]; rfl
      clear hR hh hH hE hok ht h0 hne
      go_enter Tryz.func59, Tryz.ntmps59
      go_wp2_with (go_at_call 75; ((with_reducible refine hC.out.mono ?_); rintro e w' ⟨b, k, rfl, hq⟩))
      refine bodyPost_ret (v := .tuple #[.bool b, .int .i64 k]) (by simp [results, Tryz.results59, go_sem]) rfl hq.out
    · have hC := Lib.hid (step_fin (wholeLine_any hR (by omega) hA hL hE) (show stepF A B L (MI.none rest).inp = lineF A B L rest.data.toList by
        rw [step_none]
        cases hs : rest.data.toList with
        | nil => rw [lineF_nil]; rfl
        | cons c t => exact start_line (fun e => h42 ⟨t, by rw [hs, e]⟩)))
      by_cases hem : rest.data.toList = []
      · have he : rest.toList = [] := by rw [Lib.toList_data, hem]
        clear hR hh hH hE hok h0 hem h42
        go_enter Tryz.func59, Tryz.ntmps59
        go_wp2_with (go_at_call 76; ((with_reducible refine hC.out.mono ?_); rintro e w' ⟨b, k, rfl, hq⟩))
        refine bodyPost_ret (v := .tuple #[.bool b, .int .i64 k]) (by simp [results, Tryz.results59, go_sem]) rfl hq.out
      · have he : rest.toList.isEmpty = false := by rw [Lib.toList_data]; simpa using hem
        have hpos : 0 < rest.size := by
          rcases Nat.eq_zero_or_pos rest.size with h | h
          · exact absurd (List.eq_nil_of_length_eq_zero (by rw [size_len]; exact h)) hem
          · exact h
        have hn42 : ((rest[(0 : Nat)].toNat : Int) == 42) = false := by
          refine beq_eq_false_iff_ne.2 fun e => h42 ⟨rest.data.toList.drop 1, ?_⟩
          have hcons := str_cons rest 0 hpos
          rw [List.drop_zero] at hcons
          have e2 : rest[(0 : Nat)] = 42 := S4.byte_of (n := 42) (by decide) e
          rw [e2] at hcons
          exact hcons
        clear hR hh hH hE hok h0 hem h42
        go_enter Tryz.func59, Tryz.ntmps59
        go_wp2_with (go_at_call 76; ((with_reducible refine hC.out.mono ?_); rintro e w' ⟨b, k, rfl, hq⟩))
        refine bodyPost_ret (v := .tuple #[.bool b, .int .i64 k]) (by simp [results, Tryz.results59, go_sem]) rfl hq.out
  · have hl : (0 : Int) < x.left := by omega
    cases hb : x.body with
    | true =>
      have hC := Lib.hid (step_fin (argument_any hR h0 hok hsz hA) (show stepF A B L x.inp = bodyF x.inp by
        unfold stepF
        rw [if_neg (show ¬ x.inp.left = 0 from h0), if_neg (show ¬ x.inp.body = false by show ¬ x.body = false; rw [hb]; decide)]))
      rw [hb] at c4
      clear hR hh hH hE hok h0 hb
      go_enter Tryz.func59, Tryz.ntmps59
      go_wp2_with (go_at_call 73; ((with_reducible refine hC.out.mono ?_); rintro e w' ⟨b, k, rfl, hq⟩))
      refine bodyPost_ret (v := .tuple #[.bool b, .int .i64 k]) (by simp [results, Tryz.results59, go_sem]) rfl hq.out
    | false =>
      have hC := Lib.hid (step_fin (length_any hR h0 hok hsz hB) (show stepF A B L x.inp = headF B x.inp by
        unfold stepF
        rw [if_neg (show ¬ x.inp.left = 0 from h0), if_pos (show x.inp.body = false from hb)]))
      rw [hb] at c4
      clear hR hh hH hE hok h0 hb
      go_enter Tryz.func59, Tryz.ntmps59
      go_wp2_with (go_at_call 74; ((with_reducible refine hC.out.mono ?_); rintro e w' ⟨b, k, rfl, hq⟩))
      refine bodyPost_ret (v := .tuple #[.bool b, .int .i64 k]) (by simp [results, Tryz.results59, go_sem]) rfl hq.out
end
end Go.Proofs.YtjidopgohdlfdaaGreatDoor
