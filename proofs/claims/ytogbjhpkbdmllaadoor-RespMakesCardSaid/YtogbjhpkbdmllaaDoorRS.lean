/-
  The walks of what makes replies of words: OK, Fail, Texts. A premise of Texts: the row of texts is shorter than 65537.
-/
import Derived.Test.YtogbjhpkbdmllaaDoorRO
namespace Go.Proofs.YtogbjhpkbdmllaaDoor
open Go.RowKit Rp Dec

theorem ok_any (w : World) : Calls Tryd.prog 16 #[] w fun e w' => e = .returned (.agg #[.int .i64 1, .int .i64 0, .string ⟨#[79, 75]⟩, .slice none 0 0]) ∧ Below w.heap.size w w' := by
  go_enter Tryd.func16, Tryd.ntmps16
  go_wp2_with fail
  exact bodyPost_ret (v := .agg #[.int .i64 1, .int .i64 0, .string ⟨#[79, 75]⟩, .slice none 0 0]) (by simp [results, Tryd.results16, go_sem]) rfl ⟨rfl, (Below.refl _ _).alloc (Nat.le_refl _) _⟩
theorem fail_any (s : ByteArray) (w : World) : Calls Tryd.prog 17 #[.string s] w fun e w' => e = .returned (.agg #[.int .i64 2, .int .i64 0, .string s, .slice none 0 0]) ∧ Below w.heap.size w w' := by
  go_enter Tryd.func17, Tryd.ntmps17
  go_wp2_with fail
  exact bodyPost_ret (v := .agg #[.int .i64 2, .int .i64 0, .string s, .slice none 0 0]) (by simp [results, Tryd.results17, go_sem]) rfl ⟨rfl, (Below.refl _ _).alloc (Nat.le_refl _) _⟩

/-- A row of texts that is read. -/
def TR (w : World) (a : Option Addr) (xs : List ByteArray) : Prop := ∀ i x, xs[i]? = some x → ∃ ad : Addr, a = some ad ∧ ad.block < w.heap.size ∧ w.cell? (ad.add i) = some (.string x)
theorem TR.on {w w' : World} {a : Option Addr} {xs : List ByteArray} (h : TR w a xs) (hb : Below w.heap.size w w') : TR w' a xs := fun i x hx => by
  obtain ⟨ad, h1, h2, h3⟩ := h i x hx
  exact ⟨ad, h1, Nat.lt_of_lt_of_le h2 hb.size, (hb.cell (p := ad.add i) (by rw [block_of_add]; exact h2)).trans h3⟩
def bulkX (xs : List ByteArray) : List (Int × Int × ByteArray) := xs.map fun s => (4, 0, s)
theorem bulk_ok {xs : List ByteArray} (h : ∀ x ∈ xs, x.size ≤ 140737488355328) : ∀ x ∈ bulkX xs, flatOk x := by
  intro x hx
  obtain ⟨s, hs, rfl⟩ := List.mem_map.1 hx
  exact ⟨by show inI64 4; unfold inI64; decide, by show inI64 0; unfold inI64; decide, h s hs⟩
theorem bulk_step {xs : List ByteArray} {c : Nat} {x : ByteArray} (h : xs[c]? = some x) : flats (bulkX (xs.take (c + 1))) = flats (bulkX (xs.take c)) ++ [.int .i64 4, .int .i64 0, .string x, .slice none 0 0] := by
  rw [List.take_add_one, h]
  simp [bulkX, flats, flatC]

theorem own_below {wr w' : World} {base n : Nat} {v : Value} {cs : List Value} (h : wr.ownsRow base 24 4 v n cs) (hb : Below wr.heap.size wr w') : w'.ownsRow base 24 4 v n cs := by
  refine h.kept (row := some w'.heap.size) (grown_of_below hb _) ?_
  right
  intro e
  have := (h.lt _ e).2
  have := hb.size
  omega
theorem one4 {a b : Int} {s : ByteArray} : ∀ u ∈ [Value.int .i64 a, .int .i64 b, .string s, .slice none 0 0], u.oneCell' = true := by
  intro u hu
  simp at hu
  rcases hu with rfl | rfl | rfl | rfl <;> rfl

set_option maxRecDepth 100000 in
set_option maxHeartbeats 2000000 in
theorem texts_any (xs : List ByteArray) (a : Option Addr) (cap : Nat) (w : World) (hl : xs.length ≤ 65536) (hT : TR w a xs) (hz : ∀ x ∈ xs, x.size ≤ 140737488355328) :
    Calls Tryd.prog 21 #[.slice a xs.length cap] w fun e w' => ∃ A cap', e = .returned (.agg #[.int .i64 6, .int .i64 0, .string ⟨#[]⟩, .slice A xs.length cap']) ∧ RAt w' (fun _ => True) 2 (manyR (bulkX xs)) [.int .i64 6, .int .i64 0, .string ⟨#[]⟩, .slice A xs.length cap'] ∧ Below w.heap.size w w' := by
  have hnew := Lib.hid (heap_alloc_new w (.cells #[.int .i64 0, .int .i64 0, .string ⟨#[]⟩, .slice none 0 0] 24))
  obtain ⟨i0, hi, hz0, hz1, hz2⟩ := info_parts reply_info
  have hzH := Lib.hid hz
  clear hz
  go_enter Tryd.func21, Tryd.ntmps21
  go_wp2_with fail
  have hb0 : Below (w.heap.size + 1) (w.alloc (.cells #[.int .i64 0, .int .i64 0, .string ⟨#[]⟩, .slice none 0 0] 24)) (w.alloc (.cells #[.int .i64 0, .int .i64 0, .string ⟨#[]⟩, .slice none 0 0] 24)) := Below.refl _ _
  have hTH := Lib.hid (hT.on (one_box' (w := w) (o := .cells #[.int .i64 0, .int .i64 0, .string ⟨#[]⟩, .slice none 0 0] 24)))
  clear hT
  go_loopw [3, 8] (fun v i wr => ∃ (c : Nat), i = .int .i64 c ∧ c ≤ xs.length ∧ wr.ownsRow (w.heap.size + 1) 24 4 v c (flats (bulkX (xs.take c))) ∧ Below (w.heap.size + 1) (w.alloc (.cells #[.int .i64 0, .int .i64 0, .string ⟨#[]⟩, .slice none 0 0] 24)) wr) (fun _ i _ => xs.length - (intOf i).toNat)
  case atStart => exact ⟨0, rfl, by omega, World.ownsRow_nil _ _ _ _, hb0⟩
  case round =>
    clear hb0
    obtain ⟨c, rfl, hc, hown, hb⟩ := hrel
    by_cases hlt : c < xs.length
    · obtain ⟨x, hx⟩ : ∃ x, xs[c]? = some x := ⟨_, List.getElem?_eq_getElem hlt⟩
      obtain ⟨ad, rfl, _, hcell⟩ := (hTH.out.on (w' := wr) (hb.mono (by simp))) c x hx
      have hbs : w.heap.size + 1 ≤ wr.heap.size := by have := hb.size; simpa using this
      go_wp2_with (first
        | (go_at_call 19; ((with_reducible refine (textr_any x _).mono ?_); rintro e w1 ⟨rfl, hb1⟩; have hown1 := own_below hown hb1; have hbw := hb.trans (hb1.mono hbs)))
        | (at_builtin; refine wpList_append_own_at _ rfl (.tmp 12) (.tmp 15) 22 rfl (w.heap.size + 1) 24 i0 _ 4 56 Tryd.underlying22 hi hz0 hz1 hz2 rfl (by decide) u3 c (flats (bulkX (xs.take c))) rfl (hown1.alloc _) ⟨w1.heap.size, 0, none⟩ 1 1 [.int .i64 4, .int .i64 0, .string x, .slice none 0 0] rfl rfl (new_cells _ [.int .i64 4, .int .i64 0, .string x, .slice none 0 0]) one4 (by unfold maxLen; omega) (by omega) (by have := hbw.size; simp at this ⊢; omega) ?_))
      intro v' w' hown' hgrow _ hloc
      rw [← bulk_step hx] at hown'
      have hbN := (hbw.alloc (by have := hbw.size; simpa using this) (.cells #[.int .i64 4, .int .i64 0, .string x, .slice none 0 0] 24)).grown hgrow (by have := hbw.size; simp at this ⊢; omega) (fun k hk => (hown1.lt k hk).1)
      clear hgrow hloc hown hown1 hcell
      go_wp2_with fail
      go_roundw
      case rel => exact ⟨c + 1, by go_num, by omega, hown', hbN⟩
      case measure => simp [intOf]; omega
    · obtain rfl : c = xs.length := by omega
      rw [List.take_length] at hown
      have hlen : (bulkX xs).length = xs.length := by simp [bulkX]
      obtain ⟨A, cap', hv, hr⟩ := many_at (flat_row (xs := bulkX xs) (by rw [hlen]; exact hown) (bulk_ok hzH.out)) (by omega)
      rw [hlen] at hv
      subst hv
      have hzz : w.heap.size < wr.heap.size := by have := hb.size; simp at this; omega
      obtain ⟨c0, c1, c2, c3, f0, f1, f2, f3⟩ := cells4 hb hnew.out (Nat.lt_succ_self _)
      go_wp2_with fail
      have hl2 := laid4 (v0 := .int .i64 6) (v1 := .int .i64 0) (v2 := .string ⟨#[]⟩) (v3 := .slice A xs.length cap') ((hb.block w.heap.size (Nat.lt_succ_self _)).trans hnew.out)
      have hB := Lib.hid (ret_below' hb (v0 := .int .i64 6) (v1 := .int .i64 0) (v2 := .string ⟨#[]⟩) (v3 := .slice A xs.length cap'))
      have hO := Lib.hid (hr.keep (W' := ((((wr.setCell ⟨w.heap.size, 0, none⟩ (.int .i64 6)).setCell ⟨w.heap.size, 1, none⟩ (.int .i64 0)).setCell ⟨w.heap.size, 2, none⟩ (.string ⟨#[]⟩)).setCell ⟨w.heap.size, 3, none⟩ (.slice A xs.length cap'))) (ok' := fun _ => True) (fun p hp _ => put_other p (by omega)) (by simp) (fun _ _ _ => trivial))
      generalize ((((wr.setCell ⟨w.heap.size, 0, none⟩ (.int .i64 6)).setCell ⟨w.heap.size, 1, none⟩ (.int .i64 0)).setCell ⟨w.heap.size, 2, none⟩ (.string ⟨#[]⟩)).setCell ⟨w.heap.size, 3, none⟩ (.slice A xs.length cap')) = w2 at hl2 hB hO ⊢
      obtain ⟨d0, d1, d2, d3⟩ := read4 hl2
      refine bodyPost_ret (v := .agg #[.int .i64 6, .int .i64 0, .string ⟨#[]⟩, .slice A xs.length cap']) (by simp [results, Tryd.results21, go_sem, d0, d1, d2, d3]) rfl ?_
      exact ⟨A, cap', rfl, hO.out, hB.out⟩

end Go.Proofs.YtogbjhpkbdmllaaDoor
