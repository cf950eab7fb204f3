/-
  The walks of what makes replies of replies and of texts. A premise: the replies that are handed on have no others.
-/
import Derived.Test.YtogbjhpkbdmllaaDoorRG
namespace Go.Proofs.YtogbjhpkbdmllaaDoor
open Go.RowKit Rp Dec

/-- A reply that has no others: kind, number, text. -/
def flatC (x : Int × Int × ByteArray) : List Value := [.int .i64 x.1, .int .i64 x.2.1, .string x.2.2, .slice none 0 0]
def flats (xs : List (Int × Int × ByteArray)) : List Value := xs.flatMap flatC
theorem flats_len (xs : List (Int × Int × ByteArray)) : (flats xs).length = xs.length * 4 := by
  induction xs with
  | nil => rfl
  | cons x xs ih => simp [flats, flatC] at ih ⊢; omega
theorem flats_one (xs : List (Int × Int × ByteArray)) : ∀ u ∈ flats xs, u.oneCell' = true := by
  intro u hu
  obtain ⟨x, _, hx⟩ := List.mem_flatMap.1 hu
  simp [flatC] at hx
  rcases hx with rfl | rfl | rfl | rfl <;> rfl

theorem flats_at (xs : List (Int × Int × ByteArray)) : ∀ (k : Nat) (h : k < xs.length) (j : Nat), j < 4 → (flats xs)[k * 4 + j]? = (flatC xs[k])[j]? := by
  intro k h j hj
  have := flat_get (xs.map flatC) (by intro c hc; obtain ⟨x, _, rfl⟩ := List.mem_map.1 hc; rfl) k j (flatC xs[k]) (by simp [h]) hj
  rw [← this]
  simp [flats, List.flatMap]
theorem flats_sub (xs : List (Int × Int × ByteArray)) (k : Nat) (h : k < xs.length) : (flats xs)[k * 4 + 3]? = some (.slice none 0 0) := by
  rw [flats_at xs k h 3 (by decide)]; rfl
theorem one_box' {w : World} {o : Obj} : Below w.heap.size w (w.alloc o) := (Below.refl _ _).alloc (Nat.le_refl _) _
set_option maxRecDepth 100000 in
set_option maxHeartbeats 1000000 in
theorem clone_nil (w : World) : Calls Tryd.prog 44 #[.slice none 0 0] w fun e w' => e = .returned (.slice none 0 0) ∧ w = w' := by
  have qE : ∀ (w : World) (a : Option Addr) (n c n' c' : Nat), (binOp .eql 22 (.slice a n c) (.slice none n' c')).run Tryd.prog w = .ok (.bool a.isNone) w := fun w a n c n' c' => Lib.run_eql_slice_nil w 22 24 a n c n' c' Tryd.underlying22
  go_enter Tryd.func44, Tryd.ntmps44
  go_wp2_with fail
  go_ret
  exact ⟨rfl, rfl⟩
set_option maxRecDepth 100000 in
set_option maxHeartbeats 1000000 in
theorem clone_flat (xs : List (Int × Int × ByteArray)) (ad : Addr) (cap : Nat) (w : World) (hl : xs.length ≤ 65536) (hbk : ∀ j u, (flats xs)[j]? = some u → (ad.add j).block < w.heap.size) (hc : ∀ j u, (flats xs)[j]? = some u → w.cell? (ad.add j) = some u) :
    Calls Tryd.prog 44 #[.slice (some ad) xs.length cap] w fun e w' => ∃ v, e = .returned v ∧ w'.ownsRow w.heap.size 24 4 v xs.length (flats xs) ∧ Below w.heap.size w w' := by
  obtain ⟨i0, hi, hz0, hz1, hz2⟩ := info_parts reply_info
  have qE : ∀ (w : World) (a : Option Addr) (n c n' c' : Nat), (binOp .eql 22 (.slice a n c) (.slice none n' c')).run Tryd.prog w = .ok (.bool a.isNone) w := fun w a n c n' c' => Lib.run_eql_slice_nil w 22 24 a n c n' c' Tryd.underlying22
  go_enter Tryd.func44, Tryd.ntmps44
  go_wp2_with (at_builtin; refine wpList_append_own_at _ rfl (.tmp 5) (.tmp 6) 22 rfl w.heap.size 24 i0 _ 4 56 Tryd.underlying22 hi hz0 hz1 hz2 rfl (by decide) (.slice (some ⟨w.heap.size, 0, none⟩) 0 0) 0 [] rfl (World.ownsRow_made w #[] 0 (Nat.le_refl _) (by decide) rfl) ad xs.length cap (flats xs) rfl (flats_len xs) ?c1 (flats_one xs) (by unfold maxLen; omega) (by omega) (by simp) ?_)
  case c1 =>
    intro j u hu
    exact (World.cell?_alloc_lt w _ _ (hbk j u hu)).trans (hc j u hu)
  intro v' w' hown' hgrow _ hloc
  have hB := (one_box' (w := w) (o := .cells #[] 24)).grown hgrow (by simp) (fun k hk => by simp [Value.ownBlock] at hk; omega)
  clear hgrow hloc
  go_wp2_with fail
  go_ret
  exact ⟨_, rfl, hown', hB⟩

theorem setCell_same {W : World} {b o : Nat} {v : Value} (h : W.cell? ⟨b, o, none⟩ = some v) : W.setCell ⟨b, o, none⟩ v = W := by
  cases hb : W.heap[b]? with
  | none => simp [World.cell?, hb] at h
  | some x =>
    cases x with
    | cells c e f =>
      rw [Lib.cell_of_heap hb o] at h
      obtain ⟨ho, _⟩ := Array.getElem?_eq_some_iff.1 h
      have hset : c.setIfInBounds o v = c := by
        apply Array.ext_getElem?
        intro i
        rw [Array.getElem?_setIfInBounds]
        split
        · rename_i e; subst e; exact h.symm
        · rfl
      have hm : (W.setCell ⟨b, o, none⟩ v).heap = W.heap := by
        apply Array.ext_getElem?
        intro i
        by_cases hi : i = b
        · subst hi
          simp [World.setCell, Array.getElem?_modify, hb, hset]
        · exact Below.heap_setCell _ _ _ _ (fun e => hi e)
      cases W
      simp only [World.setCell] at hm ⊢
      simpa using hm
    | _ => simp [World.cell?, hb] at h

set_option maxRecDepth 100000 in
set_option maxHeartbeats 1000000 in
theorem copied_nil (w : World) : Calls Tryd.prog 28 #[.slice none 0 0] w fun e w' => e = .returned (.slice none 0 0) ∧ w = w' := by
  go_enter Tryd.func28, Tryd.ntmps28
  go_wp2_with (go_at_call 44; ((with_reducible refine (clone_nil _).mono ?_); rintro e w' ⟨rfl, rfl⟩))
  go_loop [9] (fun i => i = .int .i64 0) (fun _ => 0)
  case atStart => rfl
  case round =>
    subst hrel
    go_wp2_with fail
    go_ret
    exact ⟨rfl, rfl⟩
set_option maxRecDepth 100000 in
set_option maxHeartbeats 1000000 in
theorem copied_flat (xs : List (Int × Int × ByteArray)) (ad : Addr) (cap : Nat) (w : World) (h0 : 0 < xs.length) (hl : xs.length ≤ 65536) (hbk : ∀ j u, (flats xs)[j]? = some u → (ad.add j).block < w.heap.size) (hc : ∀ j u, (flats xs)[j]? = some u → w.cell? (ad.add j) = some u) :
    Calls Tryd.prog 28 #[.slice (some ad) xs.length cap] w fun e w' => ∃ v, e = .returned v ∧ w'.ownsRow w.heap.size 24 4 v xs.length (flats xs) ∧ Below w.heap.size w w' := by
  have hcl := clone_flat xs ad cap w hl hbk hc
  have hcl2 : Calls Tryd.prog 44 #[.slice (some ad) xs.length cap] w fun e w' => ∃ g cp, e = .returned (.slice (some ⟨g, 0, none⟩) xs.length cp) ∧ w'.ownsRow w.heap.size 24 4 (.slice (some ⟨g, 0, none⟩) xs.length cp) xs.length (flats xs) ∧ Below w.heap.size w w' := hcl.mono fun e w' ⟨v, he, hown, hb⟩ => by
    obtain ⟨g, cp, hv, _⟩ := hown.form h0
    subst hv
    exact ⟨g, cp, he, hown, hb⟩
  clear hcl
  go_enter Tryd.func28, Tryd.ntmps28
  go_wp2_with (go_at_call 44; ((with_reducible refine hcl2.mono ?_); rintro e w1 ⟨g, cp, rfl, hown, hb⟩))
  go_loopw [9] (fun i wr => ∃ k : Nat, i = .int .i64 k ∧ k ≤ xs.length ∧ wr = w1) (fun i _ => xs.length - (intOf i).toNat)
  case atStart => exact ⟨0, rfl, by omega, rfl⟩
  case round =>
    obtain ⟨k, rfl, hk, rfl⟩ := hrel
    by_cases hlt : k < xs.length
    · have hcell : ∀ j u, (flats xs)[k * 4 + j]? = some u → wr.cell? ⟨g, k * 4 + j, none⟩ = some u := by
        intro j u hu
        have := hown.cells (g := g) rfl (k * 4 + j) u hu
        have e : (⟨g, 0, none⟩ : Addr).add (k * 4 + j) = ⟨g, k * 4 + j, none⟩ := by unfold Addr.add; split <;> simp_all
        rwa [e] at this
      have c3 := hcell 3 (.slice none 0 0) (flats_sub xs k hlt)
      have f3 : wr.frozen? ⟨g, k * 4 + 3, none⟩ = false := hown.frozenAt _
      go_wp2_with (go_at_call 28; ((with_reducible refine (copied_nil _).mono ?_); rintro e w' ⟨rfl, rfl⟩))
      go_roundw
      case rel => exact ⟨k + 1, by go_num, by omega, setCell_same c3⟩
      case measure => simp [intOf]; omega
    · go_wp2_with fail
      go_ret
      exact ⟨_, rfl, hown, hb⟩

/-- A reply of no others, as the mathematics has it. -/
def flatR (x : Int × Int × ByteArray) : Rep 1 := (⟨x.1, x.2.1, x.2.2.data.toList, []⟩ : RNode (Rep 0))
def flatOk (x : Int × Int × ByteArray) : Prop := inI64 x.1 ∧ inI64 x.2.1 ∧ x.2.2.size ≤ 140737488355328
theorem flat_at {W : World} {ok : Nat → Prop} {x : Int × Int × ByteArray} (h : flatOk x) : RAt W ok 1 (flatR x) (flatC x) :=
  ⟨x.2.2, none, 0, rfl, rfl, h.1, h.2.1, h.2.2, by simp [flatR], fun i y hy => by simp [flatR] at hy⟩
theorem flat_row {W : World} {base : Nat} {v : Value} {xs : List (Int × Int × ByteArray)} (hown : W.ownsRow base 24 4 v xs.length (flats xs)) (hok : ∀ x ∈ xs, flatOk x) : Row W base 1 v (xs.map flatR) := by
  refine ⟨xs.map flatC, ?_, by simp, ?_, fun i y hy => ?_⟩
  · rw [List.length_map]
    simpa [flats, List.flatMap] using hown
  · intro c hc; obtain ⟨x, _, rfl⟩ := List.mem_map.1 hc; rfl
  · rw [List.getElem?_map] at hy
    cases hx : xs[i]? with
    | none => rw [hx] at hy; cases hy
    | some x =>
      rw [hx] at hy
      simp at hy
      subst hy
      exact ⟨flatC x, by simp [hx], flat_at (hok x (List.mem_of_getElem? hx))⟩
def manyR (xs : List (Int × Int × ByteArray)) : Rep 2 := (⟨6, 0, [], xs.map flatR⟩ : RNode (Rep 1))
theorem many_at {W : World} {base : Nat} {v : Value} {xs : List (Int × Int × ByteArray)} (hR : Row W base 1 v (xs.map flatR)) (hl : xs.length ≤ 65536) : ∃ A cap, v = .slice A xs.length cap ∧ RAt W (fun b => base ≤ b) 2 (manyR xs) [.int .i64 6, .int .i64 0, .string ⟨#[]⟩, v] := by
  obtain ⟨A, cap, hv, _, hs⟩ := hR.sub
  rw [List.length_map] at hv
  refine ⟨A, cap, hv, ⟨#[]⟩, A, cap, ?_, rfl, by show inI64 6; unfold inI64; omega, by show inI64 0; unfold inI64; omega, Nat.zero_le _, by show (xs.map flatR).length ≤ _; simp; omega, hs⟩
  show (_ : List Value) = [Value.int .i64 6, .int .i64 0, .string ⟨#[]⟩, .slice A (xs.map flatR).length cap]
  rw [hv, List.length_map]
set_option maxRecDepth 100000 in
set_option maxHeartbeats 1000000 in
theorem many_flat (xs : List (Int × Int × ByteArray)) (ad : Addr) (cap : Nat) (w : World) (h0 : 0 < xs.length) (hl : xs.length ≤ 65536) (hok : ∀ x ∈ xs, flatOk x) (hbk : ∀ j u, (flats xs)[j]? = some u → (ad.add j).block < w.heap.size) (hc : ∀ j u, (flats xs)[j]? = some u → w.cell? (ad.add j) = some u) :
    Calls Tryd.prog 20 #[.slice (some ad) xs.length cap] w fun e w' => ∃ A cap', e = .returned (.agg #[.int .i64 6, .int .i64 0, .string ⟨#[]⟩, .slice A xs.length cap']) ∧ RAt w' (fun _ => True) 2 (manyR xs) [.int .i64 6, .int .i64 0, .string ⟨#[]⟩, .slice A xs.length cap'] ∧ Below w.heap.size w w' := by
  have hnew := Lib.hid (heap_alloc_new w (.cells #[.int .i64 0, .int .i64 0, .string ⟨#[]⟩, .slice none 0 0] 24))
  have hc2 : ∀ w1, Below w.heap.size w w1 → Calls Tryd.prog 28 #[.slice (some ad) xs.length cap] w1 fun e w' => ∃ A cap', e = .returned (.slice A xs.length cap') ∧ RAt w' (fun b => w1.heap.size ≤ b) 2 (manyR xs) [.int .i64 6, .int .i64 0, .string ⟨#[]⟩, .slice A xs.length cap'] ∧ Below w1.heap.size w1 w' := fun w1 hb => by
    refine (copied_flat xs ad cap w1 h0 hl (fun j u hu => Nat.lt_of_lt_of_le (hbk j u hu) hb.size) (fun j u hu => (hb.cell (hbk j u hu)).trans (hc j u hu))).mono fun e w' ⟨v, he, hown, hb2⟩ => ?_
    obtain ⟨A, cap', hv, hr⟩ := many_at (flat_row hown hok) hl
    subst hv
    exact ⟨A, cap', he, hr, hb2⟩
  have hcall := hc2 _ (one_box' (w := w) (o := .cells #[.int .i64 0, .int .i64 0, .string ⟨#[]⟩, .slice none 0 0] 24))
  clear hc2 hc hbk hok
  go_enter Tryd.func20, Tryd.ntmps20
  go_wp2_with (go_at_call 28; ((with_reducible refine hcall.mono ?_); rintro e w1 ⟨A, cap', rfl, hr, hb⟩; obtain ⟨c0, c1, c2, c3, f0, f1, f2, f3⟩ := cells4 hb hnew.out (by simp)))
  have hl := laid4 (v0 := .int .i64 6) (v1 := .int .i64 0) (v2 := .string ⟨#[]⟩) (v3 := .slice A xs.length cap') ((hb.block w.heap.size (by simp)).trans hnew.out)
  have hB := Lib.hid (ret_below hb (v0 := .int .i64 6) (v1 := .int .i64 0) (v2 := .string ⟨#[]⟩) (v3 := .slice A xs.length cap'))
  have hO := Lib.hid (hr.keep (W' := ((((w1.setCell ⟨w.heap.size, 0, none⟩ (.int .i64 6)).setCell ⟨w.heap.size, 1, none⟩ (.int .i64 0)).setCell ⟨w.heap.size, 2, none⟩ (.string ⟨#[]⟩)).setCell ⟨w.heap.size, 3, none⟩ (.slice A xs.length cap'))) (ok' := fun _ => True) (fun p hp _ => put_other p (by simp at hp; omega)) (by simp) (fun _ _ _ => trivial))
  generalize ((((w1.setCell ⟨w.heap.size, 0, none⟩ (.int .i64 6)).setCell ⟨w.heap.size, 1, none⟩ (.int .i64 0)).setCell ⟨w.heap.size, 2, none⟩ (.string ⟨#[]⟩)).setCell ⟨w.heap.size, 3, none⟩ (.slice A xs.length cap')) = w2 at hl hB hO ⊢
  obtain ⟨d0, d1, d2, d3⟩ := read4 hl
  refine bodyPost_ret (v := .agg #[.int .i64 6, .int .i64 0, .string ⟨#[]⟩, .slice A xs.length cap']) (by simp [results, Tryd.results20, go_sem, d0, d1, d2, d3]) rfl ?_
  exact ⟨A, cap', rfl, hO.out, hB.out⟩

end Go.Proofs.YtogbjhpkbdmllaaDoor
