/-
  The walk of the law of what is said in a word. A premise: the library's table of powers of ten holds what its initialiser lays.
-/
import Derived.Test.YtogbjhpkbdmllaaDoorRS
namespace Go.Proofs.YtogbjhpkbdmllaaDoor
open Go.RowKit Rp Dec

set_option maxRecDepth 100000 in
theorem many_nil (w : World) : Calls Tryd.prog 20 #[.slice none 0 0] w fun e w' => e = .returned (.agg #[.int .i64 6, .int .i64 0, .string ⟨#[]⟩, .slice none 0 0]) ∧ Below w.heap.size w w' := by
  go_enter Tryd.func20, Tryd.ntmps20
  go_wp2_with (go_at_call 28; ((with_reducible refine (copied_nil _).mono ?_); rintro e w' ⟨rfl, rfl⟩))
  exact bodyPost_ret (v := .agg #[.int .i64 6, .int .i64 0, .string ⟨#[]⟩, .slice none 0 0]) (by simp [results, Tryd.results20, go_sem]) rfl ⟨rfl, (Below.refl _ _).alloc (Nat.le_refl _) _⟩
theorem bulk_len (xs : List ByteArray) : (bulkX xs).length = xs.length := by simp [bulkX]
theorem all_at {w : World} {base : Nat} {v : Value} {xs : List ByteArray} (hown : w.ownsRow base 24 4 v xs.length (flats (bulkX xs))) (hl : xs.length ≤ 65536) (hz : ∀ x ∈ xs, x.size ≤ 140737488355328) :
    RAt w (fun _ => True) 2 (manyR (bulkX xs)) [.int .i64 6, .int .i64 0, .string ⟨#[]⟩, v] := by
  obtain ⟨A, cap', hv, hr⟩ := many_at (flat_row (xs := bulkX xs) (by rw [bulk_len]; exact hown) (bulk_ok hz)) (by rw [bulk_len]; exact hl)
  exact hr.weaken fun _ _ _ => trivial
theorem many_call {w : World} {base : Nat} {v : Value} {xs : List ByteArray} (hown : w.ownsRow base 24 4 v xs.length (flats (bulkX xs))) (h0 : xs.length = 0 → v = .slice none 0 0) (hl : xs.length ≤ 65536) (hz : ∀ x ∈ xs, x.size ≤ 140737488355328) (W : World) (hb : Below w.heap.size w W) :
    Calls Tryd.prog 20 #[v] W fun e w' => ∃ u, e = .returned (.agg #[.int .i64 6, .int .i64 0, .string ⟨#[]⟩, u]) ∧ RAt w' (fun _ => True) 2 (manyR (bulkX xs)) [.int .i64 6, .int .i64 0, .string ⟨#[]⟩, u] ∧ Below W.heap.size W w' := by
  rcases Nat.eq_zero_or_pos xs.length with hx | hx
  · obtain rfl := h0 hx
    obtain rfl := List.eq_nil_of_length_eq_zero hx
    refine (many_nil W).mono fun e w' ⟨he, hb'⟩ => ⟨_, he, ?_, hb'⟩
    exact all_at (base := 0) (World.ownsRow_nil _ _ _ _) (by decide) (by simp)
  · obtain ⟨g, cp, hv, _⟩ := hown.form hx
    subst hv
    have hlt := (hown.lt g rfl).2
    have h := many_flat (bulkX xs) ⟨g, 0, none⟩ cp W (by rw [bulk_len]; exact hx) (by rw [bulk_len]; exact hl) (bulk_ok hz) (fun j u _ => by rw [block_of_add]; exact Nat.lt_of_lt_of_le hlt hb.size) (fun j u hu => (hb.cell (p := (⟨g, 0, none⟩ : Addr).add j) (by rw [block_of_add]; exact hlt)).trans (hown.cells (g := g) rfl j u hu))
    rw [bulk_len] at h
    exact h.mono fun _ _ ⟨_, _, he, hr, hb'⟩ => ⟨_, he, hr, hb'⟩
theorem slice_of {w : World} {base : Nat} {v : Value} {n : Nat} {cs : List Value} (h : w.ownsRow base 24 4 v n cs) : ∃ A cap, v = .slice A n cap := by
  rcases h.2 with ⟨hv, h0⟩ | ⟨g, cap, _, hv, _⟩
  · exact ⟨none, 0, by rw [hv, h0]⟩
  · exact ⟨_, cap, hv⟩
theorem texts_call {w : World} {a : Option Addr} {cap : Nat} {xs : List ByteArray} (hT : TR w a xs) (hl : xs.length ≤ 65536) (hz : ∀ x ∈ xs, x.size ≤ 140737488355328) (W : World) (hb : Below w.heap.size w W) :
    Calls Tryd.prog 21 #[.slice a xs.length cap] W fun e w' => ∃ u, e = .returned (.agg #[.int .i64 6, .int .i64 0, .string ⟨#[]⟩, u]) ∧ RAt w' (fun _ => True) 2 (manyR (bulkX xs)) [.int .i64 6, .int .i64 0, .string ⟨#[]⟩, u] ∧ Below W.heap.size W w' :=
  (texts_any xs a cap W hl (hT.on hb) hz).mono fun _ _ ⟨_, _, he, hr, hb'⟩ => ⟨_, he, hr, hb'⟩
/-- Two that are the same. -/
theorem same_leaf (k n : Int) (s : ByteArray) (hk : inI64 k) (hn : inI64 n) (hs : s.size ≤ 140737488355328) (W : World) : Calls Tryd.prog 13 #[.agg #[.int .i64 k, .int .i64 n, .string s, .slice none 0 0], .agg #[.int .i64 k, .int .i64 n, .string s, .slice none 0 0]] W fun e w' => e = .returned (.bool true) ∧ Below W.heap.size W w' := by
  obtain ⟨r, hr⟩ : ∃ r : Rep 1, RAt W (fun _ => True) 1 r [.int .i64 k, .int .i64 n, .string s, .slice none 0 0] := ⟨(⟨k, n, s.data.toList, []⟩ : RNode (Rep 0)), leaf_at rfl hk hn hs⟩
  have h := rsame_any 1 1 r r #[.int .i64 k, .int .i64 n, .string s, .slice none 0 0] #[.int .i64 k, .int .i64 n, .string s, .slice none 0 0] W hr hr
  rwa [sameF_refl] at h
theorem same_all {W : World} {r : Rep 2} {u v : Value} (hu : RAt W (fun _ => True) 2 r [.int .i64 6, .int .i64 0, .string ⟨#[]⟩, u]) (hv : RAt W (fun _ => True) 2 r [.int .i64 6, .int .i64 0, .string ⟨#[]⟩, v]) :
    Calls Tryd.prog 13 #[.agg #[.int .i64 6, .int .i64 0, .string ⟨#[]⟩, u], .agg #[.int .i64 6, .int .i64 0, .string ⟨#[]⟩, v]] W fun e w' => e = .returned (.bool true) ∧ Below W.heap.size W w' := by
  have h := rsame_any 2 2 r r #[.int .i64 6, .int .i64 0, .string ⟨#[]⟩, u] #[.int .i64 6, .int .i64 0, .string ⟨#[]⟩, v] W hu hv
  rwa [sameF_refl] at h

theorem heldV {w6 : World} {b : Nat} {c0 c1 c2 c3 : Value} (hl : b < w6.heap.size) (h0 : w6.cell? ⟨b, 0, none⟩ = some c0) (h1 : w6.cell? ⟨b, 1, none⟩ = some c1) (h2 : w6.cell? ⟨b, 2, none⟩ = some c2) (h3 : w6.cell? ⟨b, 3, none⟩ = some c3) {W : World} (hb : Below w6.heap.size w6 W) :
    W.cell? ⟨b, 0, none⟩ = some c0 ∧ W.cell? ⟨b, 1, none⟩ = some c1 ∧ W.cell? ⟨b, 2, none⟩ = some c2 ∧ W.cell? ⟨b, 3, none⟩ = some c3 ∧ Below w6.heap.size w6 W :=
  ⟨(hb.cell (p := ⟨b, 0, none⟩) hl).trans h0, (hb.cell (p := ⟨b, 1, none⟩) hl).trans h1, (hb.cell (p := ⟨b, 2, none⟩) hl).trans h2, (hb.cell (p := ⟨b, 3, none⟩) hl).trans h3, hb⟩
set_option maxRecDepth 100000 in
set_option maxHeartbeats 4000000 in
theorem makes_any (s : ByteArray) (n : Int) (a : Option Addr) (cap : Nat) (xs : List ByteArray) (w : World) (hs : s.size ≤ maxLen) (hn : inI64 n) (hxl : xs.length ≤ maxLen) (hz : ∀ x ∈ xs, x.size ≤ 140737488355328) (hT : TR w a xs) (hTab : Tab w) :
    Calls Tryd.prog 5 #[.string s, .int .i64 n, .slice a xs.length cap] w fun e w' => e = .returned (.bool true) ∧ Below w.heap.size w w' := by
  unfold maxLen at hs hxl
  have hTH := Lib.hid hTab
  clear hTab
  by_cases h1 : 1000 < s.size
  · go_enter Tryd.func5, Tryd.ntmps5
    go_wp2_with (go_at_call 9; ((with_reducible refine (alive_any _ hTH).mono ?_); rintro e w1 ⟨rfl, hb1⟩))
    go_ret
    exact ⟨rfl, hb1⟩
  by_cases h2 : 100 < xs.length
  · go_enter Tryd.func5, Tryd.ntmps5
    go_wp2_with (go_at_call 9; ((with_reducible refine (alive_any _ hTH).mono ?_); rintro e w1 ⟨rfl, hb1⟩))
    all_goals (go_ret; exact ⟨rfl, hb1⟩)
  have hzH := Lib.hid hz
  have hTx := Lib.hid hT
  clear hz hT
  obtain ⟨i0, hi, hz0, hz1, hz2⟩ := info_parts reply_info
  go_enter Tryd.func5, Tryd.ntmps5
  go_wp2_with fail
  have hb0 : Below w.heap.size w w := Below.refl _ _
  go_loopw [7, 22] (fun v i wr => ∃ (c : Nat), i = .int .i64 c ∧ c ≤ xs.length ∧ (c = 0 → v = .slice none 0 0) ∧ wr.ownsRow w.heap.size 24 4 v c (flats (bulkX (xs.take c))) ∧ Below w.heap.size w wr) (fun _ i _ => xs.length - (intOf i).toNat)
  case atStart => exact ⟨0, rfl, by omega, fun _ => rfl, World.ownsRow_nil _ _ _ _, hb0⟩
  case round =>
    clear hb0
    obtain ⟨c, rfl, hc, hc0, hown, hb⟩ := hrel
    by_cases hlt : c < xs.length
    · obtain ⟨x, hx⟩ : ∃ x, xs[c]? = some x := ⟨_, List.getElem?_eq_getElem hlt⟩
      obtain ⟨ad, rfl, _, hcell⟩ := (hTx.out.on hb) c x hx
      have hbs := hb.size
      go_wp2_with (at_builtin; refine wpList_append_own_at _ rfl (.tmp 26) (.tmp 29) 22 rfl w.heap.size 24 i0 _ 4 56 Tryd.underlying22 hi hz0 hz1 hz2 rfl (by decide) u7 c (flats (bulkX (xs.take c))) rfl (hown.alloc _) ⟨wr.heap.size, 0, none⟩ 1 1 [.int .i64 4, .int .i64 0, .string x, .slice none 0 0] rfl rfl (new_cells _ [.int .i64 4, .int .i64 0, .string x, .slice none 0 0]) one4 (by unfold maxLen; omega) (by omega) (by simp; omega) ?_)
      intro v' w' hown' hgrow _ hloc
      rw [← bulk_step hx] at hown'
      have hbN := (hb.alloc hb.size (.cells #[.int .i64 4, .int .i64 0, .string x, .slice none 0 0] 24)).grown hgrow (by simp; omega) (fun k hk => (hown.lt k hk).1)
      clear hgrow hloc hown hcell
      go_wp2_with fail
      go_roundw
      case rel => exact ⟨c + 1, by go_num, by omega, fun h => by omega, hown', hbN⟩
      case measure => simp [intOf]; omega
    · obtain rfl : c = xs.length := by omega
      rw [List.take_length] at hown
      have hxl2 : xs.length ≤ 65536 := by omega
      obtain ⟨A7, cap7, hv7⟩ := slice_of hown
      subst hv7
      go_wp2_with fail
      have hW6 := hb.alloc hb.size (.cells #[.int .i64 6, .int .i64 0, .string ⟨#[]⟩, .slice A7 xs.length cap7] 24)
      have hO6 := own_below hown (one_box' (w := wr) (o := .cells #[.int .i64 6, .int .i64 0, .string ⟨#[]⟩, .slice A7 xs.length cap7] 24))
      have hbox := cellsB (heap_alloc_new wr (.cells #[.int .i64 6, .int .i64 0, .string ⟨#[]⟩, .slice A7 xs.length cap7] 24))
      have hlt6 : wr.heap.size < (wr.alloc (.cells #[.int .i64 6, .int .i64 0, .string ⟨#[]⟩, .slice A7 xs.length cap7] 24)).heap.size := by simp
      generalize wr.alloc (.cells #[.int .i64 6, .int .i64 0, .string ⟨#[]⟩, .slice A7 xs.length cap7] 24) = w6 at hW6 hO6 hbox hlt6 ⊢
      generalize wr.heap.size = g at hbox hlt6 ⊢
      obtain ⟨x0, x1, x2, x3⟩ := hbox
      have hW6H := Lib.hid hW6
      have hAll := Lib.hid (all_at hO6 hxl2 hzH.out)
      have hMany := Lib.hid (many_call hO6 hc0 hxl2 hzH.out)
      have hTexts := Lib.hid (texts_call (cap := cap) (hTx.out.on hW6) hxl2 hzH.out)
      have hTab6 := Lib.hid (hTH.out.on hW6)
      have hsz : s.size ≤ 140737488355328 := by omega
      have hL1 := Lib.hid (same_leaf 1 0 ⟨#[79, 75]⟩ (by unfold inI64; omega) (by unfold inI64; omega) (by decide))
      have hL2 := Lib.hid (same_leaf 2 0 s (by unfold inI64; omega) (by unfold inI64; omega) hsz)
      have hL3 := Lib.hid (same_leaf 3 n ⟨#[]⟩ (by unfold inI64; omega) hn (by decide))
      have hL4 := Lib.hid (same_leaf 4 0 s (by unfold inI64; omega) (by unfold inI64; omega) hsz)
      clear hW6 hO6 hown hc0 hb hTH hTx hzH
      have hK0 := Lib.hid (heldV hlt6 x0 x1 x2 x3 (Below.drew (Below.refl w6.heap.size w6)))
      have hOn : Hid (∀ a c, Below a.heap.size a c → (a.cell? ⟨g, 0, none⟩ = some (.int .i64 6) ∧ a.cell? ⟨g, 1, none⟩ = some (.int .i64 0) ∧ a.cell? ⟨g, 2, none⟩ = some (.string ⟨#[]⟩) ∧ a.cell? ⟨g, 3, none⟩ = some (.slice A7 xs.length cap7) ∧ Below w6.heap.size w6 a) → (c.cell? ⟨g, 0, none⟩ = some (.int .i64 6) ∧ c.cell? ⟨g, 1, none⟩ = some (.int .i64 0) ∧ c.cell? ⟨g, 2, none⟩ = some (.string ⟨#[]⟩) ∧ c.cell? ⟨g, 3, none⟩ = some (.slice A7 xs.length cap7) ∧ Below w6.heap.size w6 c)) := Lib.hid fun a c k h => heldV hlt6 x0 x1 x2 x3 (onB h.2.2.2.2 k)
      have hOB : Hid (∀ a, (a.cell? ⟨g, 0, none⟩ = some (.int .i64 6) ∧ a.cell? ⟨g, 1, none⟩ = some (.int .i64 0) ∧ a.cell? ⟨g, 2, none⟩ = some (.string ⟨#[]⟩) ∧ a.cell? ⟨g, 3, none⟩ = some (.slice A7 xs.length cap7) ∧ Below w6.heap.size w6 a) → Below w6.heap.size w6 a) := Lib.hid fun a h => h.2.2.2.2
      go_region_held3 (fun w' => w'.cell? ⟨g, 0, none⟩ = some (.int .i64 6) ∧ w'.cell? ⟨g, 1, none⟩ = some (.int .i64 0) ∧ w'.cell? ⟨g, 2, none⟩ = some (.string ⟨#[]⟩) ∧ w'.cell? ⟨g, 3, none⟩ = some (.slice A7 xs.length cap7) ∧ Below w6.heap.size w6 w')
        (first | exact hK0.out | exact hOn.out _ _ (by assumption) (by assumption))
        (first
        | (go_at_call 16; ((with_reducible refine (ok_any _).mono ?_); rintro e y1 ⟨rfl, b1⟩))
        | (go_at_call 17; ((with_reducible refine (fail_any s _).mono ?_); rintro e y2 ⟨rfl, b2⟩))
        | (go_at_call 18; ((with_reducible refine (int_any n _).mono ?_); rintro e y3 ⟨rfl, b3⟩))
        | (go_at_call 19; ((with_reducible refine (textr_any s _).mono ?_); rintro e y4 ⟨rfl, b4⟩))
        | (go_at_call 20; ((with_reducible refine (hMany.out _ (hOB.out _ (by assumption))).mono ?_); rintro e y5 ⟨v5, rfl, r5, b5⟩))
        | (go_at_call 21; ((with_reducible refine (hTexts.out _ (hOB.out _ (by assumption))).mono ?_); rintro e y6 ⟨v6, rfl, r6, b6⟩))
        | (go_at_call 13; ((with_reducible refine (hL1.out _).mono ?_); rintro e y7 ⟨rfl, b7⟩))
        | (go_at_call 13; ((with_reducible refine (hL2.out _).mono ?_); rintro e y7 ⟨rfl, b7⟩))
        | (go_at_call 13; ((with_reducible refine (hL3.out _).mono ?_); rintro e y7 ⟨rfl, b7⟩))
        | (go_at_call 13; ((with_reducible refine (hL4.out _).mono ?_); rintro e y7 ⟨rfl, b7⟩))
        | (go_at_call 13; ((with_reducible refine (same_all (by assumption) (hAll.out.on (hOB.out _ (by assumption)))).mono ?_); rintro e y7 ⟨rfl, b7⟩))
        | (go_at_call 9; ((with_reducible refine (alive_any _ (Lib.hid (hTab6.out.on (hOB.out _ (by assumption))))).mono ?_); rintro e y8 ⟨rfl, b8⟩)))
      go_wp2_with fail
      go_ret
      exact ⟨rfl, hW6H.out.trans ((hOB.out _ (by assumption)).mono hW6H.out.size)⟩

end Go.Proofs.YtogbjhpkbdmllaaDoor
