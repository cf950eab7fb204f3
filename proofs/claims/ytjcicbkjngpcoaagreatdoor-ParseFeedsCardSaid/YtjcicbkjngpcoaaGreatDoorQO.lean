/-
  The walk of the laws' own small look. A premise: the library's variable ErrSyntax holds an error, or none.
-/
import Derived.Test.YtjcicbkjngpcoaaGreatDoorQM
import Derived.Test.YtjcicbkjngpcoaaGreatDoorQN
namespace Go.Proofs.YtjcicbkjngpcoaaGreatDoor
open Go.RowKit Dec Pq S4

def b1 : ByteArray := ⟨#[42, 49, 13, 10, 36, 52, 13, 10, 80, 73]⟩
def b2 : ByteArray := ⟨#[78, 71, 13, 10, 71, 69, 84, 32, 97, 10]⟩
def x1 : MI := ⟨⟨#[80, 73]⟩, [], 1, 8, true, 4⟩
def q2 : List MR := [([⟨#[80, 73, 78, 71]⟩], 14), ([⟨#[71, 69, 84]⟩, ⟨#[97]⟩], 6)]
theorem fed1 : feedF 9 9 9 ((MI.none ⟨#[]⟩).inp.add b1.data.toList) = (.inr x1.inp, []) := by kernel_rfl
theorem fed2 : feedF 9 9 9 (x1.inp.add b2.data.toList) = (.inr (MI.none ⟨#[]⟩).inp, q2.map rq) := by kernel_rfl
theorem nine (hi : Int) (h : 9 ≤ hi) : Hid (betw 9 1 hi = ((9 : Nat) : Int)) := Lib.hid (by unfold betw; omega)
theorem feed1 (w : World) (hE : ErrAt w) : Calls Tryz.prog 7 #[.agg #[.string ⟨#[]⟩, .slice none 0 0, .int .i64 0, .int .i64 0, .bool false, .int .i64 0, .int .i64 0], .string ⟨#[42, 49, 13, 10, 36, 52, 13, 10, 80, 73]⟩, .agg #[.int .i64 9, .int .i64 9, .int .i64 9]] w fun e w' =>
    Below w.heap.size w w' ∧ ∃ Aq cq, e = .returned (.tuple #[.agg #[.string ⟨#[80, 73]⟩, .slice none 0 0, .int .i64 1, .int .i64 8, .bool true, .int .i64 4, .int .i64 0], .slice Aq 0 cq, .int .i64 0]) := by
  have h := feed_any (MI.none ⟨#[]⟩) none 0 b1 9 9 9 9 9 9 w (nine _ (by decide)) (nine _ (by decide)) (nine _ (by decide)) (by decide) (by decide) (by decide) (none_ok _) (by decide) ⟨fun _ => ⟨rfl, rfl⟩, fun i x hx => by simp [MI.none] at hx⟩ hE hE
  refine h.mono fun e w' hf => ?_
  rw [fed1] at hf
  obtain ⟨hb, q, Aq, cq, hq, _, _, _, my, a, c, hmy, _, _, hac, _, he⟩ := hf
  obtain rfl := mi_inj hmy
  have hq0 : q = [] := by simpa using hq
  subst hq0
  obtain ⟨rfl, rfl⟩ := hac rfl
  exact ⟨hb, Aq, cq, he⟩
theorem feed2 (w : World) (hE : ErrAt w) : Calls Tryz.prog 7 #[.agg #[.string ⟨#[80, 73]⟩, .slice none 0 0, .int .i64 1, .int .i64 8, .bool true, .int .i64 4, .int .i64 0], .string ⟨#[78, 71, 13, 10, 71, 69, 84, 32, 97, 10]⟩, .agg #[.int .i64 9, .int .i64 9, .int .i64 9]] w fun e w' =>
    Below w.heap.size w w' ∧ ∃ Aq cq, Rqs w' (fun b => w.heap.size ≤ b) Aq q2 ∧ e = .returned (.tuple #[.agg #[.string ⟨#[]⟩, .slice none 0 0, .int .i64 0, .int .i64 0, .bool false, .int .i64 0, .int .i64 0], .slice Aq 2 cq, .int .i64 0]) := by
  have h := feed_any x1 none 0 b2 9 9 9 9 9 9 w (nine _ (by decide)) (nine _ (by decide)) (nine _ (by decide)) (by decide) (by decide) (by decide) ⟨fun h => absurd h (by decide), fun _ => by decide⟩ (by decide) ⟨fun _ => ⟨rfl, rfl⟩, fun i x hx => by simp [x1] at hx⟩ hE hE
  refine h.mono fun e w' hf => ?_
  rw [fed2] at hf
  obtain ⟨hb, q, Aq, cq, hq, _, hr, _, my, a, c, hmy, _, _, hac, _, he⟩ := hf
  obtain rfl := mi_inj hmy
  obtain rfl := rqs_inj hq
  obtain ⟨rfl, rfl⟩ := hac rfl
  exact ⟨hb, Aq, cq, hr, he⟩
theorem lit_rqs {W : World} {b : Nat} (h0 : W.heap[b]? = some (.cells #[.string ⟨#[80, 73, 78, 71]⟩] 9 (0, 0))) (h1 : W.heap[b + 1]? = some (.cells #[.string ⟨#[71, 69, 84]⟩, .string ⟨#[97]⟩] 9 (0, 0)))
    (h2 : W.heap[b + 2]? = some (.cells #[.slice (some ⟨b, 0, none⟩) 1 1, .int .i64 14, .slice (some ⟨b + 1, 0, none⟩) 2 2, .int .i64 6] 43 (0, 0))) : Rqs W Tr (some ⟨b + 2, 0, none⟩) q2 := by
  intro i p hp
  match i, hp with
  | 0, hp =>
    obtain rfl := Option.some.inj hp
    refine ⟨_, _, _, rfl, trivial, heap_lt h2, Lib.cell_of_heap h2 0, Lib.cell_of_heap h2 1, some ⟨b, 0, none⟩, 1, rfl, by simp, fun j x hx => ?_⟩
    match j, hx with
    | 0, hx => obtain rfl := Option.some.inj hx; exact ⟨_, rfl, trivial, heap_lt h0, Lib.cell_of_heap h0 0⟩
  | 1, hp =>
    obtain rfl := Option.some.inj hp
    refine ⟨_, _, _, rfl, trivial, heap_lt h2, Lib.cell_of_heap h2 2, Lib.cell_of_heap h2 3, some ⟨b + 1, 0, none⟩, 2, rfl, by simp, fun j x hx => ?_⟩
    match j, hx with
    | 0, hx => obtain rfl := Option.some.inj hx; exact ⟨_, rfl, trivial, heap_lt h1, Lib.cell_of_heap h1 0⟩
    | 1, hx => obtain rfl := Option.some.inj hx; exact ⟨_, rfl, trivial, heap_lt h1, Lib.cell_of_heap h1 1⟩
set_option maxRecDepth 100000 in
set_option maxHeartbeats 4000000 in
theorem alive_any (w : World) (hE : ErrAt w) : Calls Tryz.prog 6 #[] w fun e w' => e = .returned (.bool true) ∧ Below w.heap.size w w' := by
  have n1 := heap_alloc_new w (.cells #[.int .i64 9, .int .i64 9, .int .i64 9] 23)
  have hb1 := (Below.refl w.heap.size w).alloc (Nat.le_refl _) (.cells #[.int .i64 9, .int .i64 9, .int .i64 9] 23)
  have hs1 : w.heap.size < (w.alloc (.cells #[.int .i64 9, .int .i64 9, .int .i64 9] 23)).heap.size := by simp
  go_enter Tryz.func6, Tryz.ntmps6
  go_upto_region 2 with fail
  generalize w.alloc (.cells #[.int .i64 9, .int .i64 9, .int .i64 9] 23) = W1 at n1 hb1 hs1 ⊢
  obtain ⟨l0, l1, l2⟩ := lim_facts n1
  have hF1 := Lib.hid (feed1 W1 (hE.on hb1))
  have n1H := Lib.hid n1
  have hb1H := Lib.hid hb1
  have hEH := Lib.hid hE
  clear n1 hb1 hE
  go_upto_region 3 with (go_at_call 7; ((with_reducible refine hF1.out.mono ?_); rintro e w2 ⟨hb2, Aq, cq, rfl⟩))
  have hW2 := Lib.hid (onB hb1H.out (hb2.alloc hb2.size (.cells #[.string ⟨#[80, 73]⟩, .slice none 0 0, .int .i64 1, .int .i64 8, .bool true, .int .i64 4, .int .i64 0] 29)))
  have hn2 := heap_alloc_new w2 (.cells #[.string ⟨#[80, 73]⟩, .slice none 0 0, .int .i64 1, .int .i64 8, .bool true, .int .i64 4, .int .i64 0] 29)
  have hl2 := (Lib.alloc_old w2 (.cells #[.string ⟨#[80, 73]⟩, .slice none 0 0, .int .i64 1, .int .i64 8, .bool true, .int .i64 4, .int .i64 0] 29) w.heap.size (Nat.lt_of_lt_of_le hs1 hb2.size)).trans ((hb2.block w.heap.size hs1).trans n1H.out)
  have hs2 : w2.heap.size < (w2.alloc (.cells #[.string ⟨#[80, 73]⟩, .slice none 0 0, .int .i64 1, .int .i64 8, .bool true, .int .i64 4, .int .i64 0] 29)).heap.size := by simp
  have hwb : w.heap.size < w2.heap.size := Nat.lt_of_lt_of_le hs1 hb2.size
  clear hb2 l0 l1 l2
  generalize w2.alloc (.cells #[.string ⟨#[80, 73]⟩, .slice none 0 0, .int .i64 1, .int .i64 8, .bool true, .int .i64 4, .int .i64 0] 29) = W2 at hW2 hn2 hl2 hs2 ⊢
  generalize w2.heap.size = g at hn2 hs2 hwb ⊢
  obtain ⟨l0, l1, l2⟩ := lim_facts hl2
  obtain ⟨i0, i1, i2, i3, i4, i5, i6, j0, j1, j2, j3, j4, j5, j6⟩ := in_facts hn2
  have hF2 := Lib.hid (feed2 W2 (hEH.out.on hW2.out))
  have hn2H := Lib.hid hn2
  clear hn2 hl2
  go_upto_region 4 with (go_at_call 7; ((with_reducible refine hF2.out.mono ?_); rintro e w3 ⟨hb3, Ar, cr, hrq, rfl⟩; have h3 := (hb3.block g hs2).trans hn2H.out; obtain ⟨y0, y1, y2, y3, y4, y5, y6, x0, x1', x2, x3, x4, x5, x6⟩ := in_facts h3; have h3H := Lib.hid h3; have hb3H := Lib.hid hb3; have hrqH := Lib.hid hrq; clear h3 hb3 hrq))
  obtain ⟨k1, k2, k3, k4⟩ := store7 h3H.out (.string ⟨#[]⟩) (.slice none 0 0) (.int .i64 0) (.int .i64 0) (.bool false) (.int .i64 0) (.int .i64 0)
  have k4' := Lib.hid (k4 w.heap.size w (by omega) (onB hW2.out hb3H.out))
  have hrq4 := Lib.hid (hrqH.out.keep (ok' := Tr) (fun i hi _ => k2 i (fun e => by have : W2.heap.size ≤ i := hi; omega)) (Nat.le_of_eq k3.symm) (fun _ _ _ => trivial))
  clear y0 y1 y2 y3 y4 y5 y6 x0 x1' x2 x3 x4 x5 x6 k2 k3 k4 i0 i1 i2 i3 i4 i5 i6 j0 j1 j2 j3 j4 j5 j6 l0 l1 l2
  generalize (((((((w3.setCell ⟨g, 0, none⟩ (.string ⟨#[]⟩)).setCell ⟨g, 1, none⟩ (.slice none 0 0)).setCell ⟨g, 2, none⟩ (.int .i64 0)).setCell ⟨g, 3, none⟩ (.int .i64 0)).setCell ⟨g, 4, none⟩ (.bool false)).setCell ⟨g, 5, none⟩ (.int .i64 0)).setCell ⟨g, 6, none⟩ (.int .i64 0)) = W3 at k1 k4' hrq4 ⊢
  obtain ⟨i0, i1, i2, i3, i4, i5, i6, j0, j1, j2, j3, j4, j5, j6⟩ := in_facts k1
  have hglt := heap_lt k1
  have m0 := heap_alloc_new W3 (.cells #[.string ⟨#[80, 73, 78, 71]⟩] 9)
  have m1 := heap_alloc_new (W3.alloc (.cells #[.string ⟨#[80, 73, 78, 71]⟩] 9)) (.cells #[.string ⟨#[71, 69, 84]⟩, .string ⟨#[97]⟩] 9)
  have m2 := heap_alloc_new ((W3.alloc (.cells #[.string ⟨#[80, 73, 78, 71]⟩] 9)).alloc (.cells #[.string ⟨#[71, 69, 84]⟩, .string ⟨#[97]⟩] 9)) (.cells #[.slice (some ⟨W3.heap.size, 0, none⟩) 1 1, .int .i64 14, .slice (some ⟨W3.heap.size + 1, 0, none⟩) 2 2, .int .i64 6] 43)
  simp only [World.size_alloc] at m1 m2
  have m1' := (Lib.alloc_old ((W3.alloc (.cells #[.string ⟨#[80, 73, 78, 71]⟩] 9)).alloc (.cells #[.string ⟨#[71, 69, 84]⟩, .string ⟨#[97]⟩] 9)) (.cells #[.slice (some ⟨W3.heap.size, 0, none⟩) 1 1, .int .i64 14, .slice (some ⟨W3.heap.size + 1, 0, none⟩) 2 2, .int .i64 6] 43) (W3.heap.size + 1) (by simp)).trans m1
  have m0' := (Lib.alloc_old ((W3.alloc (.cells #[.string ⟨#[80, 73, 78, 71]⟩] 9)).alloc (.cells #[.string ⟨#[71, 69, 84]⟩, .string ⟨#[97]⟩] 9)) (.cells #[.slice (some ⟨W3.heap.size, 0, none⟩) 1 1, .int .i64 14, .slice (some ⟨W3.heap.size + 1, 0, none⟩) 2 2, .int .i64 6] 43) W3.heap.size (by simp; omega)).trans ((Lib.alloc_old (W3.alloc (.cells #[.string ⟨#[80, 73, 78, 71]⟩] 9)) (.cells #[.string ⟨#[71, 69, 84]⟩, .string ⟨#[97]⟩] 9) W3.heap.size (by simp)).trans m0)
  have hbl : Below W3.heap.size W3 (((W3.alloc (.cells #[.string ⟨#[80, 73, 78, 71]⟩] 9)).alloc (.cells #[.string ⟨#[71, 69, 84]⟩, .string ⟨#[97]⟩] 9)).alloc (.cells #[.slice (some ⟨W3.heap.size, 0, none⟩) 1 1, .int .i64 14, .slice (some ⟨W3.heap.size + 1, 0, none⟩) 2 2, .int .i64 6] 43)) := (((Below.refl _ _).alloc (Nat.le_refl _) _).alloc (by simp) _).alloc (by simp; omega) _
  have hSm := Lib.hid (show Calls Tryz.prog 10 #[.slice Ar 2 cr, .slice (some ⟨W3.heap.size + 1 + 1, 0, none⟩) 2 2] (((W3.alloc (.cells #[.string ⟨#[80, 73, 78, 71]⟩] 9)).alloc (.cells #[.string ⟨#[71, 69, 84]⟩, .string ⟨#[97]⟩] 9)).alloc (.cells #[.slice (some ⟨W3.heap.size, 0, none⟩) 1 1, .int .i64 14, .slice (some ⟨W3.heap.size + 1, 0, none⟩) 2 2, .int .i64 6] 43)) fun e w' => e = .returned (.bool true) ∧ ∃ n, w' = (((W3.alloc (.cells #[.string ⟨#[80, 73, 78, 71]⟩] 9)).alloc (.cells #[.string ⟨#[71, 69, 84]⟩, .string ⟨#[97]⟩] 9)).alloc (.cells #[.slice (some ⟨W3.heap.size, 0, none⟩) 1 1, .int .i64 14, .slice (some ⟨W3.heap.size + 1, 0, none⟩) 2 2, .int .i64 6] 43)).drewN n from rsame_any Ar (some ⟨W3.heap.size + 2, 0, none⟩) cr 2 q2 (((W3.alloc (.cells #[.string ⟨#[80, 73, 78, 71]⟩] 9)).alloc (.cells #[.string ⟨#[71, 69, 84]⟩, .string ⟨#[97]⟩] 9)).alloc (.cells #[.slice (some ⟨W3.heap.size, 0, none⟩) 1 1, .int .i64 14, .slice (some ⟨W3.heap.size + 1, 0, none⟩) 2 2, .int .i64 6] 43)) (by decide) (hrq4.out.on hbl) (lit_rqs m0' m1' m2) (by decide))
  have hblH := Lib.hid hbl
  have hK : Hid (∀ n w8, w8 = (((W3.alloc (.cells #[.string ⟨#[80, 73, 78, 71]⟩] 9)).alloc (.cells #[.string ⟨#[71, 69, 84]⟩, .string ⟨#[97]⟩] 9)).alloc (.cells #[.slice (some ⟨W3.heap.size, 0, none⟩) 1 1, .int .i64 14, .slice (some ⟨W3.heap.size + 1, 0, none⟩) 2 2, .int .i64 6] 43)).drewN n → w8.heap[g]? = some (.cells #[.string ⟨#[]⟩, .slice none 0 0, .int .i64 0, .int .i64 0, .bool false, .int .i64 0, .int .i64 0] 29 (0, 0)) ∧ Below w.heap.size w w8) := Lib.hid fun n w8 h => by
    subst h
    exact ⟨(hblH.out.block g hglt).trans k1, below_drewN (onB k4'.out hblH.out) n⟩
  clear m0 m1 m2 m0' m1' hbl k1 i0 i1 i2 i3 i4 i5 i6 j0 j1 j2 j3 j4 j5 j6
  go_wp2_with (first
    | (go_at_call 10; ((with_reducible refine hSm.out.mono ?_); rintro e w8 ⟨rfl, n8, hw8⟩; obtain ⟨h8, hb8⟩ := hK.out _ _ hw8; obtain ⟨i0, i1, i2, i3, i4, i5, i6, j0, j1, j2, j3, j4, j5, j6⟩ := in_facts h8; clear hw8 h8))
    | (go_at_call 13; ((with_reducible refine (idle_yes _).mono ?_); rintro e w9 ⟨rfl, hb9⟩)))
  go_ret
  exact ⟨rfl, onB hb8 hb9⟩
end Go.Proofs.YtjcicbkjngpcoaaGreatDoor
