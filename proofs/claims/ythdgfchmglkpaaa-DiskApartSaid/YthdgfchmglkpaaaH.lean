/-
  The document's Cut. Premise: rows have lengths that Go's own rows have.
-/
import Derived.Test.YthdgfchmglkpaaaChecked
import Derived.Test.YthdgfchmglkpaaaMath
import Derived.Test.YthdgfchmglkpaaaA
import Derived.Test.YthdgfchmglkpaaaB
import Derived.Test.YthdgfchmglkpaaaC
import Derived.Test.YthdgfchmglkpaaaD
import Derived.Test.YthdgfchmglkpaaaE
import Derived.Test.YthdgfchmglkpaaaF
import Derived.Test.YthdgfchmglkpaaaG
import Derived.WalkKit
import Derived.WalkSpells
import Derived.WalkLawsBesides
import Derived.Deep.QuietTactic
import Derived.BigQuiet
import Derived.Lib.Hide
import Derived.Lib.SmallJoins
import Derived.Outline
import Derived.OwnWalk
import Derived.Deep.CutBlock
import Derived.BigRegion
import Derived.StillTailTactics
import Derived.Laws.AppendOwnNone
import Derived.Maps.AppendAt
import Derived.Deep.RegionLaw
import Derived.Deep.RegionHeld3
import Derived.Lib.BufferRead
import Derived.Deep.AppendLies
namespace Go.Proofs.Ythdgfchmglkpaaa
open Go.RowKit
theorem between_at (n m : Int) (w : World) : Calls Try.prog 32 #[.int .i64 n, .int .i64 m] w fun e w' => e = .returned (.int .i64 (betw n m)) ∧ w' = w := (rbetween_any n m w).mono fun _ _ ⟨h1, h2⟩ => ⟨h1, h2.symm⟩
def cutD (s : ByteArray) (n : Int) : ByteArray := s.extract 0 (betw n s.size).toNat
def cutF (D : Dk) (k : ByteArray) (n : Int) : Dk × Int := match findF D.1 k with
  | none => (D, 8)
  | some x => ((withF D.1 (x.1, cutD x.2.1 n, betw x.2.2 ((cutD x.2.1 n).size : Int)), D.2), 0)
set_option maxRecDepth 100000 in
set_option maxHeartbeats 8000000 in
theorem rcut_any {w : World} {v : Value} {D : Dk} (k : ByteArray) (nn : Int) (h : DkAt w v D) (hl : Few D) :
    Calls Try.prog 29 #[v, .string k, .int .i64 nn] w fun r w' => (∃ v', r = .returned (.tuple #[v', .int .i64 (cutF D k nn).2]) ∧ DkAt w' v' (cutF D k nn).1) ∧ Below w.heap.size w w' := by
  obtain ⟨A, c, B, d, rfl, hA, hB⟩ := h
  obtain ⟨L, T⟩ := D
  simp only [] at hA hB ⊢
  obtain ⟨hl1, hl2⟩ := hl
  simp only [] at hl1 hl2
  obtain ⟨W2, hW2, hd, hr, hb, hs2⟩ := two_boxes w (.cells #[.slice A L.length c, .slice B T.length d] 25) (.cells #[.slice none 0 0, .slice none 0 0] 25)
  have hFi := Lib.hid (rfind_any (B := B) (c := c) (m := T.length) (d := d) k (hA.on hb) (by omega))
  unfold cutF
  simp only []
  cases hf : findF L k with
  | none =>
    rw [hf] at hFi
    have hFi2 : Hid (Calls Try.prog 11 #[.agg #[.slice A L.length c, .slice B T.length d], .string k] W2 fun r w' => r = .returned (.tuple #[.agg #[.string ⟨#[]⟩, .string ⟨#[]⟩, .int .i64 0], .bool false]) ∧ Below W2.heap.size W2 w') := hFi
    simp only []
    clear hFi hf
    go_enter Try.func29, Try.ntmps29
    go_upto_region 1 with fail
    rw [← hW2]
    clear hW2
    obtain ⟨x0, x1, -, -⟩ := two hd
    go_upto_region 2 with (go_at_call 11; (with_reducible refine (hFi2.out).mono ?_); rintro e w3 ⟨rfl, hb3⟩)
    have hbX : Below W2.heap.size W2 (w3.alloc (.cells #[.string ⟨#[]⟩, .string ⟨#[]⟩, .int .i64 0] 39)) := hb3.alloc hb3.size _
    generalize (w3.alloc (.cells #[.string ⟨#[]⟩, .string ⟨#[]⟩, .int .i64 0] 39)) = X at hbX ⊢
    have hdX := (hbX.block w.heap.size (some_lt hd)).trans hd
    have hrX := (hbX.block (w.heap.size + 1) (some_lt hr)).trans hr
    obtain ⟨y0, y1, -, -⟩ := two hdX
    obtain ⟨p0, p1, p2, p3⟩ := two hrX
    obtain ⟨e1, e2, e3⟩ := fin2 hrX (hb.trans (hbX.mono hb.size)) (by omega) (.slice A L.length c) (.slice B T.length d)
    have e1H := Lib.hid e1
    have e3H := Lib.hid e3
    clear hd hr hdX hrX hb3 x0 x1 e1 e2 e3
    go_wp2_with fail
    obtain ⟨q0, q1, -, -⟩ := two e1H.out
    refine bodyPost_ret (v := .tuple #[.agg #[.slice A L.length c, .slice B T.length d], .int .i64 8]) (by simp [results, Try.results29, go_sem, q0, q1]) rfl ?_
    exact ⟨⟨_, rfl, A, c, B, d, rfl, hA.on e3H.out, hB.on e3H.out⟩, e3H.out⟩
  | some x =>
    rw [hf] at hFi
    have hFi2 : Hid (Calls Try.prog 11 #[.agg #[.slice A L.length c, .slice B T.length d], .string k] W2 fun r w' => r = .returned (.tuple #[.agg #[.string x.1, .string x.2.1, .int .i64 x.2.2], .bool true]) ∧ Below W2.heap.size W2 w') := hFi
    simp only []
    clear hFi hf
    have hWi := Lib.hid (fun (X : World) (hX : Below w.heap.size w X) => rwith_any (B := B) (c := c) (m := T.length) (d := d) (x.1, cutD x.2.1 nn, betw x.2.2 ((cutD x.2.1 nn).size : Int)) (hA.on hX) hl1)
    have hbt := betw_le (n := nn) (m := (x.2.1.size : Int)) (by omega)
    have hce : cutD x.2.1 nn = x.2.1.extract 0 (betw nn (x.2.1.size : Int)).toNat := rfl
    obtain ⟨C, hC⟩ : ∃ C, C = cutD x.2.1 nn := ⟨_, rfl⟩
    rw [← hC] at hWi hce ⊢
    have hceH := Lib.hid hce
    clear hC hce
    have hBw := Lib.hid (fun W => rbetween_any x.2.2 (C.size : Int) W)
    obtain ⟨sy, hsy⟩ : ∃ sy, sy = betw x.2.2 (C.size : Int) := ⟨_, rfl⟩
    rw [← hsy] at hBw hWi ⊢
    clear hsy
    go_enter Try.func29, Try.ntmps29
    go_upto_region 1 with fail
    rw [← hW2]
    clear hW2
    obtain ⟨x0, x1, -, -⟩ := two hd
    go_upto_region 4 with (go_at_call 11; (with_reducible refine (hFi2.out).mono ?_); rintro e w3 ⟨rfl, hb3⟩)
    have hbX : Below W2.heap.size W2 (w3.alloc (.cells #[.string x.1, .string x.2.1, .int .i64 x.2.2] 39)) := hb3.alloc hb3.size _
    have hxX := heap_alloc_new w3 (.cells #[.string x.1, .string x.2.1, .int .i64 x.2.2] 39)
    have hgx : W2.heap.size ≤ w3.heap.size := hb3.size
    generalize (w3.alloc (.cells #[.string x.1, .string x.2.1, .int .i64 x.2.2] 39)) = X at hbX hxX ⊢
    generalize w3.heap.size = gx at hxX hgx ⊢
    have hdX := (hbX.block w.heap.size (some_lt hd)).trans hd
    have hrX := (hbX.block (w.heap.size + 1) (some_lt hr)).trans hr
    have hbwX := hb.trans (hbX.mono hb.size)
    clear hd hr hb3 x0 x1 hb hbX hFi2
    have hxY : X.drew.heap[gx]? = some (.cells #[.string x.1, .string x.2.1, .int .i64 x.2.2] 39 (0, 0)) := hxX
    have hdY : X.drew.heap[w.heap.size]? = some (.cells #[.slice A L.length c, .slice B T.length d] 25 (0, 0)) := hdX
    have hrY : X.drew.heap[w.heap.size + 1]? = some (.cells #[.slice none 0 0, .slice none 0 0] 25 (0, 0)) := hrX
    have hbY : Below w.heap.size w X.drew := hbwX.drew
    clear hxX hdX hrX hbwX
    refine wp_region_still_tail 9 (by kernel_rfl) (by kernel_rfl) ?_
    simp only [List.take_succ_cons, List.take_zero, List.drop_succ_cons, List.drop_zero]
    change wpStill _ _ X.drew (fun a' => wpList _ _ _ _ a' X.drew) _ _
    generalize X.drew = Y at hxY hdY hrY hbY ⊢
    obtain ⟨s0, s1, s2, s3, s4, s5⟩ := three hxY
    still_step
    still_step
    still_step
    still_step
    still_step
    still_step
    still_call (between_at _ _ _)
    still_step
    still_step
    refine wpStill_nil ?_
    rw [← hceH.out]
    have hx5 : (Y.setCell ⟨gx, 1, none⟩ (.string C)).heap[gx]? = some (.cells #[.string x.1, .string C, .int .i64 x.2.2] 39 (0, 0)) := by simp [World.setCell, Array.getElem?_modify, hxY]
    have o5 : Only [gx] Y (Y.setCell ⟨gx, 1, none⟩ (.string C)) := (Only.refl _ _).set (p := ⟨gx, 1, none⟩) (Or.inl (by simp)) _
    go_upto_region 5 with fail
    have hd5 := o5.keep hdY (by simp; omega)
    have hr5 := o5.keep hrY (by simp; omega)
    have hb5 : Below w.heap.size w (Y.setCell ⟨gx, 1, none⟩ (.string C)) := hbY.trans (o5.below hbY.size (fun y hy => by rw [List.mem_singleton.1 hy]; omega))
    clear s0 s1 s2 s3 s4 s5 hxY hdY hrY hbY o5
    generalize (Y.setCell ⟨gx, 1, none⟩ (.string C)) = Y5 at hx5 hd5 hr5 hb5 ⊢
    obtain ⟨s0, s1, s2, s3, s4, s5⟩ := three hx5
    have o6 : Only [gx] Y5 (Y5.setCell ⟨gx, 2, none⟩ (.int .i64 sy)) := (Only.refl _ _).set (p := ⟨gx, 2, none⟩) (Or.inl (by simp)) _
    have hx6 : (Y5.setCell ⟨gx, 2, none⟩ (.int .i64 sy)).heap[gx]? = some (.cells #[.string x.1, .string C, .int .i64 sy] 39 (0, 0)) := by simp [World.setCell, Array.getElem?_modify, hx5]
    clear hbt
    go_upto_region 6 with (go_at_call 32; (with_reducible refine (hBw.out _).mono ?_); rintro e w4 ⟨rfl, rfl⟩)
    have hd6 := o6.keep hd5 (by simp; omega)
    have hr6 := o6.keep hr5 (by simp; omega)
    have hb6 : Below w.heap.size w (Y5.setCell ⟨gx, 2, none⟩ (.int .i64 sy)) := hb5.trans (o6.below hb5.size (fun y hy => by rw [List.mem_singleton.1 hy]; omega))
    clear s0 s1 s2 s3 s4 s5 hx5 hd5 hr5 hb5 o6
    generalize (Y5.setCell ⟨gx, 2, none⟩ (.int .i64 sy)) = Z6 at hd6 hr6 hx6 hb6 ⊢
    obtain ⟨y0, y1, -, -⟩ := two hd6
    obtain ⟨s0, s1, s2, -, -, -⟩ := three hx6
    have hWH := Lib.hid (hWi.out Z6 hb6)
    have hr6H := Lib.hid hr6
    have hb6H := Lib.hid hb6
    clear hWi hd6 hx6 hr6 hb6
    go_wp2_with (go_at_call 46; (with_reducible refine (hWH.out).mono ?_); rintro e w8 ⟨⟨v8, rfl, hR8⟩, hb8⟩; obtain ⟨A8, c8, rfl, -⟩ := hR8.files; have hr8 := (hb8.block (w.heap.size + 1) (some_lt hr6H.out)).trans hr6H.out; obtain ⟨p0, p1, p2, p3⟩ := two hr8)
    have hbw8 := hb6H.out.trans (hb8.mono hb6H.out.size)
    obtain ⟨f1, f2, f3⟩ := fin2 hr8 hbw8 (by omega) (.slice A8 (withF L (x.1, C, sy)).length c8) (.slice B T.length d)
    obtain ⟨q0, q1, -, -⟩ := two f1
    have hgr := some_lt hr6H.out
    obtain ⟨A9, c9, he9, hF9⟩ := (hR8.only f2 (fun y hy => by have := (World.ownsRow.lt hR8 y hy).1; simp; omega)).files
    refine bodyPost_ret (v := .tuple #[.agg #[.slice A8 (withF L (x.1, C, sy)).length c8, .slice B T.length d], .int .i64 0]) (by simp [results, Try.results29, go_sem, q0, q1]) rfl ?_
    exact ⟨⟨_, rfl, A9, c9, B, d, by rw [he9], hF9, hB.on f3⟩, f3⟩
end Go.Proofs.Ythdgfchmglkpaaa
