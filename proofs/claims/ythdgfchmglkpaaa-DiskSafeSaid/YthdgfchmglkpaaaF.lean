/-
  Disks in memory as values; the document's Write. Premise: rows have lengths that Go's own rows have, texts together fit in Go's own.
-/
import Derived.Test.YthdgfchmglkpaaaChecked
import Derived.Test.YthdgfchmglkpaaaMath
import Derived.Test.YthdgfchmglkpaaaA
import Derived.Test.YthdgfchmglkpaaaB
import Derived.Test.YthdgfchmglkpaaaC
import Derived.Test.YthdgfchmglkpaaaD
import Derived.Test.YthdgfchmglkpaaaE
import Derived.WalkKit
import Derived.WalkSpells
import Derived.WalkLawsBesides
import Derived.Deep.QuietTactic
import Derived.BigQuiet
import Derived.Lib.Hide
import Derived.Lib.SmallJoins
import Derived.Outline
import Derived.OwnWalk
import Derived.Deep.CutBlock
import Derived.BigRegion
import Derived.StillTailTactics
import Derived.Laws.AppendOwnNone
import Derived.Maps.AppendAt
import Derived.Deep.RegionLaw
import Derived.Deep.RegionHeld3
import Derived.Lib.BufferRead
import Derived.Deep.AppendLies
namespace Go.Proofs.Ythdgfchmglkpaaa
open Go.RowKit
abbrev Dk := List Fl × List Ft
/-- A disk as a value. -/
def DkAt (W : World) (v : Value) (D : Dk) : Prop := ∃ A c B d, v = .agg #[.slice A D.1.length c, .slice B D.2.length d] ∧ FilesAt W A D.1 ∧ FaultsAt W B D.2
theorem DkAt.on {W W' : World} {v : Value} {D : Dk} (h : DkAt W v D) (hb : Below W.heap.size W W') : DkAt W' v D := by
  obtain ⟨A, c, B, d, h1, h2, h3⟩ := h
  exact ⟨A, c, B, d, h1, h2.on hb, h3.on hb⟩
/-- Few files, few faults. -/
def Few (D : Dk) : Prop := D.1.length ≤ 1000000 ∧ D.2.length ≤ 1000000
def cutS (s : ByteArray) (q : Bool) (n : Int) : ByteArray := if q = true then s.extract 0 (betw n s.size).toNat else s
def noF : Fl := (⟨#[]⟩, ⟨#[]⟩, 0)
def writeF (D : Dk) (k s : ByteArray) : Dk × Nat × Int :=
  ((withF D.1 (k, ((findF D.1 k).getD noF).2.1 ++ cutS s (meetF D.2 k 1).2.2 (meetF D.2 k 1).2.1.2.2, ((findF D.1 k).getD noF).2.2), (meetF D.2 k 1).1),
   (cutS s (meetF D.2 k 1).2.2 (meetF D.2 k 1).2.1.2.2).size, if (meetF D.2 k 1).2.2 = true then 15 else 0)
theorem fileV_getD (o : Option Fl) : fileV o = .agg #[.string (o.getD noF).1, .string (o.getD noF).2.1, .int .i64 (o.getD noF).2.2] := by cases o <;> rfl
theorem cutS_le (s : ByteArray) (q : Bool) (n : Int) : (cutS s q n).size ≤ s.size := by
  unfold cutS
  split
  · simp; omega
  · exact Nat.le_refl _
theorem find_size {L : List Fl} {B : Nat} (h : ∀ f ∈ L, f.2.1.size ≤ B) (k : ByteArray) : ((findF L k).getD noF).2.1.size ≤ B := by
  cases hf : findF L k with
  | none => exact Nat.zero_le _
  | some f =>
    obtain ⟨_, g, hg, rfl⟩ := find_some hf
    exact h g hg
/-- A disk assigned to a variable g, a fault laid into a variable of its own. -/
theorem met_world {w3 : World} {g : Nat} {a0 b0 : Value} (hg : w3.heap[g]? = some (.cells #[a0, b0] 25 (0, 0))) (a b u0 u1 u2 : Value) (z : Obj) {c0 c1 c2 : Value} (hz : z = .cells #[c0, c1, c2] 70) :
    ∃ Y, Y = (((((w3.alloc z).setCell ⟨g, 0, none⟩ a).setCell ⟨g, 1, none⟩ b).setCell ⟨w3.heap.size, 0, none⟩ u0).setCell ⟨w3.heap.size, 1, none⟩ u1).setCell ⟨w3.heap.size, 2, none⟩ u2 ∧ Y.heap[g]? = some (.cells #[a, b] 25 (0, 0)) ∧ Y.heap[w3.heap.size]? = some (.cells #[u0, u1, u2] 70 (0, 0)) ∧ Only [g] w3 Y := by
  have hlt := some_lt hg
  have h0 := (Lib.alloc_old w3 z g hlt).trans hg
  have hn := heap_alloc_new w3 z
  have o0 : Only [g] w3 (w3.alloc z) := (Only.refl [g] w3).alloc _
  have o1 : Only [g] w3 (((w3.alloc z).setCell ⟨g, 0, none⟩ a).setCell ⟨g, 1, none⟩ b) := (o0.set (p := ⟨g, 0, none⟩) (Or.inl (by simp)) a).set (p := ⟨g, 1, none⟩) (Or.inl (by simp)) b
  have h1 := store2 h0 a b
  have hn1 : (((w3.alloc z).setCell ⟨g, 0, none⟩ a).setCell ⟨g, 1, none⟩ b).heap[w3.heap.size]? = some z := by
    rw [Below.heap_setCell _ _ _ _ (by simp; omega), Below.heap_setCell _ _ _ _ (by simp; omega)]
    exact hn
  generalize ((w3.alloc z).setCell ⟨g, 0, none⟩ a).setCell ⟨g, 1, none⟩ b = X at o1 h1 hn1
  rw [hz] at hn1
  have o2 : Only [w3.heap.size] X (((X.setCell ⟨w3.heap.size, 0, none⟩ u0).setCell ⟨w3.heap.size, 1, none⟩ u1).setCell ⟨w3.heap.size, 2, none⟩ u2) := (((Only.refl [w3.heap.size] X).set (p := ⟨w3.heap.size, 0, none⟩) (Or.inl (by simp)) u0).set (p := ⟨w3.heap.size, 1, none⟩) (Or.inl (by simp)) u1).set (p := ⟨w3.heap.size, 2, none⟩) (Or.inl (by simp)) u2
  exact ⟨_, rfl, o2.keep h1 (by simp; omega), store3 hn1 u0 u1 u2, o1.trans o2 (fun x hx => by rw [List.mem_singleton.1 hx]; exact Or.inr (Nat.le_refl _))⟩
theorem new_set2 (X : World) (g : Nat) (a b : Value) (o : Obj) : (((X.setCell ⟨g, 0, none⟩ a).setCell ⟨g, 1, none⟩ b).alloc o).heap[X.heap.size]? = some o := by
  have e : ((X.setCell ⟨g, 0, none⟩ a).setCell ⟨g, 1, none⟩ b).heap.size = X.heap.size := by simp [World.setCell]
  rw [← e]
  exact heap_alloc_new _ _
theorem set2_new (X : World) (g : Nat) (hg : g < X.heap.size) (a b : Value) (o : Obj) : (((X.alloc o).setCell ⟨g, 0, none⟩ a).setCell ⟨g, 1, none⟩ b).heap[X.heap.size]? = some o := by
  rw [Below.heap_setCell _ _ _ _ (by simp; omega), Below.heap_setCell _ _ _ _ (by simp; omega)]
  exact heap_alloc_new _ _
set_option maxRecDepth 100000 in
set_option maxHeartbeats 8000000 in
theorem rwrite_any {w : World} {v : Value} {D : Dk} (k s : ByteArray) (h : DkAt w v D) (hl : Few D) (hs : ∀ f ∈ D.1, f.2.1.size ≤ 4611686018427387904) (hss : s.size ≤ 4611686018427387903) :
    Calls Try.prog 25 #[v, .string k, .string s] w fun r w' => (∃ v', r = .returned (.tuple #[v', .int .i64 ((writeF D k s).2.1 : Nat), .int .i64 (writeF D k s).2.2]) ∧ DkAt w' v' (writeF D k s).1) ∧ Below w.heap.size w w' := by
  obtain ⟨A, c, B, d, rfl, hA, hB⟩ := h
  obtain ⟨L, T⟩ := D
  simp only [] at hA hB hs ⊢
  obtain ⟨hl1, hl2⟩ := hl
  simp only [] at hl1 hl2
  have hx0 := find_size hs k
  have hMe := Lib.hid (fun (X : World) (hX : Below w.heap.size w X) => rmeets_any (A := A) (n := L.length) (c := c) (d := d) k 1 (hB.on hX) hl2)
  have hFi := Lib.hid (fun (X : World) (hX : Below w.heap.size w X) (m e : Nat) (B' : Option Addr) => rfind_any (B := B') (c := c) (m := m) (d := e) k (hA.on hX) (by omega))
  have hWi := Lib.hid (fun (X : World) (hX : Below w.heap.size w X) (f : Fl) (m e : Nat) (B' : Option Addr) => rwith_any (B := B') (c := c) (m := m) (d := e) f (hA.on hX) hl1)
  unfold writeF
  simp only []
  have hcs := cutS_le s (meetF T k 1).2.2 (meetF T k 1).2.1.2.2
  generalize hmt : meetF T k 1 = mm at *
  generalize (findF L k) = fo at *
  obtain ⟨O, mt, q⟩ := mm
  rw [fileV_getD] at hFi
  obtain ⟨x, hx⟩ : ∃ x, x = fo.getD noF := ⟨_, rfl⟩
  rw [← hx] at hFi hx0 ⊢
  clear hx
  simp only [] at hMe hcs ⊢
  have hMe2 : Hid (∀ X, Below w.heap.size w X → Calls Try.prog 45 #[.agg #[.slice A L.length c, .slice B T.length d], .string k, .int .i64 1] X fun r w' => (∃ B' d', r = .returned (.tuple #[.agg #[.slice A L.length c, .slice B' O.length d'], .agg #[.string mt.1, .int .i64 mt.2.1, .int .i64 mt.2.2], .bool q]) ∧ RowT w' X.heap.size (.slice B' O.length d') O) ∧ Below X.heap.size X w') := Lib.hid (fun X hX => (hMe.out X hX).mono (by
    rintro e w' ⟨⟨v, rfl, hr⟩, hb⟩
    obtain ⟨B', d', rfl, -⟩ := hr.faults
    exact ⟨⟨B', d', rfl, hr⟩, hb⟩))
  have hd0 := heap_alloc_new w (.cells #[.slice A L.length c, .slice B T.length d] 25)
  have hb0 : Below w.heap.size w ((w.alloc (.cells #[.slice A L.length c, .slice B T.length d] 25)).alloc (.cells #[.slice none 0 0, .slice none 0 0] 25)) := ((Below.refl _ _).alloc (Nat.le_refl _) _).alloc (by simp) _
  have hd1 := (Lib.alloc_old (w.alloc (.cells #[.slice A L.length c, .slice B T.length d] 25)) (.cells #[.slice none 0 0, .slice none 0 0] 25) w.heap.size (by simp)).trans hd0
  have hr1 := heap_alloc_new (w.alloc (.cells #[.slice A L.length c, .slice B T.length d] 25)) (.cells #[.slice none 0 0, .slice none 0 0] 25)
  simp only [World.size_alloc] at hr1
  go_enter Try.func25, Try.ntmps25
  go_upto_region 1 with fail
  generalize ((w.alloc (.cells #[.slice A L.length c, .slice B T.length d] 25)).alloc (.cells #[.slice none 0 0, .slice none 0 0] 25)) = W2 at hd1 hb0 hr1 ⊢
  obtain ⟨x0, x1, -, -⟩ := two hd1
  have hlW2 := some_lt hr1
  go_upto_region 2 with (go_at_call 45; (with_reducible refine (hMe2.out _ hb0).mono ?_); rintro e w3 ⟨⟨B3, d3, rfl, hB3⟩, hb3⟩; have hd3 := (hb3.block w.heap.size (some_lt hd1)).trans hd1; obtain ⟨y0, y1, y2, y3⟩ := two hd3; have hd4 := (Lib.alloc_old w3 (.cells #[.string ⟨#[]⟩, .int .i64 0, .int .i64 0] 70) w.heap.size (some_lt hd3)).trans hd3; obtain ⟨z0, z1, z2, z3⟩ := two hd4; have hn4 := new_set2 w3 w.heap.size (.slice A L.length c) (.slice B3 O.length d3) (.cells #[.string ⟨#[]⟩, .int .i64 0, .int .i64 0] 70); obtain ⟨n0, n1, n2, n3, n4, n5⟩ := three hn4; have hn5 := set2_new w3 w.heap.size (some_lt hd3) (.slice A L.length c) (.slice B3 O.length d3) (.cells #[.string ⟨#[]⟩, .int .i64 0, .int .i64 0] 70); obtain ⟨m0, m1, m2, m3, m4, m5⟩ := three hn5)
  obtain ⟨Y, hY, e1, e2, e3⟩ := met_world hd3 (.slice A L.length c) (.slice B3 O.length d3) (.string mt.1) (.int .i64 mt.2.1) (.int .i64 mt.2.2) (.cells #[.string ⟨#[]⟩, .int .i64 0, .int .i64 0] 70) rfl
  rw [← hY]
  have hrY := e3.keep ((hb3.block (w.heap.size + 1) (some_lt hr1)).trans hr1) (by simp)
  have hbY : Below w.heap.size w Y := (hb0.trans (hb3.mono hb0.size)).trans (e3.below (hb0.trans (hb3.mono hb0.size)).size (fun k hk => by rw [List.mem_singleton.1 hk]; exact Nat.le_refl _))
  have hTY := hB3.only e3 (fun k hk => by have := (World.ownsRow.lt hB3 k hk).1; have := some_lt hr1; simp; omega)
  have hgm := some_lt e2
  clear hY hd4 hn4 hn5 hd3 hd1 hr1 hb3 x0 x1 y0 y1 y2 y3 z0 z1 z2 z3 n0 n1 n2 n3 n4 n5 m0 m1 m2 m3 m4 m5 hMe2 hMe
  generalize w3.heap.size = gm at e2 hgm ⊢
  obtain ⟨y0, y1, -, -⟩ := two e1
  obtain ⟨z0, z1, z2, -, -, -⟩ := three e2
  have hFH := Lib.hid (hFi.out Y hbY O.length d3 B3)
  have hbt := betw_le (n := mt.2.2) (m := (s.size : Int)) (by omega)
  cases q with
  | true =>
    have hcu : Hid (cutS s true mt.2.2 = (s.extract 0 (betw mt.2.2 s.size).toNat)) := Lib.hid rfl
    have hbw := Lib.hid (fun W => rbetween_any mt.2.2 (s.size : Int) W)
    have hsz1 : (s.extract 0 (betw mt.2.2 s.size).toNat).size ≤ s.size := by simp; omega
    go_upto_region 6 with (go_at_call 32; (with_reducible refine (hbw.out _).mono ?_); rintro e w4 ⟨rfl, rfl⟩)
    clear z0 z1 z2
    go_upto_region 7 with (go_at_call 11; (with_reducible refine (hFH.out).mono ?_); rintro e w5 ⟨rfl, hb5⟩)
    have ha := heap_alloc_new w5 (.cells #[.string x.1, .string x.2.1, .int .i64 x.2.2] 39)
    have hb := heap_alloc_new w5 (.cells #[.string k, .string x.2.1, .int .i64 x.2.2] 39)
    have hc := heap_alloc_new w5 (.cells #[.string k, .string (x.2.1 ++ (s.extract 0 (betw mt.2.2 s.size).toNat)), .int .i64 x.2.2] 39)
    obtain ⟨a0, a1, a2, a3, a4, a5⟩ := three ha
    obtain ⟨b0, b1, b2, b3, b4, b5⟩ := three hb
    obtain ⟨c0, c1, c2, -, -, -⟩ := three hc
    have hb6 : Below Y.heap.size Y (w5.alloc (.cells #[.string k, .string (x.2.1 ++ (s.extract 0 (betw mt.2.2 s.size).toNat)), .int .i64 x.2.2] 39)) := hb5.alloc hb5.size _
    have hd6 := (hb6.block w.heap.size (some_lt e1)).trans e1
    obtain ⟨t0, t1, -, -⟩ := two hd6
    have hr6 := (hb6.block (w.heap.size + 1) (some_lt hrY)).trans hrY
    have hT6 := hTY.on hb6
    have hWH := Lib.hid (hWi.out (w5.alloc (.cells #[.string k, .string (x.2.1 ++ (s.extract 0 (betw mt.2.2 s.size).toNat)), .int .i64 x.2.2] 39)) (hbY.trans (hb6.mono hbY.size)) (k, x.2.1 ++ (s.extract 0 (betw mt.2.2 s.size).toNat), x.2.2) O.length d3 B3)
    have hb6H := Lib.hid (hbY.trans (hb6.mono hbY.size))
    have hT6H := Lib.hid hT6
    have hr6H := Lib.hid hr6
    have hszS : x.2.1.size + (s.extract 0 (betw mt.2.2 s.size).toNat).size ≤ 9223372036854775807 := by omega
    clear hFH hb6 hd6 hr6 hT6 ha hb hc hb5 e1 e2 hrY hTY hbY hFi hWi
    go_wp2_with (go_at_call 46; (with_reducible refine (hWH.out).mono ?_); rintro e w8 ⟨⟨v8, rfl, hR8⟩, hb8⟩; obtain ⟨A8, c8, rfl, -⟩ := hR8.files; have hr8 := (hb8.block (w.heap.size + 1) (some_lt hr6H.out)).trans hr6H.out; obtain ⟨p0, p1, p2, p3⟩ := two hr8)
    obtain ⟨q0, q1, -, -⟩ := two (store2 hr8 (.slice A8 (withF L (k, x.2.1 ++ (s.extract 0 (betw mt.2.2 s.size).toNat), x.2.2)).length c8) (.slice B3 O.length d3))
    have o8 : Only [w.heap.size + 1] w8 ((w8.setCell ⟨w.heap.size + 1, 0, none⟩ (.slice A8 (withF L (k, x.2.1 ++ (s.extract 0 (betw mt.2.2 s.size).toNat), x.2.2)).length c8)).setCell ⟨w.heap.size + 1, 1, none⟩ (.slice B3 O.length d3)) := ((Only.refl _ _).set (p := ⟨w.heap.size + 1, 0, none⟩) (Or.inl (by simp)) _).set (p := ⟨w.heap.size + 1, 1, none⟩) (Or.inl (by simp)) _
    have hbz := hb6H.out.trans (hb8.mono hb6H.out.size)
    have hgr := some_lt hr6H.out
    obtain ⟨A9, c9, he9, hF9⟩ := (hR8.only o8 (fun y hy => by have := (World.ownsRow.lt hR8 y hy).1; simp; omega)).files
    obtain ⟨B9, d9, he9', hT9⟩ := ((hT6H.out.on hb8).only o8 (fun y hy => by have := (World.ownsRow.lt (hT6H.out.on hb8) y hy).1; have := hlW2; simp; omega)).faults
    refine bodyPost_ret (v := .tuple #[.agg #[.slice A8 (withF L (k, x.2.1 ++ (s.extract 0 (betw mt.2.2 s.size).toNat), x.2.2)).length c8, .slice B3 O.length d3], .int .i64 ((s.extract 0 (betw mt.2.2 s.size).toNat).size : Nat), .int .i64 15]) (by simp [results, Try.results25, go_sem, q0, q1] <;> omega) rfl ?_
    rw [hcu.out]
    exact ⟨⟨_, rfl, A9, c9, B9, d9, by rw [he9, he9'], hF9, hT9⟩, hbz.trans (o8.below hbz.size (fun y hy => by rw [List.mem_singleton.1 hy]; omega))⟩
  | false =>
    have hcu : Hid (cutS s false mt.2.2 = s) := Lib.hid rfl
    go_upto_region 6 with fail
    clear z0 z1 z2
    go_upto_region 7 with (go_at_call 11; (with_reducible refine (hFH.out).mono ?_); rintro e w5 ⟨rfl, hb5⟩)
    have ha := heap_alloc_new w5 (.cells #[.string x.1, .string x.2.1, .int .i64 x.2.2] 39)
    have hb := heap_alloc_new w5 (.cells #[.string k, .string x.2.1, .int .i64 x.2.2] 39)
    have hc := heap_alloc_new w5 (.cells #[.string k, .string (x.2.1 ++ s), .int .i64 x.2.2] 39)
    obtain ⟨a0, a1, a2, a3, a4, a5⟩ := three ha
    obtain ⟨b0, b1, b2, b3, b4, b5⟩ := three hb
    obtain ⟨c0, c1, c2, -, -, -⟩ := three hc
    have hb6 : Below Y.heap.size Y (w5.alloc (.cells #[.string k, .string (x.2.1 ++ s), .int .i64 x.2.2] 39)) := hb5.alloc hb5.size _
    have hd6 := (hb6.block w.heap.size (some_lt e1)).trans e1
    obtain ⟨t0, t1, -, -⟩ := two hd6
    have hr6 := (hb6.block (w.heap.size + 1) (some_lt hrY)).trans hrY
    have hT6 := hTY.on hb6
    have hWH := Lib.hid (hWi.out (w5.alloc (.cells #[.string k, .string (x.2.1 ++ s), .int .i64 x.2.2] 39)) (hbY.trans (hb6.mono hbY.size)) (k, x.2.1 ++ s, x.2.2) O.length d3 B3)
    have hb6H := Lib.hid (hbY.trans (hb6.mono hbY.size))
    have hT6H := Lib.hid hT6
    have hr6H := Lib.hid hr6
    have hszS : x.2.1.size + s.size ≤ 9223372036854775807 := by omega
    clear hFH hb6 hd6 hr6 hT6 ha hb hc hb5 e1 e2 hrY hTY hbY hFi hWi
    go_wp2_with (go_at_call 46; (with_reducible refine (hWH.out).mono ?_); rintro e w8 ⟨⟨v8, rfl, hR8⟩, hb8⟩; obtain ⟨A8, c8, rfl, -⟩ := hR8.files; have hr8 := (hb8.block (w.heap.size + 1) (some_lt hr6H.out)).trans hr6H.out; obtain ⟨p0, p1, p2, p3⟩ := two hr8)
    obtain ⟨q0, q1, -, -⟩ := two (store2 hr8 (.slice A8 (withF L (k, x.2.1 ++ s, x.2.2)).length c8) (.slice B3 O.length d3))
    have o8 : Only [w.heap.size + 1] w8 ((w8.setCell ⟨w.heap.size + 1, 0, none⟩ (.slice A8 (withF L (k, x.2.1 ++ s, x.2.2)).length c8)).setCell ⟨w.heap.size + 1, 1, none⟩ (.slice B3 O.length d3)) := ((Only.refl _ _).set (p := ⟨w.heap.size + 1, 0, none⟩) (Or.inl (by simp)) _).set (p := ⟨w.heap.size + 1, 1, none⟩) (Or.inl (by simp)) _
    have hbz := hb6H.out.trans (hb8.mono hb6H.out.size)
    have hgr := some_lt hr6H.out
    obtain ⟨A9, c9, he9, hF9⟩ := (hR8.only o8 (fun y hy => by have := (World.ownsRow.lt hR8 y hy).1; simp; omega)).files
    obtain ⟨B9, d9, he9', hT9⟩ := ((hT6H.out.on hb8).only o8 (fun y hy => by have := (World.ownsRow.lt (hT6H.out.on hb8) y hy).1; have := hlW2; simp; omega)).faults
    refine bodyPost_ret (v := .tuple #[.agg #[.slice A8 (withF L (k, x.2.1 ++ s, x.2.2)).length c8, .slice B3 O.length d3], .int .i64 (s.size : Nat), .int .i64 0]) (by simp [results, Try.results25, go_sem, q0, q1] <;> omega) rfl ?_
    rw [hcu.out]
    exact ⟨⟨_, rfl, A9, c9, B9, d9, by rw [he9, he9'], hF9, hT9⟩, hbz.trans (o8.below hbz.size (fun y hy => by rw [List.mem_singleton.1 hy]; omega))⟩
end Go.Proofs.Ythdgfchmglkpaaa
