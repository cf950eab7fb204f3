/-
  Files and faults in memory; the document's between and Find. Premise: rows have lengths that Go's own rows have.
-/
import Derived.Test.YthdgfchmglkpaaaChecked
import Derived.Test.YthdgfchmglkpaaaMath
import Derived.Test.YthdgfchmglkpaaaA
import Derived.WalkKit
import Derived.WalkSpells
import Derived.WalkLawsBesides
import Derived.Deep.QuietTactic
import Derived.BigQuiet
import Derived.Lib.Hide
import Derived.Lib.SmallJoins
import Derived.Outline
import Derived.OwnWalk
import Derived.Deep.CutBlock
import Derived.BigRegion
import Derived.StillTailTactics
import Derived.Laws.AppendOwnNone
import Derived.Maps.AppendAt
import Derived.Deep.RegionLaw
import Derived.Deep.RegionHeld3
import Derived.Lib.BufferRead
namespace Go.Proofs.Ythdgfchmglkpaaa
open Go.RowKit
/-- A block is there. -/
def LieB (W : World) (_t : TypeId) (b : Nat) : Prop := b < W.heap.size
theorem LieB.lt {W : World} {t : TypeId} {b : Nat} (h : LieB W t b) : b < W.heap.size := h
theorem LieB.at {W : World} {t : TypeId} {b : Nat} {cs : Array Value} {fr : Nat × Nat} (h : W.heap[b]? = some (.cells cs t fr)) : LieB W t b := by
  rcases Nat.lt_or_ge b W.heap.size with hl | hl
  · exact hl
  · rw [Array.getElem?_eq_none hl] at h; cases h
theorem LieB.kept {W W' : World} {t : TypeId} {b : Nat} (h : LieB W t b) (_hk : W'.heap[b]? = W.heap[b]?) (hs : W.heap.size ≤ W'.heap.size) : LieB W' t b := Nat.lt_of_lt_of_le h hs
theorem LieB.set {W : World} {t : TypeId} {b : Nat} (h : LieB W t b) (p : Addr) (v : Value) : LieB (W.setCell p v) t b := by unfold LieB at *; simpa [World.setCell] using h
-- (there) --
theorem LieB.on {W W' : World} {t : TypeId} {b : Nat} (h : LieB W t b) (hb : Below W.heap.size W W') : LieB W' t b := h.kept (hb.block b h.lt) hb.size
def FilesAt (W : World) (A : Option Addr) (L : List Fl) : Prop := ∀ i f, L[i]? = some f → ∃ a, A = some a ∧ LieB W 39 a.block ∧
  W.cell? (a.add (i * 3)) = some (.string f.1) ∧ W.cell? ⟨(a.add (i * 3)).block, (a.add (i * 3)).off + 1, none⟩ = some (.string f.2.1) ∧ W.cell? ⟨(a.add (i * 3)).block, (a.add (i * 3)).off + 2, none⟩ = some (.int .i64 f.2.2)
def FaultsAt (W : World) (A : Option Addr) (T : List Ft) : Prop := ∀ i f, T[i]? = some f → ∃ a, A = some a ∧ LieB W 70 a.block ∧
  W.cell? (a.add (i * 3)) = some (.string f.1) ∧ W.cell? ⟨(a.add (i * 3)).block, (a.add (i * 3)).off + 1, none⟩ = some (.int .i64 f.2.1) ∧ W.cell? ⟨(a.add (i * 3)).block, (a.add (i * 3)).off + 2, none⟩ = some (.int .i64 f.2.2)
theorem FilesAt.on {W W' : World} {A : Option Addr} {L : List Fl} (h : FilesAt W A L) (hb : Below W.heap.size W W') : FilesAt W' A L := fun i f hi => by
  obtain ⟨a, h1, h2, h3, h4, h5⟩ := h i f hi
  have e : ((a.add (i * 3)) : Addr).block < W.heap.size := by rw [add_block]; exact h2.lt
  exact ⟨a, h1, h2.on hb, (hb.cell e).trans h3, (hb.cell (p := ⟨(a.add (i * 3)).block, _, none⟩) e).trans h4, (hb.cell (p := ⟨(a.add (i * 3)).block, _, none⟩) e).trans h5⟩
theorem FaultsAt.on {W W' : World} {A : Option Addr} {T : List Ft} (h : FaultsAt W A T) (hb : Below W.heap.size W W') : FaultsAt W' A T := fun i f hi => by
  obtain ⟨a, h1, h2, h3, h4, h5⟩ := h i f hi
  have e : ((a.add (i * 3)) : Addr).block < W.heap.size := by rw [add_block]; exact h2.lt
  exact ⟨a, h1, h2.on hb, (hb.cell e).trans h3, (hb.cell (p := ⟨(a.add (i * 3)).block, _, none⟩) e).trans h4, (hb.cell (p := ⟨(a.add (i * 3)).block, _, none⟩) e).trans h5⟩
theorem run_ixF (a : Addr) (k n c : Nat) (hk : k < n) (w : World) : Sem.run Try.prog (Instr.indexAt 22 (.slice (some a) n c) (.int .i64 (k : Int))) w = .ok (.pointer (some (a.add (k * 3)))) w := by
  go_simp
theorem run_ixT (a : Addr) (k n c : Nat) (hk : k < n) (w : World) : Sem.run Try.prog (Instr.indexAt 23 (.slice (some a) n c) (.int .i64 (k : Int))) w = .ok (.pointer (some (a.add (k * 3)))) w := by
  go_simp
theorem box_below {w : World} {cs : Array Value} {t : TypeId} : Below w.heap.size w (w.alloc (.cells cs t)) := (Below.refl _ _).alloc (Nat.le_refl _) _
theorem rbetween_any (n m : Int) (w : World) : Calls Try.prog 32 #[.int .i64 n, .int .i64 m] w fun e w' => e = .returned (.int .i64 (betw n m)) ∧ w = w' := by
  unfold betw
  by_cases h1 : n < 0
  · rw [if_pos h1]
    have d1 : decide (n < 0) = true := decide_eq_true h1
    go_enter Try.func32, Try.ntmps32
    go_wp2_with fail
    go_ret
    exact ⟨rfl, rfl⟩
  · rw [if_neg h1]
    have d1 : decide (n < 0) = false := decide_eq_false h1
    by_cases h2 : m < n
    · rw [if_pos h2]
      have d2 : decide (m < n) = true := decide_eq_true h2
      go_enter Try.func32, Try.ntmps32
      go_wp2_with fail
      go_ret
      exact ⟨rfl, rfl⟩
    · rw [if_neg h2]
      have d2 : decide (m < n) = false := decide_eq_false h2
      go_enter Try.func32, Try.ntmps32
      go_wp2_with fail
      go_ret
      exact ⟨rfl, rfl⟩
theorem heap_alloc_lt {w : World} {k : Nat} {o : Obj} (h : w.heap[k]? = some o) : k < w.heap.size := some_lt h
def fileV : Option Fl → Value
  | some f => .agg #[.string f.1, .string f.2.1, .int .i64 f.2.2]
  | none => .agg #[.string ⟨#[]⟩, .string ⟨#[]⟩, .int .i64 0]
theorem find_step {L : List Fl} {i : Nat} {f : Fl} {k : ByteArray} (h : L[i]? = some f) (h0 : findF (L.take i) k = none) : (f.1 = k → findF L k = some (normF f)) ∧ (f.1 ≠ k → findF (L.take (i + 1)) k = none) := by
  have e : L.take (i + 1) = L.take i ++ [f] := by rw [List.take_add_one, h]; rfl
  constructor
  · intro hk
    have hl : L = (L.take i ++ [f]) ++ L.drop (i + 1) := by rw [← e, List.take_append_drop]
    unfold findF
    rw [hl, List.find?_append, List.find?_append]
    unfold findF at h0
    rw [Option.map_eq_none_iff] at h0
    rw [h0]
    simp [hk]
  · intro hk
    rw [e, find_snoc, h0, if_neg hk]
    rfl
theorem store3 {X : World} {b : Nat} {o0 o1 o2 : Value} {ty : TypeId} (h : X.heap[b]? = some (.cells #[o0, o1, o2] ty (0, 0))) (v0 v1 v2 : Value) :
    (((X.setCell ⟨b, 0, none⟩ v0).setCell ⟨b, 1, none⟩ v1).setCell ⟨b, 2, none⟩ v2).heap[b]? = some (.cells #[v0, v1, v2] ty (0, 0)) := by
  simp [World.setCell, Array.getElem?_modify, h]
theorem store2 {X : World} {b : Nat} {o0 o1 : Value} {ty : TypeId} (h : X.heap[b]? = some (.cells #[o0, o1] ty (0, 0))) (v0 v1 : Value) :
    ((X.setCell ⟨b, 0, none⟩ v0).setCell ⟨b, 1, none⟩ v1).heap[b]? = some (.cells #[v0, v1] ty (0, 0)) := by
  simp [World.setCell, Array.getElem?_modify, h]
theorem below_set3 {B : Nat} {w X : World} (h : Below B w X) {b : Nat} (hb : B ≤ b) (v0 v1 v2 : Value) : Below B w (((X.setCell ⟨b, 0, none⟩ v0).setCell ⟨b, 1, none⟩ v1).setCell ⟨b, 2, none⟩ v2) :=
  ((h.setCell (p := ⟨b, 0, none⟩) hb v0).setCell (p := ⟨b, 1, none⟩) hb v1).setCell (p := ⟨b, 2, none⟩) hb v2
theorem below_set2 {B : Nat} {w X : World} (h : Below B w X) {b : Nat} (hb : B ≤ b) (v0 v1 : Value) : Below B w ((X.setCell ⟨b, 0, none⟩ v0).setCell ⟨b, 1, none⟩ v1) :=
  (h.setCell (p := ⟨b, 0, none⟩) hb v0).setCell (p := ⟨b, 1, none⟩) hb v1
theorem three {X : World} {b : Nat} {o0 o1 o2 : Value} {ty : TypeId} (h : X.heap[b]? = some (.cells #[o0, o1, o2] ty (0, 0))) : X.cell? ⟨b, 0, none⟩ = some o0 ∧ X.cell? ⟨b, 1, none⟩ = some o1 ∧ X.cell? ⟨b, 2, none⟩ = some o2 ∧ X.frozen? ⟨b, 0, none⟩ = false ∧ X.frozen? ⟨b, 1, none⟩ = false ∧ X.frozen? ⟨b, 2, none⟩ = false :=
  ⟨Lib.cell_of_heap h 0, Lib.cell_of_heap h 1, Lib.cell_of_heap h 2, Lib.frozen_of_heap h 0, Lib.frozen_of_heap h 1, Lib.frozen_of_heap h 2⟩
theorem two {X : World} {b : Nat} {o0 o1 : Value} {ty : TypeId} (h : X.heap[b]? = some (.cells #[o0, o1] ty (0, 0))) : X.cell? ⟨b, 0, none⟩ = some o0 ∧ X.cell? ⟨b, 1, none⟩ = some o1 ∧ X.frozen? ⟨b, 0, none⟩ = false ∧ X.frozen? ⟨b, 1, none⟩ = false :=
  ⟨Lib.cell_of_heap h 0, Lib.cell_of_heap h 1, Lib.frozen_of_heap h 0, Lib.frozen_of_heap h 1⟩
set_option maxHeartbeats 4000000 in
theorem rfind_any {w : World} {A B : Option Addr} {c m d : Nat} {L : List Fl} (k : ByteArray) (h : FilesAt w A L) (hl : L.length ≤ 140737488355328) :
    Calls Try.prog 11 #[.agg #[.slice A L.length c, .slice B m d], .string k] w fun r w' => r = .returned (.tuple #[fileV (findF L k), .bool (findF L k).isSome]) ∧ Below w.heap.size w w' := by
  have hd0 := heap_alloc_new w (.cells #[.slice A L.length c, .slice B m d] 25)
  have hr0 := heap_alloc_new (w.alloc (.cells #[.slice A L.length c, .slice B m d] 25)) (.cells #[.string ⟨#[]⟩, .string ⟨#[]⟩, .int .i64 0] 39)
  have hd1 := (Lib.alloc_old (w.alloc (.cells #[.slice A L.length c, .slice B m d] 25)) (.cells #[.string ⟨#[]⟩, .string ⟨#[]⟩, .int .i64 0] 39) w.heap.size (by simp)).trans hd0
  have hb1 : Below w.heap.size w ((w.alloc (.cells #[.slice A L.length c, .slice B m d] 25)).alloc (.cells #[.string ⟨#[]⟩, .string ⟨#[]⟩, .int .i64 0] 39)) := ((Below.refl _ _).alloc (Nat.le_refl _) _).alloc (by simp) _
  simp only [World.size_alloc] at hr0
  have hHf := h.on hb1
  have hstep : Hid (∀ i f, L[i]? = some f → findF (L.take i) k = none → (f.1 = k → findF L k = some (normF f)) ∧ (f.1 ≠ k → findF (L.take (i + 1)) k = none)) := Lib.hid (fun i f h h0 => find_step h h0)
  have hfin : Hid (findF (L.take L.length) k = findF L k) := Lib.hid (by rw [List.take_length])
  have hget : Hid (∀ i, i < L.length → ∃ f, L[i]? = some f) := Lib.hid (fun i hi => ⟨_, List.getElem?_eq_getElem hi⟩)
  obtain ⟨G, hG⟩ : ∃ G, G = findF L k := ⟨_, rfl⟩
  rw [← hG] at hstep hfin ⊢
  clear hd0 h hG
  generalize L.length = n at *
  go_enter Try.func11, Try.ntmps11
  go_upto_region 1 with fail
  generalize ((w.alloc (.cells #[.slice A n c, .slice B m d] 25)).alloc (.cells #[.string ⟨#[]⟩, .string ⟨#[]⟩, .int .i64 0] 39)) = W2 at hd1 hr0 hb1 hHf ⊢
  have hdH := Lib.hid hd1
  have hrH := Lib.hid hr0
  have hbH := Lib.hid hb1
  have hHH := Lib.hid hHf
  have hz0 := heap_alloc_lt hd1
  have hz1 := heap_alloc_lt hr0
  clear hd1 hr0 hb1 hHf
  go_wp2_with fail
  go_loopw [6] (fun s6 wr => ∃ i : Nat, i ≤ n ∧ s6 = .int .i64 i ∧ Hid (findF (L.take i) k = none) ∧ Hid (Below W2.heap.size W2 wr)) (fun s6 _ => n - (intOf s6).toNat)
  case atStart => exact ⟨0, by omega, rfl, Lib.hid rfl, Lib.hid (Below.refl _ _)⟩
  case round =>
    obtain ⟨i, hi, rfl, hno, hW⟩ := hrel
    have hdr := (hW.out.block w.heap.size hz0).trans hdH.out
    have hrr := (hW.out.block (w.heap.size + 1) hz1).trans hrH.out
    obtain ⟨x0, x1, -, -⟩ := two hdr
    by_cases hil : i < n
    · obtain ⟨f, hf⟩ := hget.out i hil
      obtain ⟨a, rfl, ha, y0, y1, y2⟩ := hHH.out.on hW.out i f hf
      have hix := run_ixF a i n c hil
      obtain ⟨hs1, hs2⟩ := hstep.out i f hf hno.out
      have hnew := heap_alloc_new wr (.cells #[.string f.1, .string f.2.1, .int .i64 f.2.2] 39)
      obtain ⟨z0, z1, z2, z3, z4, z5⟩ := three hnew
      have hilH := Lib.hid hil
      have dk : decide ((i : Int) < (n : Int)) = true := decide_eq_true (by omega)
      have dk2 : decide (i < n) = true := decide_eq_true hil
      have hwk := wrap_small (x := (i : Int) + 1) (by omega)
      have hB := Lib.hid (fun W => rbetween_any f.2.2 (f.2.1.size : Int) W)
      by_cases hk : f.1 = k
      · have hq : (f.1.toList == k.toList) = true := by rw [hk]; simp
        have hGe := Lib.hid (hs1 hk)
        clear hil hf hs1 hs2 hk
        go_upto_region 7 with (go_at_call 32; (with_reducible refine (hB.out _).mono ?_); rintro e w3 ⟨rfl, rfl⟩)
        have hnx := heap_alloc_new wr (.cells #[.string f.1, .string f.2.1, .int .i64 (betw f.2.2 (f.2.1.size : Int))] 39)
        have hrx := (Lib.alloc_old wr (.cells #[.string f.1, .string f.2.1, .int .i64 (betw f.2.2 (f.2.1.size : Int))] 39) (w.heap.size + 1) (some_lt hrr)).trans hrr
        have hbx : Below w.heap.size w (wr.alloc (.cells #[.string f.1, .string f.2.1, .int .i64 (betw f.2.2 (f.2.1.size : Int))] 39)) := (hbH.out.trans (hW.out.mono hbH.out.size)).alloc (hbH.out.trans (hW.out.mono hbH.out.size)).size _
        clear z0 z1 z2 z3 z4 z5 hnew y0 y1 y2 x0 x1 hix
        generalize (wr.alloc (.cells #[.string f.1, .string f.2.1, .int .i64 (betw f.2.2 (f.2.1.size : Int))] 39)) = X at hnx hrx hbx ⊢
        obtain ⟨z0, z1, z2, -, -, -⟩ := three hnx
        obtain ⟨-, -, -, r3, r4, r5⟩ := three hrx
        obtain ⟨r0, r1, r2, -, -, -⟩ := three hrx
        have hst := store3 hrx (.string f.1) (.string f.2.1) (.int .i64 (betw f.2.2 (f.2.1.size : Int)))
        have hbs := Lib.hid (below_set3 hbx (b := w.heap.size + 1) (by omega) (.string f.1) (.string f.2.1) (.int .i64 (betw f.2.2 (f.2.1.size : Int))))
        have hstH := Lib.hid hst
        clear hnx hrx hbx hst
        go_wp2_with fail
        obtain ⟨q0, q1, q2, -, -, -⟩ := three hstH.out
        refine bodyPost_ret (v := .tuple #[.agg #[.string f.1, .string f.2.1, .int .i64 (betw f.2.2 (f.2.1.size : Int))], .bool true]) (by simp [results, Try.results11, go_sem, q0, q1, q2]) rfl ⟨?_, hbs.out⟩
        rw [hGe.out]
        rfl
      · have hq : (f.1.toList == k.toList) = false := key_ne hk
        have hn := Lib.hid (hs2 hk)
        clear hil hf hs1 hs2 hk
        go_wp2_with fail
        go_roundw
        case rel => exact ⟨i + 1, by have := hilH.out; omega, by go_num, hn, Lib.hid (hW.out.alloc hW.out.size _)⟩
        case measure => have := hilH.out; simp [intOf]; omega
    · have hin : n = i := by omega
      subst hin
      have dk : decide ((n : Int) < (n : Int)) = false := decide_eq_false (by omega)
      have dk2 : decide (n < n) = false := decide_eq_false (by omega)
      obtain ⟨r0, r1, r2, r3, r4, r5⟩ := three hrr
      have hst := Lib.hid (store3 hrr (.string ⟨#[]⟩) (.string ⟨#[]⟩) (.int .i64 0))
      have hbs := Lib.hid (below_set3 (hbH.out.trans (hW.out.mono hbH.out.size)) (b := w.heap.size + 1) (by omega) (.string ⟨#[]⟩) (.string ⟨#[]⟩) (.int .i64 0))
      have hGe : Hid (G = none) := Lib.hid (by rw [← hfin.out]; exact hno.out)
      clear hil
      go_wp2_with fail
      obtain ⟨q0, q1, q2, -, -, -⟩ := three hst.out
      refine bodyPost_ret (v := .tuple #[.agg #[.string ⟨#[]⟩, .string ⟨#[]⟩, .int .i64 0], .bool false]) (by simp [results, Try.results11, go_sem, q0, q1, q2]) rfl ⟨?_, hbs.out⟩
      rw [hGe.out]
      rfl
end Go.Proofs.Ythdgfchmglkpaaa
