/-
  The walk of the writing of a reply. Premises: what is written takes at most 2^47 bytes, no text in which a line's end is looked for is long, and the library's table of powers of ten holds what its initialiser lays.
-/
import Derived.Test.YtogbjhpkbdmllaaDoorRJ
import Derived.Test.YtogbjhpkbdmllaaDoorRI
namespace Go.Proofs.YtogbjhpkbdmllaaDoor
open Go.RowKit Rp Dec

theorem Bd.below {b B : Nat} {bs : List Value} {W W' : World} (h : Lib.IsBuilderF 50 5 B b bs W) (hb : Below W.heap.size W W') : Lib.IsBuilderF 50 5 B b bs W' := by
  have key : ∀ p, Lib.BuilderAtF 50 5 B b p bs W → Lib.BuilderAtF 50 5 B b p bs W' := by
    rintro p ⟨hB, v, hbk, hown, hne⟩
    have hlt : b < W.heap.size := (Array.getElem?_eq_some_iff.1 hbk).1
    refine ⟨hB, v, (hb.block b hlt).trans hbk, ⟨hown.1, ?_⟩, hne⟩
    rcases hown.2 with hn | ⟨g, cap, cur, fz, hv, hbg, hg, rest⟩
    · exact Or.inl hn
    · exact Or.inr ⟨g, cap, cur, fz, hv, hbg, (hb.block g (Array.getElem?_eq_some_iff.1 hg).1).trans hg, rest⟩
  exact h.elim (fun x => Or.inl (key _ x)) (fun x => Or.inr (key _ x))
theorem Bd.lt {b B : Nat} {bs : List Value} {W : World} (h : Lib.IsBuilderF 50 5 B b bs W) : b < W.heap.size := h.elim (fun x => x.lt) (fun x => x.lt)
theorem Bd.le {b B : Nat} {bs : List Value} {W : World} (h : Lib.IsBuilderF 50 5 B b bs W) : B ≤ b := h.elim (fun x => x.1) (fun x => x.1)
/-- A block of a reply's four cells, behind a writer. -/
theorem Kp.box {B b g : Nat} {cs : Array Value} {W W' : World} (k : Kp B b W W') (h : W.heap[g]? = some (.cells cs 24 (0, 0))) (hg : g ≠ b) : W'.heap[g]? = some (.cells cs 24 (0, 0)) :=
  k.2 g _ h (fun e => hg (Option.some.inj e)) (fun c fz e => by injection e with _ e2; exact absurd e2 (by decide))
theorem cellsB {W : World} {b : Nat} {c0 c1 c2 c3 : Value} (h : W.heap[b]? = some (.cells #[c0, c1, c2, c3] 24 (0, 0))) :
    W.cell? ⟨b, 0, none⟩ = some c0 ∧ W.cell? ⟨b, 1, none⟩ = some c1 ∧ W.cell? ⟨b, 2, none⟩ = some c2 ∧ W.cell? ⟨b, 3, none⟩ = some c3 :=
  ⟨Lib.cell_of_heap h 0, Lib.cell_of_heap h 1, Lib.cell_of_heap h 2, Lib.cell_of_heap h 3⟩
theorem text_as (n : Int) {w0 : World} (hT : Hid (Tab w0)) (h : inI64 n) (w : World) (hw : Below w0.heap.size w0 w) : Calls Tryd.prog 31 #[.int .i64 n] w fun e w' => e = .returned (.string (dec n)) ∧ Below w.heap.size w w' :=
  text_any n w h.1 h.2 (Lib.hid (hT.out.on hw))
theorem dec_size {n : Int} (h : inI64 n) : (dec n).size ≤ 21 := by
  have := itoa_len h
  rw [← dec_data] at this
  simpa using this
theorem line_as (c : UInt8) (v : Int) (hv : (c.toNat : Int) = v) {B b : Nat} {l : List UInt8} {s : ByteArray} {w : World} (h : Lib.IsBuilderF 50 5 B b (Lib.byteCells l) w) (hlen : l.length + s.size + 3 ≤ 140737488355328) (hBw : B ≤ w.heap.size) :
    Calls Tryd.prog 30 #[.pointer (some ⟨b, 0, none⟩), .int .u8 v, .string s] w fun e w' => e = .returned (.tuple #[]) ∧ Lib.IsBuilderF 50 5 B b (Lib.byteCells (l ++ lineP c s.data.toList)) w' ∧ Kp B b w w' := by
  rw [← hv]; exact putLine_any B b l c s w h hlen hBw
theorem string_as {B b : Nat} {l : List UInt8} {s : ByteArray} {w : World} (h : Lib.IsBuilderF 50 5 B b (Lib.byteCells l) w) (hlen : l.length + s.size ≤ 140737488355328) (hBw : B ≤ w.heap.size) :
    Calls Tryd.prog 32 #[.pointer (some ⟨b, 0, none⟩), .string s] w fun e w' => e = .returned (.tuple #[.int .i64 s.size, .nilIface]) ∧ Lib.IsBuilderF 50 5 B b (Lib.byteCells (l ++ s.data.toList)) w' ∧ Kp B b w w' := by
  have := wstring_any B b _ s w h (by rw [Lib.byteCells_length]; omega) hBw
  rwa [strCells_bytes, ← byteCells_append] at this
/-- What a writer of a reply answers. -/
def PutEnd (B b : Nat) (l : List UInt8) (r : List UInt8 × Int) (w : World) (e : Ending) (w' : World) : Prop := e = .returned (.int .i64 r.2) ∧ Lib.IsBuilderF 50 5 B b (Lib.byteCells (l ++ r.1)) w' ∧ Kp B b w w'

set_option maxHeartbeats 2000000 in
theorem put_fault (B b : Nat) (l : List UInt8) (kd nm : Int) (s : ByteArray) (A : Option Addr) (len cap within : Nat) (w : World) (hBd : Lib.IsBuilderF 50 5 B b (Lib.byteCells l) w) (hBw : B ≤ w.heap.size) (v : Int)
    (hF : ∀ w, Calls Tryd.prog 29 #[.agg #[.int .i64 kd, .int .i64 nm, .string s, .slice A len cap], .int .i64 within] w fun e w' => e = .returned (.int .i64 v) ∧ Below w.heap.size w w') (hv : (v != 0) = true) :
    Calls Tryd.prog 22 #[.pointer (some ⟨b, 0, none⟩), .agg #[.int .i64 kd, .int .i64 nm, .string s, .slice A len cap], .int .i64 within] w (PutEnd B b l ([], v) w) := by
  go_enter Tryd.func22, Tryd.ntmps22
  go_wp2_with (go_at_call 29; ((with_reducible refine (hF _).mono ?_); rintro e w1 ⟨rfl, hb⟩))
  go_ret
  exact ⟨rfl, by rw [List.append_nil]; exact (hBd.alloc _).elim (fun x => Bd.below (Or.inl x) hb) (fun x => Bd.below (Or.inr x) hb), Kp.of_below (after_box hb) hBw⟩
set_option maxHeartbeats 2000000 in
theorem put_1 (w0 : World) (_hT : Hid (Tab w0)) (b : Nat) (l : List UInt8) (nm : Int) (s : ByteArray) (A : Option Addr) (len cap within : Nat) (w : World) (hW : Below w0.heap.size w0 w) (hBd : Lib.IsBuilderF 50 5 w0.heap.size b (Lib.byteCells l) w)
    (hF : ∀ w, Calls Tryd.prog 29 #[.agg #[.int .i64 1, .int .i64 nm, .string s, .slice A len cap], .int .i64 within] w fun e w' => e = .returned (.int .i64 0) ∧ Below w.heap.size w w') (_hn : inI64 nm) (_hs : s.size ≤ 1099511627776) (hlen : l.length + s.size + 100 ≤ 140737488355328) :
    Calls Tryd.prog 22 #[.pointer (some ⟨b, 0, none⟩), .agg #[.int .i64 1, .int .i64 nm, .string s, .slice A len cap], .int .i64 within] w (PutEnd w0.heap.size b l (lineP 43 s.data.toList, 0) w) := by
  have hnew := Lib.hid (heap_alloc_new w (.cells #[.int .i64 1, .int .i64 nm, .string s, .slice A len cap] 24))
  have hg : w.heap.size ≠ b := by have := Bd.lt hBd; omega
  have hBw := hW.size
  go_enter Tryd.func22, Tryd.ntmps22
  go_wp2_with (first
    | (go_at_call 29; ((with_reducible refine (hF _).mono ?_); rintro e w1 ⟨rfl, hb⟩; have hx := (hb.block w.heap.size (by simp)).trans hnew.out; obtain ⟨c0, c1, c2, c3⟩ := cellsB hx; have hxH := Lib.hid hx; clear hx; have hBd1 := Bd.below (Lib.IsBuilderF.alloc hBd _) hb; have hK1 := Kp.of_below (b := b) (after_box hb) hBw; have hW1 := hW.trans ((after_box hb).mono hBw); have hBw1 := Nat.le_trans hBw (after_box hb).size))
    | (go_at_call 30; ((with_reducible refine (line_as 43 43 rfl hBd1 (by omega) hBw1).mono ?_); rintro e w2 ⟨rfl, hBd2, hK2⟩)))
  go_ret
  exact ⟨rfl, hBd2, hK1.trans hK2⟩
set_option maxHeartbeats 2000000 in
theorem put_2 (w0 : World) (_hT : Hid (Tab w0)) (b : Nat) (l : List UInt8) (nm : Int) (s : ByteArray) (A : Option Addr) (len cap within : Nat) (w : World) (hW : Below w0.heap.size w0 w) (hBd : Lib.IsBuilderF 50 5 w0.heap.size b (Lib.byteCells l) w)
    (hF : ∀ w, Calls Tryd.prog 29 #[.agg #[.int .i64 2, .int .i64 nm, .string s, .slice A len cap], .int .i64 within] w fun e w' => e = .returned (.int .i64 0) ∧ Below w.heap.size w w') (_hn : inI64 nm) (_hs : s.size ≤ 1099511627776) (hlen : l.length + s.size + 100 ≤ 140737488355328) :
    Calls Tryd.prog 22 #[.pointer (some ⟨b, 0, none⟩), .agg #[.int .i64 2, .int .i64 nm, .string s, .slice A len cap], .int .i64 within] w (PutEnd w0.heap.size b l (lineP 45 s.data.toList, 0) w) := by
  have hnew := Lib.hid (heap_alloc_new w (.cells #[.int .i64 2, .int .i64 nm, .string s, .slice A len cap] 24))
  have hg : w.heap.size ≠ b := by have := Bd.lt hBd; omega
  have hBw := hW.size
  go_enter Tryd.func22, Tryd.ntmps22
  go_wp2_with (first
    | (go_at_call 29; ((with_reducible refine (hF _).mono ?_); rintro e w1 ⟨rfl, hb⟩; have hx := (hb.block w.heap.size (by simp)).trans hnew.out; obtain ⟨c0, c1, c2, c3⟩ := cellsB hx; have hxH := Lib.hid hx; clear hx; have hBd1 := Bd.below (Lib.IsBuilderF.alloc hBd _) hb; have hK1 := Kp.of_below (b := b) (after_box hb) hBw; have hW1 := hW.trans ((after_box hb).mono hBw); have hBw1 := Nat.le_trans hBw (after_box hb).size))
    | (go_at_call 30; ((with_reducible refine (line_as 45 45 rfl hBd1 (by omega) hBw1).mono ?_); rintro e w2 ⟨rfl, hBd2, hK2⟩)))
  go_ret
  exact ⟨rfl, hBd2, hK1.trans hK2⟩
set_option maxHeartbeats 2000000 in
theorem put_3 (w0 : World) (hT : Hid (Tab w0)) (b : Nat) (l : List UInt8) (nm : Int) (s : ByteArray) (A : Option Addr) (len cap within : Nat) (w : World) (hW : Below w0.heap.size w0 w) (hBd : Lib.IsBuilderF 50 5 w0.heap.size b (Lib.byteCells l) w)
    (hF : ∀ w, Calls Tryd.prog 29 #[.agg #[.int .i64 3, .int .i64 nm, .string s, .slice A len cap], .int .i64 within] w fun e w' => e = .returned (.int .i64 0) ∧ Below w.heap.size w w') (hn : inI64 nm) (hs : s.size ≤ 1099511627776) (hlen : l.length + s.size + 100 ≤ 140737488355328) :
    Calls Tryd.prog 22 #[.pointer (some ⟨b, 0, none⟩), .agg #[.int .i64 3, .int .i64 nm, .string s, .slice A len cap], .int .i64 within] w (PutEnd w0.heap.size b l (lineP 58 (Lib.itoa nm), 0) w) := by
  have hnew := Lib.hid (heap_alloc_new w (.cells #[.int .i64 3, .int .i64 nm, .string s, .slice A len cap] 24))
  have hg : w.heap.size ≠ b := by have := Bd.lt hBd; omega
  have hBw := hW.size
  have hn' : inI64 (nm) := hn
  have hlen2 : l.length + (dec (nm)).size + 3 ≤ 140737488355328 := by have := dec_size hn'; omega
  go_enter Tryd.func22, Tryd.ntmps22
  go_wp2_with (first
    | (go_at_call 29; ((with_reducible refine (hF _).mono ?_); rintro e w1 ⟨rfl, hb⟩; have hx := (hb.block w.heap.size (by simp)).trans hnew.out; obtain ⟨c0, c1, c2, c3⟩ := cellsB hx; have hxH := Lib.hid hx; clear hx; have hBd1 := Bd.below (Lib.IsBuilderF.alloc hBd _) hb; have hK1 := Kp.of_below (b := b) (after_box hb) hBw; have hW1 := hW.trans ((after_box hb).mono hBw); have hBw1 := Nat.le_trans hBw (after_box hb).size))
    | (go_at_call 31; ((with_reducible refine (text_as nm hT hn' _ hW1).mono ?_); rintro e w2 ⟨rfl, hb2⟩; have hBd2 := Bd.below hBd1 hb2; have hK2 := Kp.of_below (b := b) hb2 hBw1; have hBw2 := Nat.le_trans hBw1 hb2.size; have hx2 := (hb2.block w.heap.size (Array.getElem?_eq_some_iff.1 hxH.out).1).trans hxH.out; obtain ⟨e0, e1, e2, e3⟩ := cellsB hx2; have hx2H := Lib.hid hx2; clear hx2))
    | (go_at_call 30; ((with_reducible refine (line_as 58 58 rfl hBd2 hlen2 hBw2).mono ?_); rintro e w3 ⟨rfl, hBd3, hK3⟩; have hx3 := hK3.box hx2H.out hg; obtain ⟨i0, i1, i2, i3⟩ := cellsB hx3; have hBw3 := Nat.le_trans hBw2 hK3.size)))
  go_ret
  exact ⟨rfl, by have := hBd3; rw [dec_data] at this; exact this, (hK1.trans hK2).trans hK3⟩
set_option maxHeartbeats 2000000 in
theorem put_5 (w0 : World) (hT : Hid (Tab w0)) (b : Nat) (l : List UInt8) (nm : Int) (s : ByteArray) (A : Option Addr) (len cap within : Nat) (w : World) (hW : Below w0.heap.size w0 w) (hBd : Lib.IsBuilderF 50 5 w0.heap.size b (Lib.byteCells l) w)
    (hF : ∀ w, Calls Tryd.prog 29 #[.agg #[.int .i64 5, .int .i64 nm, .string s, .slice A len cap], .int .i64 within] w fun e w' => e = .returned (.int .i64 0) ∧ Below w.heap.size w w') (_hn : inI64 nm) (hs : s.size ≤ 1099511627776) (hlen : l.length + s.size + 100 ≤ 140737488355328) :
    Calls Tryd.prog 22 #[.pointer (some ⟨b, 0, none⟩), .agg #[.int .i64 5, .int .i64 nm, .string s, .slice A len cap], .int .i64 within] w (PutEnd w0.heap.size b l (lineP 36 (Lib.itoa (-1)), 0) w) := by
  have hnew := Lib.hid (heap_alloc_new w (.cells #[.int .i64 5, .int .i64 nm, .string s, .slice A len cap] 24))
  have hg : w.heap.size ≠ b := by have := Bd.lt hBd; omega
  have hBw := hW.size
  have hn' : inI64 (-1) := by unfold inI64; omega
  have hlen2 : l.length + (dec (-1)).size + 3 ≤ 140737488355328 := by have := dec_size hn'; omega
  go_enter Tryd.func22, Tryd.ntmps22
  go_wp2_with (first
    | (go_at_call 29; ((with_reducible refine (hF _).mono ?_); rintro e w1 ⟨rfl, hb⟩; have hx := (hb.block w.heap.size (by simp)).trans hnew.out; obtain ⟨c0, c1, c2, c3⟩ := cellsB hx; have hxH := Lib.hid hx; clear hx; have hBd1 := Bd.below (Lib.IsBuilderF.alloc hBd _) hb; have hK1 := Kp.of_below (b := b) (after_box hb) hBw; have hW1 := hW.trans ((after_box hb).mono hBw); have hBw1 := Nat.le_trans hBw (after_box hb).size))
    | (go_at_call 31; ((with_reducible refine (text_as (-1) hT hn' _ hW1).mono ?_); rintro e w2 ⟨rfl, hb2⟩; have hBd2 := Bd.below hBd1 hb2; have hK2 := Kp.of_below (b := b) hb2 hBw1; have hBw2 := Nat.le_trans hBw1 hb2.size; have hx2 := (hb2.block w.heap.size (Array.getElem?_eq_some_iff.1 hxH.out).1).trans hxH.out; obtain ⟨e0, e1, e2, e3⟩ := cellsB hx2; have hx2H := Lib.hid hx2; clear hx2))
    | (go_at_call 30; ((with_reducible refine (line_as 36 36 rfl hBd2 hlen2 hBw2).mono ?_); rintro e w3 ⟨rfl, hBd3, hK3⟩; have hx3 := hK3.box hx2H.out hg; obtain ⟨i0, i1, i2, i3⟩ := cellsB hx3; have hBw3 := Nat.le_trans hBw2 hK3.size)))
  go_ret
  exact ⟨rfl, by have := hBd3; rw [dec_data] at this; exact this, (hK1.trans hK2).trans hK3⟩
set_option maxHeartbeats 2000000 in
theorem put_7 (w0 : World) (hT : Hid (Tab w0)) (b : Nat) (l : List UInt8) (nm : Int) (s : ByteArray) (A : Option Addr) (len cap within : Nat) (w : World) (hW : Below w0.heap.size w0 w) (hBd : Lib.IsBuilderF 50 5 w0.heap.size b (Lib.byteCells l) w)
    (hF : ∀ w, Calls Tryd.prog 29 #[.agg #[.int .i64 7, .int .i64 nm, .string s, .slice A len cap], .int .i64 within] w fun e w' => e = .returned (.int .i64 0) ∧ Below w.heap.size w w') (_hn : inI64 nm) (hs : s.size ≤ 1099511627776) (hlen : l.length + s.size + 100 ≤ 140737488355328) :
    Calls Tryd.prog 22 #[.pointer (some ⟨b, 0, none⟩), .agg #[.int .i64 7, .int .i64 nm, .string s, .slice A len cap], .int .i64 within] w (PutEnd w0.heap.size b l (lineP 42 (Lib.itoa (-1)), 0) w) := by
  have hnew := Lib.hid (heap_alloc_new w (.cells #[.int .i64 7, .int .i64 nm, .string s, .slice A len cap] 24))
  have hg : w.heap.size ≠ b := by have := Bd.lt hBd; omega
  have hBw := hW.size
  have hn' : inI64 (-1) := by unfold inI64; omega
  have hlen2 : l.length + (dec (-1)).size + 3 ≤ 140737488355328 := by have := dec_size hn'; omega
  go_enter Tryd.func22, Tryd.ntmps22
  go_wp2_with (first
    | (go_at_call 29; ((with_reducible refine (hF _).mono ?_); rintro e w1 ⟨rfl, hb⟩; have hx := (hb.block w.heap.size (by simp)).trans hnew.out; obtain ⟨c0, c1, c2, c3⟩ := cellsB hx; have hxH := Lib.hid hx; clear hx; have hBd1 := Bd.below (Lib.IsBuilderF.alloc hBd _) hb; have hK1 := Kp.of_below (b := b) (after_box hb) hBw; have hW1 := hW.trans ((after_box hb).mono hBw); have hBw1 := Nat.le_trans hBw (after_box hb).size))
    | (go_at_call 31; ((with_reducible refine (text_as (-1) hT hn' _ hW1).mono ?_); rintro e w2 ⟨rfl, hb2⟩; have hBd2 := Bd.below hBd1 hb2; have hK2 := Kp.of_below (b := b) hb2 hBw1; have hBw2 := Nat.le_trans hBw1 hb2.size; have hx2 := (hb2.block w.heap.size (Array.getElem?_eq_some_iff.1 hxH.out).1).trans hxH.out; obtain ⟨e0, e1, e2, e3⟩ := cellsB hx2; have hx2H := Lib.hid hx2; clear hx2))
    | (go_at_call 30; ((with_reducible refine (line_as 42 42 rfl hBd2 hlen2 hBw2).mono ?_); rintro e w3 ⟨rfl, hBd3, hK3⟩; have hx3 := hK3.box hx2H.out hg; obtain ⟨i0, i1, i2, i3⟩ := cellsB hx3; have hBw3 := Nat.le_trans hBw2 hK3.size)))
  go_ret
  exact ⟨rfl, by have := hBd3; rw [dec_data] at this; exact this, (hK1.trans hK2).trans hK3⟩
set_option maxHeartbeats 2000000 in
theorem put_4 (w0 : World) (hT : Hid (Tab w0)) (b : Nat) (l : List UInt8) (nm : Int) (s : ByteArray) (A : Option Addr) (len cap within : Nat) (w : World) (hW : Below w0.heap.size w0 w) (hBd : Lib.IsBuilderF 50 5 w0.heap.size b (Lib.byteCells l) w)
    (hF : ∀ w, Calls Tryd.prog 29 #[.agg #[.int .i64 4, .int .i64 nm, .string s, .slice A len cap], .int .i64 within] w fun e w' => e = .returned (.int .i64 0) ∧ Below w.heap.size w w') (_hn : inI64 nm) (hs : s.size ≤ 1099511627776) (hlen : l.length + s.size + 100 ≤ 140737488355328) :
    Calls Tryd.prog 22 #[.pointer (some ⟨b, 0, none⟩), .agg #[.int .i64 4, .int .i64 nm, .string s, .slice A len cap], .int .i64 within] w (PutEnd w0.heap.size b l (lineP 36 (Lib.itoa s.size) ++ s.data.toList ++ eol, 0) w) := by
  have hnew := Lib.hid (heap_alloc_new w (.cells #[.int .i64 4, .int .i64 nm, .string s, .slice A len cap] 24))
  have hg : w.heap.size ≠ b := by have := Bd.lt hBd; omega
  have hBw := hW.size
  have hn' : inI64 ((s.size : Int)) := by unfold inI64; omega
  have hlen2 : l.length + (dec ((s.size : Int))).size + 3 ≤ 140737488355328 := by have := dec_size hn'; omega
  have hll : (l ++ lineP 36 (dec (s.size : Int)).data.toList).length ≤ l.length + 24 := by
    have := dec_size hn'
    simp [lineP, eol]; omega
  have hlen3 : (l ++ lineP 36 (dec (s.size : Int)).data.toList).length + s.size ≤ 140737488355328 := by omega
  have hlen4 : (l ++ lineP 36 (dec (s.size : Int)).data.toList ++ s.data.toList).length + (⟨#[13, 10]⟩ : ByteArray).size ≤ 140737488355328 := by
    rw [List.length_append]
    have e0 : s.data.toList.length = s.size := by simp
    rw [e0]; show _ + 2 ≤ _; omega
  clear hll
  go_enter Tryd.func22, Tryd.ntmps22
  go_wp2_with (first
    | (go_at_call 29; ((with_reducible refine (hF _).mono ?_); rintro e w1 ⟨rfl, hb⟩; have hx := (hb.block w.heap.size (by simp)).trans hnew.out; obtain ⟨c0, c1, c2, c3⟩ := cellsB hx; have hxH := Lib.hid hx; clear hx; have hBd1 := Bd.below (Lib.IsBuilderF.alloc hBd _) hb; have hK1 := Kp.of_below (b := b) (after_box hb) hBw; have hW1 := hW.trans ((after_box hb).mono hBw); have hBw1 := Nat.le_trans hBw (after_box hb).size))
    | (go_at_call 31; ((with_reducible refine (text_as (s.size : Int) hT hn' _ hW1).mono ?_); rintro e w2 ⟨rfl, hb2⟩; have hBd2 := Bd.below hBd1 hb2; have hK2 := Kp.of_below (b := b) hb2 hBw1; have hBw2 := Nat.le_trans hBw1 hb2.size; have hx2 := (hb2.block w.heap.size (Array.getElem?_eq_some_iff.1 hxH.out).1).trans hxH.out; obtain ⟨e0, e1, e2, e3⟩ := cellsB hx2; have hx2H := Lib.hid hx2; clear hx2))
    | (go_at_call 30; ((with_reducible refine (line_as 36 36 rfl hBd2 hlen2 hBw2).mono ?_); rintro e w3 ⟨rfl, hBd3, hK3⟩; have hx3 := hK3.box hx2H.out hg; obtain ⟨i0, i1, i2, i3⟩ := cellsB hx3; have hBw3 := Nat.le_trans hBw2 hK3.size))
    | (go_at_call 32; ((with_reducible refine (string_as (s := ⟨#[13, 10]⟩) hBd4 hlen4 hBw4).mono ?_); rintro e w5 ⟨rfl, hBd5, hK5⟩))
    | (go_at_call 32; ((with_reducible refine (string_as (s := s) hBd3 hlen3 hBw3).mono ?_); rintro e w4 ⟨rfl, hBd4, hK4⟩; have hBw4 := Nat.le_trans hBw3 hK4.size)))
  go_ret
  exact ⟨rfl, by have := hBd5; rw [dec_data] at this; simpa [eol] using this, (((hK1.trans hK2).trans hK3).trans hK4).trans hK5⟩

end Go.Proofs.YtogbjhpkbdmllaaDoor
