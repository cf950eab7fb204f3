/-
  The walk of the document's own match. A premise: texts no longer than 65536 bytes.
-/
import Derived.Test.YtadihlmpkckakaaDoorWalksG
import Derived.Laws.MakeOwn
import Derived.BigRegion
import Derived.StillTailTactics
namespace Go.Proofs.YtadihlmpkckakaaDoor
open Go.RowKit Gl

/-- A row of bools. -/
def bcells (f : Nat → Bool) (n : Nat) : Array Value := ((List.range n).map fun i => Value.bool (f i)).toArray
theorem bcells_size (f : Nat → Bool) (n : Nat) : (bcells f n).size = n := by simp [bcells]
theorem bcells_at (f : Nat → Bool) (n i : Nat) (h : i < n) : (bcells f n)[i]? = some (.bool (f i)) := by simp [bcells, h]
theorem bcells_set (f : Nat → Bool) (n i : Nat) (b : Bool) (h : i < n) : (bcells f n).setIfInBounds i (.bool b) = bcells (fun j => if j = i then b else f j) n := by
  apply Array.ext_getElem?
  intro j
  rw [Array.getElem?_setIfInBounds]
  by_cases hj : i = j
  · subst hj
    rw [if_pos rfl, if_pos (by rw [bcells_size]; exact h), bcells_at _ _ _ h, if_pos rfl]
  · rw [if_neg hj]
    by_cases hm : j < n
    · rw [bcells_at _ _ _ hm, bcells_at _ _ _ hm, if_neg (by omega)]
    · rw [Array.getElem?_eq_none (by rw [bcells_size]; omega), Array.getElem?_eq_none (by rw [bcells_size]; omega)]
theorem bool_info : (Tryd.prog.info? 4).map (fun i => (i.zero, i.size, i.bytes)) = some (some (.bool false), 1, 1) := by kernel_rfl
theorem made_bools (n : Nat) : madeCells #[Value.bool false] n = bcells noByte n := by
  apply Array.ext_getElem?
  intro j
  by_cases hm : j < n
  · rw [bcells_at _ _ _ hm]
    simp [madeCells, hm, noByte, Nat.mod_one]
  · rw [Array.getElem?_eq_none (by rw [size_madeCells]; omega), Array.getElem?_eq_none (by rw [bcells_size]; omega)]
theorem make_bools (n : Nat) (hn : n ≤ 65536) (w : World) :
    (Instr.makeSlice 38 (.int .i64 ((n : Int) + 1)) (.int .i64 ((n : Int) + 1))).run Tryd.prog w = .ok (.slice (some ⟨w.heap.size, 0, none⟩) (n + 1) (n + 1)) (w.alloc (.cells (bcells noByte (n + 1)) 4)) := by
  obtain ⟨i0, hi, hz0, hz1, hz2⟩ := info_parts bool_info
  have hr := run_make (P := Tryd.prog) w 38 4 i0 (.bool false) Tryd.underlying38 hi hz0 .i64 .i64 ((n : Int) + 1) ((n : Int) + 1) (by omega) (by omega) (by rw [hz2]; omega) (by omega)
  rw [hr, show ((n : Int) + 1).toNat = n + 1 by omega, hz1, Nat.mul_one]
  rw [← made_bools]
  rfl
theorem flat_at {ps : List Part} : ∀ {k : Nat} {p : Part} (j : Nat), ps[k]? = some p → j < 257 → (flat ps)[k * 257 + j]? = (pcs p)[j]? := by
  induction ps with
  | nil => intro k p j h; simp at h
  | cons q ps ih =>
    intro k p j h hj
    have hl : (pcs q).toList.length = 257 := by rw [Array.length_toList, pcs_size]
    show ((pcs q).toList ++ flat ps)[k * 257 + j]? = _
    cases k with
    | zero =>
      obtain rfl : q = p := by simpa using h
      rw [List.getElem?_append_left (by omega)]
      simp
    | succ k =>
      rw [List.getElem?_append_right (by omega), hl, show (k + 1) * 257 + j - 257 = k * 257 + j by omega]
      exact ih j (by simpa using h) hj
/-- A row of parts that is only read. -/
def PRow (w : World) (g : Nat) (ps : List Part) : Prop := ∃ cur : Array Value, Blk w g 43 cur ∧ ∀ k p j, ps[k]? = some p → j < 257 → cur[k * 257 + j]? = (pcs p)[j]?
theorem prow_of {w : World} {B g n cap : Nat} {ps : List Part} (h : w.ownsRow B 43 257 (.slice (some ⟨g, 0, none⟩) n cap) n (flat ps)) : PRow w g ps ∧ B ≤ g := by
  rcases h.2 with ⟨h1, _⟩ | ⟨g', cap', cur, h1, h2, h3, _, _, h4, h5⟩
  · cases h1
  · simp only [Value.slice.injEq, Option.some.injEq, Addr.mk.injEq] at h1
    obtain ⟨⟨rfl, _⟩, _, rfl⟩ := h1
    refine ⟨⟨cur, h3, fun k p j hk hj => ?_⟩, h2⟩
    rw [← flat_at j hk hj, ← h5, List.getElem?_take]
    have hlt : k * 257 + j < n * 257 := by
      have h6 := h.1
      have h7 : (flat ps)[k * 257 + j]? = (pcs p)[j]? := flat_at j hk hj
      rw [Array.getElem?_eq_getElem (by rw [pcs_size]; exact hj)] at h7
      have := (List.getElem?_eq_some_iff.1 h7).1
      omega
    rw [if_pos hlt]
    simp
section
variable {w w' : World} {g : Nat} {ps : List Part}
theorem PRow.alloc (h : PRow w g ps) (o : Obj) : PRow (w.alloc o) g ps := by
  obtain ⟨cur, h1, h2⟩ := h; exact ⟨cur, h1.alloc o, h2⟩
theorem PRow.far (h : PRow w g ps) {b : Nat} {cs : Array Value} (hb : Blk w b 4 cs) (i : Nat) (u : Value) : PRow (w.setCell ⟨b, i, none⟩ u) g ps := by
  obtain ⟨cur, h1, h2⟩ := h
  refine ⟨cur, h1.far (fun e => ?_) u, h2⟩
  obtain rfl : g = b := e
  unfold Blk at h1 hb
  rw [h1] at hb
  cases hb
theorem PRow.cell (h : PRow w g ps) {k : Nat} {p : Part} (hk : ps[k]? = some p) {j : Nat} (hj : j < 257) : w.cell? ⟨g, k * 257 + j, none⟩ = (pcs p)[j]? := by
  obtain ⟨cur, h1, h2⟩ := h
  rw [h1.cell, h2 k p j hk hj]
theorem PRow.kind (h : PRow w g ps) {k : Nat} {p : Part} (hk : ps[k]? = some p) : w.cell? ⟨g, k * 257, none⟩ = some (.int .i64 (pkind p)) := by
  have := h.cell hk (j := 0) (by decide)
  rwa [Nat.add_zero, show (pcs p)[0]? = _ from pcells_kind _ _] at this
theorem PRow.has (h : PRow w g ps) {k : Nat} {p : Part} (hk : ps[k]? = some p) (c : UInt8) : w.cell? ⟨g, k * 257 + 1 + c.toNat, none⟩ = some (.bool (phas p c.toNat)) := by
  have := h.cell hk (j := 1 + c.toNat) (by have := c.toNat_lt; omega)
  rwa [← Nat.add_assoc, show (pcs p)[1 + c.toNat]? = _ from pcells_at _ _ _ c.toNat_lt] at this
end
theorem phas_ok {p : Part} (hr : p.isRun = false) (c : UInt8) : (decide (pkind p = 2) || phas p c.toNat) = p.ok c := by
  rcases p with _ | _ | F | b
  · cases hr
  · rfl
  · show (decide ((3 : Int) = 2) || hasN F c.toNat) = F c
    unfold hasN
    simp
  · show (decide ((4 : Int) = 2) || oneByte b.toNat c.toNat) = (b == c)
    unfold oneByte noByte
    by_cases h : b = c
    · subst h; simp
    · have h2 : ¬ c.toNat = b.toNat := fun e => h (UInt8.toNat.inj e.symm)
      simp [h, h2]

def atZero (i : Nat) : Bool := if i = 0 then true else noByte i
structure MStart (w0 : World) (r n : Nat) (f : Nat → Bool) (W : World) : Prop where
  blk : Blk W r 4 (bcells f (n + 1))
  le : w0.heap.size ≤ r
  bel : Below w0.heap.size w0 W
theorem mstart (w : World) (n : Nat) : MStart w w.heap.size n noByte (w.alloc (.cells (bcells noByte (n + 1)) 4)) :=
  ⟨Blk.new _ _ _, Nat.le_refl _, (Below.refl _ _).alloc (Nat.le_refl _) _⟩
theorem MStart.set_ {w0 W : World} {r n : Nat} {f : Nat → Bool} (h : MStart w0 r n f W) (i : Nat) (hi : i < n + 1) (b : Bool) : MStart w0 r n (fun j => if j = i then b else f j) (W.setCell ⟨r, i, none⟩ (.bool b)) := by
  refine ⟨?_, h.le, h.bel.setCell h.le _⟩
  have h1 := h.blk.set_ i (.bool b)
  rwa [bcells_set _ _ _ _ hi] at h1
theorem MStart.below {w0 W W' : World} {r n : Nat} {f : Nat → Bool} (h : MStart w0 r n f W) (hb : Below W.heap.size W W') : MStart w0 r n f W' :=
  ⟨h.blk.below hb h.blk.lt, h.le, h.bel.trans (hb.mono h.bel.size)⟩

/-- The document's answer for so many parts and so many bytes. -/
def upTo (ps : List Part) (S : ByteArray) (k i : Nat) : Bool := mt (ps.take k) (S.data.toList.take i)
theorem take_next {ps : List Part} {k : Nat} {p : Part} (h : ps[k]? = some p) : ps.take (k + 1) = ps.take k ++ [p] := by
  obtain ⟨hk, rfl⟩ := List.getElem?_eq_some_iff.1 h
  exact List.take_succ_eq_append_getElem hk
theorem take_byte {S : ByteArray} {i : Nat} (h : i < S.size) : S.data.toList.take (i + 1) = S.data.toList.take i ++ [S[i]] := by
  rw [List.take_succ_eq_append_getElem (by simpa using h)]; rfl
theorem upTo_run0 {ps : List Part} {S : ByteArray} {k : Nat} {p : Part} (h : ps[k]? = some p) (hr : p.isRun = true) : upTo ps S (k + 1) 0 = upTo ps S k 0 := by
  obtain rfl : p = .run := run_of hr
  unfold upTo
  rw [take_next h, List.take_zero, snoc_run_nil]
theorem upTo_run {ps : List Part} {S : ByteArray} {k i : Nat} {p : Part} (h : ps[k]? = some p) (hr : p.isRun = true) (hi : i < S.size) : upTo ps S (k + 1) (i + 1) = (upTo ps S k (i + 1) || upTo ps S (k + 1) i) := by
  obtain rfl : p = .run := run_of hr
  unfold upTo
  rw [take_next h, take_byte hi, snoc_run]
theorem upTo_one0 {ps : List Part} {S : ByteArray} {k : Nat} {p : Part} (h : ps[k]? = some p) (hr : p.isRun = false) : upTo ps S (k + 1) 0 = false := by
  unfold upTo
  rw [take_next h, List.take_zero, snoc_one_nil _ hr]
theorem upTo_one {ps : List Part} {S : ByteArray} {k i : Nat} {p : Part} (h : ps[k]? = some p) (hr : p.isRun = false) (hi : i < S.size) : upTo ps S (k + 1) (i + 1) = (upTo ps S k i && p.ok S[i]) := by
  unfold upTo
  rw [take_next h, take_byte hi, snoc_one _ hr]
theorem upTo_run' {ps : List Part} {S : ByteArray} {k i : Nat} {p : Part} (h : ps[k]? = some p) (hr : p.isRun = true) (h0 : 0 < i) (hi : i ≤ S.size) : upTo ps S (k + 1) i = (upTo ps S k i || upTo ps S (k + 1) (i - 1)) := by
  obtain ⟨j, rfl⟩ : ∃ j, i = j + 1 := ⟨i - 1, by omega⟩
  exact upTo_run h hr (by omega)
theorem upTo_one' {ps : List Part} {S : ByteArray} {k i : Nat} {p : Part} (h : ps[k]? = some p) (hr : p.isRun = false) (h0 : 0 < i) (hi : i - 1 < S.size) : upTo ps S (k + 1) i = (upTo ps S k (i - 1) && p.ok S[i - 1]) := by
  obtain ⟨j, rfl⟩ : ∃ j, i = j + 1 := ⟨i - 1, by omega⟩
  exact upTo_one h hr hi
theorem upTo_end {ps : List Part} {S : ByteArray} {k : Nat} (hk : ps.length ≤ k) : upTo ps S k S.size = mt ps S.data.toList := by
  unfold upTo
  rw [List.take_of_length_le hk, List.take_of_length_le (by simp)]
theorem upTo_start {ps : List Part} {S : ByteArray} (i : Nat) (hi : i ≤ S.size) : (if i = 0 then true else noByte i) = upTo ps S 0 i := by
  unfold upTo
  rw [List.take_zero, mt_nil]
  cases i with
  | zero => simp
  | succ i => rw [take_byte (by omega)]; simp [noByte]
/-- Where the document's match stands ahead of a part. -/
structure MOut (w0 : World) (r g n : Nat) (f : Nat → Bool) (ps : List Part) (W : World) : Prop where
  blk : Blk W r 4 (bcells f (n + 1))
  row : PRow W g ps
  le : w0.heap.size ≤ r
  bel : Below w0.heap.size w0 W
/-- .. and within one. -/
structure MIn (w0 : World) (r q g n : Nat) (f h : Nat → Bool) (ps : List Part) (W : World) : Prop where
  rb : Blk W r 4 (bcells f (n + 1))
  qb : Blk W q 4 (bcells h (n + 1))
  row : PRow W g ps
  ne : r ≠ q
  le : w0.heap.size ≤ q
  bel : Below w0.heap.size w0 W
theorem MOut.enter {w0 W : World} {r g n : Nat} {f : Nat → Bool} {ps : List Part} (h : MOut w0 r g n f ps W) : MIn w0 r W.heap.size g n f noByte ps (W.alloc (.cells (bcells noByte (n + 1)) 4)) :=
  ⟨h.blk.alloc _, Blk.new _ _ _, h.row.alloc _, Nat.ne_of_lt h.blk.lt, h.bel.size, h.bel.alloc h.bel.size _⟩
theorem MIn.leave {w0 W : World} {r q g n : Nat} {f h : Nat → Bool} {ps : List Part} (m : MIn w0 r q g n f h ps W) : MOut w0 q g n h ps W := ⟨m.qb, m.row, m.le, m.bel⟩
theorem MIn.set_ {w0 W : World} {r q g n : Nat} {f h : Nat → Bool} {ps : List Part} (m : MIn w0 r q g n f h ps W) (i : Nat) (hi : i < n + 1) (b : Bool) :
    MIn w0 r q g n f (fun j => if j = i then b else h j) ps (W.setCell ⟨q, i, none⟩ (.bool b)) := by
  refine ⟨m.rb.far m.ne _, ?_, m.row.far m.qb _ _, m.ne, m.le, m.bel.setCell m.le _⟩
  have h1 := m.qb.set_ i (.bool b)
  rwa [bcells_set _ _ _ _ hi] at h1
theorem MIn.drew {w0 W : World} {r q g n : Nat} {f h : Nat → Bool} {ps : List Part} (m : MIn w0 r q g n f h ps W) : MIn w0 r q g n f h ps W.drew := ⟨m.rb, m.qb, m.row, m.ne, m.le, m.bel.drew⟩
/-- What the next row holds so far. -/
def Sofar (ps : List Part) (S : ByteArray) (k i : Nat) (h : Nat → Bool) : Prop := (∀ j, j < i → h j = upTo ps S (k + 1) j) ∧ ∀ j, i ≤ j → h j = false
theorem sofar_start (ps : List Part) (S : ByteArray) (k : Nat) : Sofar ps S k 0 noByte := ⟨fun j hj => by omega, fun _ _ => rfl⟩
theorem sofar_set {ps : List Part} {S : ByteArray} {k i : Nat} {h : Nat → Bool} (hS : Sofar ps S k i h) {b : Bool} (hb : b = upTo ps S (k + 1) i) : Sofar ps S k (i + 1) (fun j => if j = i then b else h j) := by
  refine ⟨fun j hj => ?_, fun j hj => ?_⟩
  · by_cases e : j = i
    · subst e; simp only [if_true]; exact hb
    · simp only [if_neg e]; exact hS.1 j (by omega)
  · simp only [if_neg (show ¬ j = i by omega)]; exact hS.2 j (by omega)
theorem sofar_skip {ps : List Part} {S : ByteArray} {k i : Nat} {h : Nat → Bool} (hS : Sofar ps S k i h) (hb : false = upTo ps S (k + 1) i) : Sofar ps S k (i + 1) h := by
  refine ⟨fun j hj => ?_, fun j hj => hS.2 j (by omega)⟩
  by_cases e : j = i
  · subst e; rw [hS.2 j (Nat.le_refl _)]; exact hb
  · exact hS.1 j (by omega)
theorem pkind_run {p : Part} (h : p.isRun = true) : pkind p = 1 := by rw [run_of h]; rfl
theorem pkind_one {p : Part} (h : p.isRun = false) : ((pkind p) == 1) = false := by
  rcases p with _ | _ | F | b
  · cases h
  · rfl
  · rfl
  · rfl
theorem parts_small {P : ByteArray} {ps : List Part} (h : parts P.data.toList = ps) (hp : P.size ≤ 65536) : ps.length ≤ 65536 := by
  have h1 := parts_len P.data.toList
  have h2 : P.data.toList.length = P.size := by simp
  rw [h] at h1
  omega
theorem part_at {ps : List Part} {k : Nat} (h : k < ps.length) : ∃ p, ps[k]? = some p := ⟨_, List.getElem?_eq_getElem h⟩

set_option maxRecDepth 100000 in
set_option maxHeartbeats 2000000 in
theorem rmatch_any (P S : ByteArray) (w : World) (hp : P.size ≤ 65536) (hs : S.size ≤ 65536) (M : Bool) (hM : Hid (mt (parts P.data.toList) S.data.toList = M)) :
    Calls Tryd.prog 10 #[.string P, .string S] w fun e w' => e = .returned (.bool M) ∧ Below w.heap.size w w' := by
  have hmk := make_bools S.size hs
  go_enter Tryd.func10, Tryd.ntmps10
  go_upto_region 2 with fail
  have hst := mstart w S.size
  generalize w.alloc (.cells (bcells noByte (S.size + 1)) 4) = W at hst ⊢
  obtain ⟨r, hr⟩ : ∃ r : Nat, Hid (w.heap.size = r) := ⟨_, Lib.hid rfl⟩
  rw [hr.out] at hst ⊢
  have hc0 := (hst.blk.cell 0).trans (bcells_at _ _ 0 (by omega))
  have hf0 := hst.blk.frozen 0
  go_upto_block 0 with (go_at_call 20; (with_reducible refine (rparts_any P _ hp).mono ?_); rintro e w' ⟨v, rfl, hown, hbP⟩; have hst2 := (hst.set_ 0 (by omega) true).below hbP)
  clear hst hc0 hf0
  obtain ⟨ps, hps⟩ : ∃ ps : List Part, Hid (parts P.data.toList = ps) := ⟨_, Lib.hid rfl⟩
  rw [hps.out] at hown
  go_cut [5, 7, 8, 9] from 18 to 90 (fun s5 _ _ _ wx => ∃ (r : Nat) (f : Nat → Bool), s5 = .slice (some ⟨r, 0, none⟩) (S.size + 1) (S.size + 1) ∧ Blk wx r 4 (bcells f (S.size + 1)) ∧ Hid (f S.size = M) ∧ Below w.heap.size w wx)
  case first =>
    rcases hown.2 with ⟨rfl, h0⟩ | ⟨g, cap, cur, rfl, hg1, hg2, hg3, hg4, _⟩
    · have hfin : Hid ((if S.size = 0 then true else noByte S.size) = M) := Lib.hid (by rw [upTo_start (ps := ps) S.size (Nat.le_refl _), ← hM.out, hps.out, upTo_end (by omega)])
      clear hown
      go_wp2_with fail
      refine wp_loop_rounds 1 ?_
      rw [rounds_succ]
      go_wp2_with fail
      go_meet
      case rel => exact ⟨r, _, rfl, hst2.blk, hfin, hst2.bel⟩
    · have hrow := (prow_of hown).1
      have hle := parts_small hps.out hp
      have hO : MOut w r g S.size (fun i => if i = 0 then true else noByte i) ps w' := ⟨hst2.blk, hrow, hst2.le, hst2.bel⟩
      have hF : Hid (∀ i, i ≤ S.size → (fun i => if i = 0 then true else noByte i) i = upTo ps S 0 i) := Lib.hid (fun i hi => upTo_start i hi)
      clear hown hbP hg1 hg2 hg3 hg4 hst2 hrow
      go_wp2_with fail
      go_loopw [5, 7, 8, 9] (fun s5 s7 _ _ wr => ∃ (k r : Nat) (f : Nat → Bool), k ≤ ps.length ∧ s7 = .int .i64 k ∧ s5 = .slice (some ⟨r, 0, none⟩) (S.size + 1) (S.size + 1) ∧ MOut w r g S.size f ps wr ∧ Hid (∀ i, i ≤ S.size → f i = upTo ps S k i)) (fun _ s7 _ _ _ => ps.length - (intOf s7).toNat)
      case atStart => exact ⟨0, r, _, by omega, rfl, rfl, hO, hF⟩
      case round =>
        clear hO hF
        obtain ⟨k, r, f, hk, rfl, rfl, hO, hF⟩ := hrel
        by_cases hlt : k < ps.length
        · obtain ⟨p, hpk⟩ := part_at hlt
          have hpH := Lib.hid hpk
          clear hpk
          go_upto_region 8 with fail
          have hE := hO.enter
          generalize wr.alloc (.cells (bcells noByte (S.size + 1)) 4) = wi at hE ⊢
          generalize wr.heap.size = q at hE ⊢
          clear hO
          go_wp2_with fail
          go_loopw [9] (fun s9 wr => ∃ (i : Nat) (h : Nat → Bool), i ≤ S.size + 1 ∧ s9 = .int .i64 i ∧ MIn w r q g S.size f h ps wr ∧ Hid (Sofar ps S k i h)) (fun s9 _ => S.size + 1 - (intOf s9).toNat)
          case atStart => exact ⟨0, _, by omega, rfl, hE, Lib.hid (sofar_start _ _ _)⟩
          case round =>
            clear hE
            obtain ⟨i, h, hi, rfl, hE, hS⟩ := hrel
            by_cases hli : i ≤ S.size
            · have hk0 := hE.row.kind hpH.out
              have hqf := hE.qb.frozen i
              have hqc := (hE.qb.cell i).trans (bcells_at _ _ i (by omega))
              cases hrun : p.isRun with
              | true =>
                rw [pkind_run hrun] at hk0
                rcases Nat.eq_zero_or_pos i with hz | hz
                · subst hz
                  have hrc := (hE.rb.cell 0).trans (bcells_at _ _ 0 (by omega))
                  cases hv : f 0 with
                  | true =>
                    rw [hv] at hrc
                    have hN := Lib.hid (sofar_set hS.out (b := true) (by rw [upTo_run0 hpH.out hrun, ← hF.out 0 hli, hv]))
                    clear hrun hv
                    go_wp2_with fail
                    go_roundw
                    case rel => exact ⟨0 + 1, _, by omega, by go_num, hE.set_ 0 (by omega) true, hN⟩
                    case measure => simp [intOf]
                  | false =>
                    rw [hv] at hrc
                    have hN := Lib.hid (sofar_set hS.out (b := false) (by rw [upTo_run0 hpH.out hrun, ← hF.out 0 hli, hv]))
                    clear hrun hv
                    go_wp2_with fail
                    go_roundw
                    case rel => exact ⟨0 + 1, _, by omega, by go_num, hE.set_ 0 (by omega) false, hN⟩
                    case measure => simp [intOf]
                · have hrc := (hE.rb.cell i).trans (bcells_at _ _ i (by omega))
                  have hqp := (hE.qb.cell (i - 1)).trans (bcells_at _ _ (i - 1) (by omega))
                  cases hv : f i with
                  | true =>
                    rw [hv] at hrc
                    have hN := Lib.hid (sofar_set hS.out (b := true) (by rw [upTo_run' hpH.out hrun hz hli, ← hF.out i hli, hv]; rfl))
                    clear hrun hv
                    go_wp2_with fail
                    go_roundw
                    case rel => exact ⟨i + 1, _, by omega, by go_num, hE.set_ i (by omega) true, hN⟩
                    case measure => simp [intOf]; omega
                  | false =>
                    rw [hv] at hrc
                    have hN := Lib.hid (sofar_set hS.out (b := h (i - 1)) (by rw [upTo_run' hpH.out hrun hz hli, ← hF.out i hli, hv, ← hS.out.1 (i - 1) (by omega)]; rfl))
                    clear hrun hv
                    go_wp2_with fail
                    go_roundw
                    case rel => exact ⟨i + 1, _, by omega, by go_num, hE.set_ i (by omega) (h (i - 1)), hN⟩
                    case measure => simp [intOf]; omega
              | false =>
                have hk1 := pkind_one hrun
                rcases Nat.eq_zero_or_pos i with hz | hz
                · subst hz
                  have hN := Lib.hid (sofar_skip hS.out (by rw [upTo_one0 hpH.out hrun]))
                  clear hrun
                  go_wp2_with fail
                  go_roundw
                  case rel => exact ⟨0 + 1, _, by omega, by go_num, hE, hN⟩
                  case measure => simp [intOf]
                · have hlt1 : i - 1 < S.size := by omega
                  have hrc := (hE.rb.cell (i - 1)).trans (bcells_at _ _ (i - 1) (by omega))
                  cases hv : f (i - 1) with
                  | false =>
                    rw [hv] at hrc
                    have hN := Lib.hid (sofar_skip hS.out (by rw [upTo_one' hpH.out hrun hz hlt1, ← hF.out (i - 1) (by omega), hv]; rfl))
                    clear hrun hv
                    go_wp2_with fail
                    go_roundw
                    case rel => exact ⟨i + 1, _, by omega, by go_num, hE, hN⟩
                    case measure => simp [intOf]; omega
                  | true =>
                    rw [hv] at hrc
                    have hok := phas_ok hrun S[i - 1]
                    have hhas := hE.row.has hpH.out S[i - 1]
                    have hc := S[i - 1].toNat_lt
                    have hb : p.ok S[i - 1] = upTo ps S (k + 1) i := by rw [upTo_one' hpH.out hrun hz hlt1, ← hF.out (i - 1) (by omega), hv]; rfl
                    rw [← hok] at hb
                    by_cases hk2 : pkind p = 2
                    · have hN := Lib.hid (sofar_set hS.out (b := true) (by rw [← hb, hk2]; rfl))
                      rw [hk2] at hk0
                      clear hrun hv hok hb hk1
                      go_wp2_with fail
                      go_region
                      go_wp2_with fail
                      go_roundw
                      case rel => exact ⟨i + 1, _, by omega, by go_num, (hE.set_ i (by omega) true).drew, hN⟩
                      case measure => simp [intOf]; omega
                    · have hk3 : (pkind p == 2) = false := by simpa using hk2
                      have hN := Lib.hid (sofar_set hS.out (b := phas p S[i - 1].toNat) (by rw [← hb, decide_eq_false hk2]; rfl))
                      clear hrun hv hok hb hk2
                      go_wp2_with fail
                      have hc1 : (S[i - 1].toNat : Int) < 256 := by omega
                      have hc2 : (i : Int) < (S.size : Int) + 1 := by omega
                      have hc3 : i < S.size + 1 := by omega
                      have b1 : (i : Int) - 1 < S.size := by omega
                      have z1 : 0 ≤ (i : Int) - 1 := by omega
                      have z2 : 1 ≤ (i : Int) := by omega
                      have t1 : ((i : Int) - 1).toNat = i - 1 := by omega
                      have w1 : IntKind.i64.wrap ((i : Int) - 1) = (i : Int) - 1 := IntWalk.i64_in _ (by omega)
                      go_still_tail 21, (by kernel_rfl)
                      clear w1
                      go_wp2_with fail
                      go_roundw
                      case rel => exact ⟨i + 1, _, by omega, by go_num, (hE.set_ i (by omega) (phas p S[i - 1].toNat)).drew, hN⟩
                      case measure => simp [intOf]; omega
            · have hD : Hid (∀ j, j ≤ S.size → h j = upTo ps S (k + 1) j) := Lib.hid (fun j hj => hS.out.1 j (by omega))
              have hO := hE.leave
              go_wp2_with fail
              go_roundw
              case rel => exact ⟨k + 1, q, h, by omega, by go_num, rfl, hO, hD⟩
              case measure => simp [intOf]; omega
        · have hfin : Hid (f S.size = M) := Lib.hid (by rw [hF.out S.size (Nat.le_refl _), ← hM.out, hps.out, upTo_end (by omega)])
          have hk2 : k = ps.length := by omega
          subst hk2
          go_wp2_with fail
          go_meet
          case rel => exact ⟨r, f, rfl, hO.blk, hfin, hO.bel⟩
  case rest =>
    obtain ⟨r', f, rfl, hb, hfin, hbel⟩ := hcut
    have hcell := (hb.cell S.size).trans (bcells_at _ _ S.size (by omega))
    rw [hfin.out] at hcell
    go_wp2_with fail
    go_ret
    exact ⟨rfl, hbel⟩

end Go.Proofs.YtadihlmpkckakaaDoor
