/-
  The walk of the document's own parts of a pattern. A premise: texts no longer than 65536 bytes.
-/
import Derived.Test.YtadihlmpkckakaaDoorWalksF
import Derived.Laws.AppendOwn
import Derived.Great.FillDense
namespace Go.Proofs.YtadihlmpkckakaaDoor
open Go.RowKit Gl

def oneByte (n i : Nat) : Bool := if i = n then true else noByte i
def pkind (p : Part) : Int := match p with
  | none => 1
  | some none => 2
  | some (some (Sum.inl _)) => 3
  | some (some (Sum.inr _)) => 4
def phas (p : Part) : Nat → Bool := match p with
  | some (some (Sum.inl F)) => hasN F
  | some (some (Sum.inr c)) => oneByte c.toNat
  | _ => noByte
def pcs (p : Part) : Array Value := pcells (pkind p) (phas p)
def flat (l : List Part) : List Value := l.flatMap fun p => (pcs p).toList
theorem flat_snoc (l : List Part) (p : Part) : flat (l ++ [p]) = flat l ++ (pcs p).toList := by simp [flat]
/-- A block that is known whole, beside a row that is the call's own. -/
structure Beside (w0 : World) (b : Nat) (v : Value) (n : Nat) (xs : List Value) (cs : Array Value) (W : World) : Prop where
  blk : Blk W b 43 cs
  own : W.ownsRow w0.heap.size 43 257 v n xs
  ne : v.ownBlock ≠ some b
  le : w0.heap.size ≤ b
  bel : Below w0.heap.size w0 W
section
variable {w0 W W' : World} {b : Nat} {v : Value} {n : Nat} {xs : List Value} {cs : Array Value}
theorem Beside.set_ (h : Beside w0 b v n xs cs W) (i : Nat) (u : Value) : Beside w0 b v n xs (cs.setIfInBounds i u) (W.setCell ⟨b, i, none⟩ u) :=
  ⟨h.blk.set_ i u, ownsRow_setCell_other h.own h.ne u, h.ne, h.le, h.bel.setCell h.le u⟩
theorem grown_row (W : World) (b : Nat) (c' : Array Value) : W.grownBy (W.setRow b c') (some b) :=
  ⟨rfl, rfl, rfl, by rw [size_setRow]; exact Nat.le_refl _, fun i _ hne => setRow_other W b i c' (fun e => hne (by rw [e]))⟩
theorem Beside.row (h : Beside w0 b v n xs cs W) (c' : Array Value) : Beside w0 b v n xs c' (W.setRow b c') :=
  ⟨h.blk.row c', h.own.kept (grown_row W b c') (Or.inr h.ne), h.ne, h.le, below_row h.bel h.le c'⟩
theorem grown_below {W W' : World} (h : Below W.heap.size W W') (r : Option Nat) : W.grownBy W' r := ⟨h.os, h.tape, h.output, h.size, fun i hi _ => h.block i hi⟩
theorem Beside.below (h : Beside w0 b v n xs cs W) (hb : Below W.heap.size W W') : Beside w0 b v n xs cs W' := by
  refine ⟨h.blk.below hb h.blk.lt, ?_, h.ne, h.le, h.bel.trans (hb.mono h.bel.size)⟩
  exact h.own.kept (row := some b) (grown_below hb _) (Or.inr h.ne)
theorem Beside.new {w : World} (hown : w.ownsRow w0.heap.size 43 257 v n xs) (hbel : Below w0.heap.size w0 w) (cs : Array Value) : Beside w0 w.heap.size v n xs cs (w.alloc (.cells cs 43)) := by
  refine ⟨Blk.new _ _ _, hown.alloc _, fun e => ?_, hbel.size, hbel.alloc hbel.size _⟩
  have := (hown.lt _ e).2
  omega
end
theorem parts_start (w : World) (v : Value) (n : Nat) (xs : List Value) (w0 : World) (hown : w.ownsRow w0.heap.size 43 257 v n xs) (hbel : Below w0.heap.size w0 w) :
    Beside w0 w.heap.size v n xs (pcells 4 noByte) ((w.alloc (.cells (pcells 0 noByte) 43)).setRow w.heap.size ((pcells 0 noByte).setIfInBounds 0 (.int .i64 4))) := by
  have h := (Beside.new hown hbel (pcells 0 noByte)).row ((pcells 0 noByte).setIfInBounds 0 (.int .i64 4))
  rwa [pcells_set0] at h ⊢

theorem rclass_at (s : ByteArray) (k : Nat) (w : World) (hs : s.size ≤ 65536) (hk : k < s.size) :
    Calls Tryd.prog 30 #[.string s, .int .i64 ((k : Int) + 1)] w fun e w' => e = .returned (.tuple #[.agg (pcells 3 (hasN (clsHas (s.data.toList.drop (k + 1))))), .int .i64 (k + 1 + clsLen (s.data.toList.drop (k + 1)) : Nat)]) ∧ Below w.heap.size w w' :=
  rclass_any s (k + 1) w hs (by omega)
/-- What a part of a pattern has been found to be. -/
def Found (s : ByteArray) (k n : Nat) (p : Part) : Prop := k + n ≤ s.size + 1 ∧ s.data.toList.drop (k + n) = (s.data.toList.drop k).drop (partLen (s.data.toList.drop k)) ∧ part1 (s.data.toList.drop k) = p
theorem found_mk {s : ByteArray} {k n : Nat} {p : Part} (hn : k + n ≤ s.size + 1) (h : part1 (s.data.toList.drop k) = p ∧ partLen (s.data.toList.drop k) = n) : Found s k n p :=
  ⟨hn, by rw [h.2, List.drop_drop], h.1⟩
theorem found_run {s : ByteArray} {k : Nat} (hk : k < s.size) (h : (s[k].toNat : Int) = 42) : Found s k 1 .run := by
  refine found_mk (by omega) ?_
  rw [cons1 s k hk, byte_of (c := s[k]) (n := 42) (by decide) h, part_cons, partLen_cons]
  exact ⟨rfl, rfl⟩
theorem found_any {s : ByteArray} {k : Nat} (hk : k < s.size) (h : (s[k].toNat : Int) = 63) : Found s k 1 .any := by
  refine found_mk (by omega) ?_
  rw [cons1 s k hk, byte_of (c := s[k]) (n := 63) (by decide) h, part_cons, partLen_cons]
  exact ⟨rfl, rfl⟩
theorem clsLen_le (l : List UInt8) : clsLen l ≤ l.length + 1 := by
  unfold clsLen body
  cases h : turned l with
  | false => have := len_le l; simp; omega
  | true =>
    cases l with
    | nil => cases h
    | cons a t => have := len_le t; simp; omega
theorem found_cls {s : ByteArray} {k : Nat} (hk : k < s.size) (h : (s[k].toNat : Int) = 91) : Found s k (1 + clsLen (s.data.toList.drop (k + 1))) (.cls (clsHas (s.data.toList.drop (k + 1)))) := by
  have h1 := clsLen_le (s.data.toList.drop (k + 1))
  have h2 : (s.data.toList.drop (k + 1)).length = s.size - (k + 1) := by simp
  refine found_mk (by omega) ?_
  rw [cons1 s k hk, byte_of (c := s[k]) (n := 91) (by decide) h, part_cons, partLen_cons]
  exact ⟨rfl, rfl⟩
theorem found_esc {s : ByteArray} {k : Nat} (hk : k + 1 < s.size) (h : (s[k].toNat : Int) = 92) : Found s k 2 (.byte s[k + 1]) := by
  refine found_mk (by omega) ?_
  rw [cons2 s k hk, byte_of (c := s[k]) (n := 92) (by decide) h, part_cons, partLen_cons]
  exact ⟨rfl, rfl⟩
theorem found_lit {s : ByteArray} {k : Nat} (hk : k < s.size) (h1 : ¬ (s[k].toNat : Int) = 42) (h2 : ¬ (s[k].toNat : Int) = 63) (h3 : ¬ (s[k].toNat : Int) = 91) (h4 : ¬ ((s[k].toNat : Int) = 92 ∧ k + 1 < s.size)) : Found s k 1 (.byte s[k]) := by
  refine found_mk (by omega) ?_
  have e1 : s[k] ≠ 42 := fun e => h1 (by rw [e]; rfl)
  have e2 : s[k] ≠ 63 := fun e => h2 (by rw [e]; rfl)
  have e3 : s[k] ≠ 91 := fun e => h3 (by rw [e]; rfl)
  rw [cons1 s k hk, part_cons, partLen_cons, if_neg e1, if_neg e2, if_neg e3, if_neg e1, if_neg e2, if_neg e3]
  by_cases h5 : k + 1 < s.size
  · have e4 : s[k] ≠ 92 := fun e => h4 ⟨by rw [e]; rfl, h5⟩
    rw [cons1 s (k + 1) h5]
    simp [e4]
  · rw [none0 s (k + 1) (by omega)]
    exact ⟨rfl, rfl⟩
/-- What the ways of the document's choice of a part meet in. -/
def PartMet (s : ByteArray) (k : Nat) (w0 : World) (b : Nat) (v : Value) (n : Nat) (xs : List Value) (s4 : Value) (wx : World) : Prop :=
  ∃ (m : Nat) (p : Part), 1 ≤ m ∧ s4 = .int .i64 ((k : Int) + m) ∧ Hid (Found s k m p) ∧ Beside w0 b v n xs (pcs p) wx
theorem met_kind {s : ByteArray} {k m b n : Nat} {w0 W : World} {v : Value} {xs : List Value} {p : Part} (hm : 1 ≤ m) (h : Beside w0 b v n xs (pcells 4 noByte) W) (hf : Found s k m p) (hp : phas p = noByte) :
    PartMet s k w0 b v n xs (.int .i64 ((k : Int) + m)) (W.setCell ⟨b, 0, none⟩ (.int .i64 (pkind p))) := by
  refine ⟨m, p, hm, rfl, Lib.hid hf, ?_⟩
  have h1 := h.set_ 0 (.int .i64 (pkind p))
  rw [pcells_set0] at h1
  unfold pcs
  rwa [hp]
theorem met_byte {s : ByteArray} {k m b n : Nat} {w0 W : World} {v : Value} {xs : List Value} {c : UInt8} (hm : 1 ≤ m) (h : Beside w0 b v n xs (pcells 4 noByte) W) (hf : Found s k m (.byte c)) :
    PartMet s k w0 b v n xs (.int .i64 ((k : Int) + m)) (W.setCell ⟨b, 1 + c.toNat, none⟩ (.bool true)) := by
  refine ⟨m, _, hm, rfl, Lib.hid hf, ?_⟩
  have h1 := h.set_ (1 + c.toNat) (.bool true)
  rw [pcells_set _ _ _ _ c.toNat_lt] at h1
  exact h1
theorem met_cls {s : ByteArray} {k b n : Nat} {w0 W W' : World} {v : Value} {xs : List Value} {F : UInt8 → Bool} {m : Nat} (h : Beside w0 b v n xs (pcells 4 noByte) W) (hb : Below W.heap.size W W') (hf : Found s k (1 + m) (.cls F)) :
    PartMet s k w0 b v n xs (.int .i64 (k + 1 + m : Nat)) (W'.setRow b (pcells 3 (hasN F))) := by
  refine ⟨1 + m, _, by omega, congrArg (Value.int .i64) (by omega), Lib.hid hf, ?_⟩
  exact (h.below hb).row _

theorem parts_info : (Tryd.prog.info? 43).map (fun i => (i.zero, i.size, i.bytes)) = some (some (.agg (pcells 0 noByte)), 257, 264) := by kernel_rfl
theorem pcs_size (p : Part) : (pcs p).size = 257 := pcells_size _ _
theorem parts_next {s : ByteArray} {k m : Nat} {p : Part} {ps : List Part} (hk : k < s.size) (hF : Found s k m p) (hP : ps ++ parts (s.data.toList.drop k) = parts s.data.toList) :
    (ps ++ [p]) ++ parts (s.data.toList.drop (k + m)) = parts s.data.toList := by
  rw [← hP, parts_more (l := s.data.toList.drop k) (by rw [cons1 s k hk]; simp), hF.2.1, hF.2.2]
  simp
theorem parts_room {s : ByteArray} {k : Nat} {p : Part} {ps : List Part} (hs : s.size ≤ 65536) (h : (ps ++ [p]) ++ parts (s.data.toList.drop k) = parts s.data.toList) : ps.length < 65536 := by
  have h1 := parts_len s.data.toList
  have h2 : s.data.toList.length = s.size := by simp
  rw [← h] at h1
  simp only [List.length_append, List.length_cons, List.length_nil] at h1
  omega
theorem fill_part {i0 : TypeInfo} (hz : i0.size = 257) (p : Part) :
    Instr.fill (fun i => some (i * i0.size, i0.size)) ((Array.range (1 * i0.size)).map ((Value.agg (pcells 0 noByte)).cells[· % (Value.agg (pcells 0 noByte)).cells.size]!)) [(0, .agg (pcs p))] = some (pcs p) := by
  rw [hz]
  have h := Great.fill_whole (s := 257) (by decide) [Value.agg (pcs p)] ((Array.range (1 * 257)).map ((Value.agg (pcells 0 noByte)).cells[· % (Value.agg (pcells 0 noByte)).cells.size]!)) (by intro v hv; rw [List.mem_singleton.1 hv]; exact pcs_size p) (by simp)
  have e : ([Value.agg (pcs p)].flatMap fun v => v.cells.toList).toArray = pcs p := by simp [Value.cells]
  rw [e] at h
  exact h

theorem wpList_part {ops : Array Oper} {rest : List Oper} {o : Oper} {a : Act} {w : World} {Q : Exit → Act → World → Prop} {d : Option Tmp} (x : Operand) (hg : o.guard = none) (ho : o.op = .buildSlice 39 1 #[(0, x)]) (hd : o.dst = d)
    (p : Part) (hx : a.eval x = .agg (pcs p))
    (h : wpList Tryd.prog ops Q rest (a.put d (.slice (some ⟨w.heap.size, 0, none⟩) 1 1)) (w.alloc (.cells (pcs p) 43))) : wpList Tryd.prog ops Q (o :: rest) a w := by
  subst hd
  obtain ⟨i0, hi, hz0, hz1, hz2⟩ := info_parts parts_info
  refine wpList_buildSlice hg 39 43 1 #[(0, x)] ho (pcs p) i0 (.agg (pcells 0 noByte)) Tryd.underlying39 hi hz0 (by rw [hz1]; decide) (by rw [hz1]; decide) ?_ h
  have e : (#[(0, x)].map fun (q : Nat × Operand) => (q.1, a.eval q.2)).toList = [(0, .agg (pcs p))] := by simp [hx]
  rw [show (#[(0, x)].map fun (i, x) => (i, a.eval x)).toList = [(0, .agg (pcs p))] from e]
  exact fill_part hz1 p

theorem pcs_len (p : Part) : (pcs p).toList.length = 1 * 257 := by rw [Array.length_toList, pcs_size]
theorem pcs_one (p : Part) : ∀ u ∈ (pcs p).toList, u.oneCell' = true := fun u hu => (Array.all_eq_true_iff_forall_mem.1 (pcells_one (pkind p) (phas p))) u (by unfold pcs at hu; simpa using hu)
theorem new_cells (w : World) (cs : Array Value) {t : TypeId} : ∀ j u, cs.toList[j]? = some u → (w.alloc (.cells cs t)).cell? ((⟨w.heap.size, 0, none⟩ : Addr).add j) = some u := by
  intro j u hu
  have hadd : (⟨w.heap.size, 0, none⟩ : Addr).add j = ⟨w.heap.size, j, none⟩ := by unfold Addr.add; split <;> simp_all
  rw [hadd, (Blk.new w t cs).cell j]
  simpa using hu
theorem parts_round {w0 W w' : World} {b : Nat} {v v' : Value} {ps : List Part} {p : Part} {cs : Array Value} (h : Beside w0 b v ps.length (flat ps) cs W) (hown : w'.ownsRow w0.heap.size 43 257 v' (ps.length + 1) (flat ps ++ (pcs p).toList))
    (hg : (W.alloc (.cells (pcs p) 43)).grownBy w' v.ownBlock) : w'.ownsRow w0.heap.size 43 257 v' (ps ++ [p]).length (flat (ps ++ [p])) ∧ Below w0.heap.size w0 w' := by
  refine ⟨by rw [flat_snoc]; simpa using hown, (h.bel.alloc h.bel.size _).grown hg (by simp; have := h.bel.size; omega) fun k hk => (h.own.lt k hk).1⟩
theorem parts_done {s : ByteArray} {k : Nat} {ps : List Part} (hk : s.size ≤ k) (hP : ps ++ parts (s.data.toList.drop k) = parts s.data.toList) : ps = parts s.data.toList := by
  rw [none0 s k hk, parts_nil, List.append_nil] at hP
  exact hP
def PartsEnd (s : ByteArray) (w : World) (e : Ending) (w' : World) : Prop := ∃ v, e = .returned v ∧ w'.ownsRow w.heap.size 43 257 v (parts s.data.toList).length (flat (parts s.data.toList)) ∧ Below w.heap.size w w'
theorem parts_ret {s : ByteArray} {w w' : World} {v : Value} {ps : List Part} (h : ps = parts s.data.toList) (hown : w'.ownsRow w.heap.size 43 257 v ps.length (flat ps)) (hbel : Below w.heap.size w w') : PartsEnd s w (.returned v) w' := by
  rw [h] at hown
  exact ⟨v, rfl, hown, hbel⟩

set_option maxRecDepth 100000 in
set_option maxHeartbeats 2000000 in
theorem rparts_any (s : ByteArray) (w : World) (hs : s.size ≤ 65536) :
    Calls Tryd.prog 20 #[.string s] w (PartsEnd s w) := by
  have hz := zero43
  obtain ⟨i0, hi, hz0, hz1, hz2⟩ := info_parts parts_info
  go_enter Tryd.func20, Tryd.ntmps20
  go_wp2_with fail
  go_loopw [3, 4, 5] (fun out i _ wr => ∃ (k : Nat) (ps : List Part), i = .int .i64 k ∧ k ≤ s.size + 1 ∧ ps.length ≤ 65536 ∧ Hid (ps ++ parts (s.data.toList.drop k) = parts s.data.toList) ∧ wr.ownsRow w.heap.size 43 257 out ps.length (flat ps) ∧ Below w.heap.size w wr) (fun _ i _ _ => s.size + 2 - (intOf i).toNat)
  case atStart => exact ⟨0, [], rfl, by omega, by simp, Lib.hid (by simp), World.ownsRow_nil _ _ _ _, Below.refl _ _⟩
  case round =>
    obtain ⟨k, ps, rfl, hk, hps, hP, hown, hbel⟩ := hrel
    by_cases hlt : k < s.size
    · go_upto_block 2 with (refine wpList_store_rowTo rfl 43 (.tmp 5) (.tmp 10) rfl rfl wr.heap.size ((pcells 0 noByte).setIfInBounds 0 (.int .i64 4)) rfl rfl 43 (pcells 0 noByte) (heap_alloc_last _ _) (by rw [size43]; simp [pcells_size]) (by simp [pcells_size]) (by rw [pcells_set0]; exact pcells_one _ _) ?_)
      have hst := parts_start wr _ _ _ w hown hbel
      generalize (wr.alloc (.cells (pcells 0 noByte) 43)).setRow wr.heap.size ((pcells 0 noByte).setIfInBounds 0 (.int .i64 4)) = W at hst ⊢
      generalize wr.heap.size = b at hst ⊢
      clear hown hbel
      go_cut [4] from 11 to 65 (fun s4 wx => PartMet s k w b u3 ps.length (flat ps) s4 wx)
      case first =>
        have hc0 := (hst.blk.cell 0).trans (pcells_kind _ _)
        have hf0 := hst.blk.frozen 0
        have hb := s[k].toNat_lt
        by_cases h42 : (s[k].toNat : Int) = 42
        · have hx : ((s[k].toNat : Int) == 42) = true := by simpa using h42
          have hF := Lib.hid (found_run hlt h42)
          go_wp2_with fail
          go_meet
          case rel => exact met_kind (Nat.le_refl 1) hst hF.out rfl
        · have hx : ((s[k].toNat : Int) == 42) = false := by simpa using h42
          by_cases h63 : (s[k].toNat : Int) = 63
          · have hx2 : ((s[k].toNat : Int) == 63) = true := by simpa using h63
            have hF := Lib.hid (found_any hlt h63)
            go_wp2_with fail
            go_meet
            case rel => exact met_kind (Nat.le_refl 1) hst hF.out rfl
          · have hx2 : ((s[k].toNat : Int) == 63) = false := by simpa using h63
            by_cases h91 : (s[k].toNat : Int) = 91
            · have hx3 : ((s[k].toNat : Int) == 91) = true := by simpa using h91
              have hF := Lib.hid (found_cls hlt h91)
              go_wp2_with (first
                | (go_at_call 30; (with_reducible refine (rclass_at s k _ hs hlt).mono ?_); rintro e w' ⟨rfl, hbw⟩; have hst2 := hst.below hbw)
                | (refine wpList_store_rowTo rfl 43 (.tmp 5) (.tmp 44) rfl rfl b (pcells 3 (hasN (clsHas (s.data.toList.drop (k + 1))))) rfl rfl 43 (pcells 4 noByte) hst2.blk (by rw [size43, pcells_size]) (by rw [pcells_size, pcells_size]) (pcells_one _ _) ?_))
              go_meet
              case rel => exact met_cls hst hbw hF.out
            · have hx3 : ((s[k].toNat : Int) == 91) = false := by simpa using h91
              by_cases h92 : (s[k].toNat : Int) = 92 ∧ k + 1 < s.size
              · have hx4 : ((s[k].toNat : Int) == 92) = true := by simpa using h92.1
                have hlt1 := h92.2
                have hb1 := s[k + 1].toNat_lt
                have hcB := (hst.blk.cell (1 + s[k + 1].toNat)).trans (pcells_at _ _ _ hb1)
                have hfB := hst.blk.frozen (1 + s[k + 1].toNat)
                have hF := Lib.hid (found_esc hlt1 h92.1)
                go_wp2_with fail
                go_meet
                case rel => exact met_byte (by decide) hst hF.out
              · have hF := Lib.hid (found_lit hlt h42 h63 h91 h92)
                by_cases h92' : (s[k].toNat : Int) = 92
                · have hx4 : ((s[k].toNat : Int) == 92) = true := by simpa using h92'
                  have hge : ¬ k + 1 < s.size := fun h => h92 ⟨h92', h⟩
                  have he : s[k] = 92 := byte_of (by decide) h92'
                  have hcB : W.cell? ⟨b, 93, none⟩ = some (.bool (noByte 92)) := (hst.blk.cell (1 + 92)).trans (pcells_at _ _ _ (by decide))
                  have hfB : W.frozen? ⟨b, 93, none⟩ = false := hst.blk.frozen (1 + 92)
                  rw [he] at hF
                  clear he
                  go_wp2_with fail
                  go_meet
                  case rel => exact met_byte (Nat.le_refl 1) hst hF.out
                · have hx4 : ((s[k].toNat : Int) == 92) = false := by simpa using h92'
                  have hcB := (hst.blk.cell (1 + s[k].toNat)).trans (pcells_at _ _ _ hb)
                  have hfB := hst.blk.frozen (1 + s[k].toNat)
                  go_wp2_with fail
                  go_meet
                  case rel => exact met_byte (Nat.le_refl 1) hst hF.out
      case rest =>
        obtain ⟨m, p, hm, rfl, hF, hbe⟩ := hcut
        have hk2 := hF.out.1
        have hN := Lib.hid (parts_next hlt hF.out hP.out)
        have hps2 : ps.length < 65536 := parts_room hs hN.out
        go_upto_region 18 with fail
        go_step
        go_step
        go_step
        go_step
        refine wpList_load_row rfl 43 (.tmp 5) rfl b rfl 43 (pcs p) (0, 0) _ hbe.blk Tryd.underlying43 rfl (by rw [size43, pcs_size]) ?_
        refine wpList_part (.tmp 67) rfl rfl (d := some 68) rfl p rfl ?_
        refine wpList_append_own _ rfl (.tmp 66) (.tmp 68) 39 rfl w.heap.size 43 i0 (.agg (pcells 0 noByte)) 257 264 Tryd.underlying39 hi hz0 hz1 hz2 (pcells_size _ _) (by decide) u3 ps.length (flat ps) rfl (hbe.own.alloc _) ⟨wc.heap.size, 0, none⟩ 1 1 (pcs p).toList rfl (pcs_len p) (new_cells wc (pcs p)) (pcs_one p) (by unfold maxLen; omega) (by omega) (by simp; have := hbe.bel.size; omega) ?_
        intro v' w' hown' hgrow _
        have hP' := parts_round hbe hown' hgrow
        clear hown' hgrow
        go_wp2_with fail
        go_roundw
        case rel => exact ⟨k + m, ps ++ [p], congrArg (Value.int .i64) (by omega), hk2, by simp; omega, hN, hP'.1, hP'.2⟩
        case measure => simp [intOf]; omega
    · have hE := Lib.hid (parts_done (by omega) hP.out)
      go_wp2_with fail
      go_ret
      exact parts_ret hE.out hown hbel

end Go.Proofs.YtadihlmpkckakaaDoor
