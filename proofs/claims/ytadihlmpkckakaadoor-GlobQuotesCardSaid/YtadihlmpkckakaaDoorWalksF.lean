/-
  The walk of the document's own classes. A premise: texts no longer than 65536 bytes.
-/
import Derived.Test.YtadihlmpkckakaaDoorWalksE
import Derived.Below
import Derived.Laws.OwnMore
import Derived.Deep.Draws
import Derived.Laws.Rows
import Derived.Deep.WholeRow
import Derived.OwnWalk
import Derived.Great.BuildSlice
import Derived.Deep.Cut
import Derived.Deep.CutRange
import Derived.Deep.CutBlock
import Derived.Outline
namespace Go.Proofs.YtadihlmpkckakaaDoor
open Go.RowKit Gl

/-- A part's cells: its kind, and of each byte whether it has it. -/
def pcells (k : Int) (f : Nat → Bool) : Array Value := (Value.int .i64 k :: (List.range 256).map fun i => Value.bool (f i)).toArray
def noByte (_ : Nat) : Bool := false
theorem pcells_size (k : Int) (f : Nat → Bool) : (pcells k f).size = 257 := by simp [pcells]
theorem pcells_kind (k : Int) (f : Nat → Bool) : (pcells k f)[0]? = some (.int .i64 k) := by simp [pcells]
theorem pcells_at (k : Int) (f : Nat → Bool) (i : Nat) (h : i < 256) : (pcells k f)[1 + i]? = some (.bool (f i)) := by
  simp [pcells, Nat.add_comm 1 i, h]
theorem pcells_set (k : Int) (f : Nat → Bool) (i : Nat) (b : Bool) (h : i < 256) : (pcells k f).setIfInBounds (1 + i) (.bool b) = pcells k (fun j => if j = i then b else f j) := by
  apply Array.ext_getElem?
  intro j
  rw [Array.getElem?_setIfInBounds]
  by_cases hj : 1 + i = j
  · subst hj
    rw [if_pos rfl, if_pos (by rw [pcells_size]; omega), pcells_at _ _ _ h, if_pos rfl]
  · rw [if_neg hj]
    rcases Nat.eq_zero_or_pos j with h0 | h0
    · subst h0; rw [pcells_kind, pcells_kind]
    · obtain ⟨m, rfl⟩ : ∃ m, j = 1 + m := ⟨j - 1, by omega⟩
      by_cases hm : m < 256
      · rw [pcells_at _ _ _ hm, pcells_at _ _ _ hm, if_neg (by omega)]
      · rw [Array.getElem?_eq_none (by rw [pcells_size]; omega), Array.getElem?_eq_none (by rw [pcells_size]; omega)]
theorem pcells_one (k : Int) (f : Nat → Bool) : (pcells k f).all (·.oneCell') = true := by
  rw [Array.all_eq_true_iff_forall_mem]
  intro v hv
  simp only [pcells, List.mem_toArray, List.mem_cons, List.mem_map] at hv
  rcases hv with rfl | ⟨i, _, rfl⟩ <;> rfl
theorem pcells_congr {k : Int} {f g : Nat → Bool} (h : ∀ i, i < 256 → f i = g i) : pcells k f = pcells k g := by
  unfold pcells
  congr 2
  apply List.map_congr_left
  intro i hi
  rw [h i (List.mem_range.1 hi)]
theorem info43 : (Tryd.prog.info? 43).map (fun i => (i.zero, i.size)) = some (some (.agg (pcells 0 noByte)), 257) := by kernel_rfl
theorem zero43 (w : World) : (zeroValue 43).run Tryd.prog w = .ok (.agg (pcells 0 noByte)) w := (zero_of_info info43).1 w
theorem size43 : (Tryd.prog.info? 43).map (·.size) = some 257 := (zero_of_info info43).2
theorem built43 (k : Int) (w : World) (h : (Tryd.prog.built 43 [(0, .int .i64 k)]) = some (pcells k noByte)) : (Instr.build 43 #[(0, .int .i64 k)]).run Tryd.prog w = .ok (.agg (pcells k noByte)) w :=
  run_build w 43 #[(0, .int .i64 k)] _ h
theorem built43_3 : Tryd.prog.built 43 [(0, .int .i64 3)] = some (pcells 3 noByte) := by kernel_rfl
theorem built43_4 : Tryd.prog.built 43 [(0, .int .i64 4)] = some (pcells 4 noByte) := by kernel_rfl

theorem turned_yes {s : ByteArray} {i : Nat} {l : List UInt8} {c : UInt8} (hd : s.data.toList.drop i = c :: l) (h : (c.toNat : Int) = 94) : turned (s.data.toList.drop i) = true := by
  rw [hd, byte_of (c := c) (n := 94) (by decide) h]; rfl
theorem turned_no {s : ByteArray} {i : Nat} {l : List UInt8} {c : UInt8} (hd : s.data.toList.drop i = c :: l) (h : ¬ (c.toNat : Int) = 94) : turned (s.data.toList.drop i) = false := by
  rw [hd]
  have e : ¬ c = 94 := fun e => h (by rw [e]; rfl)
  unfold turned
  simpa using e
theorem turned_none {s : ByteArray} {i : Nat} (hd : s.data.toList.drop i = []) : turned (s.data.toList.drop i) = false := by rw [hd]; rfl
theorem turned_lt {s : ByteArray} {i : Nat} (h : turned (s.data.toList.drop i) = true) : i < s.size := by
  rcases Nat.lt_or_ge i s.size with h1 | h1
  · exact h1
  · rw [none0 s i h1] at h; cases h

/-- A block that is known whole. -/
def Blk (w : World) (g : Nat) (t : TypeId) (cs : Array Value) : Prop := w.heap[g]? = some (.cells cs t (0, 0))
section
variable {w w' : World} {g : Nat} {t : TypeId} {cs : Array Value}
theorem Blk.lt (h : Blk w g t cs) : g < w.heap.size := by
  rcases Nat.lt_or_ge g w.heap.size with hlt | hge
  · exact hlt
  · unfold Blk at h; rw [Array.getElem?_eq_none hge] at h; cases h
theorem Blk.cell (h : Blk w g t cs) (i : Nat) : w.cell? ⟨g, i, none⟩ = cs[i]? := cell_of_row w g i cs t (0, 0) h
theorem Blk.frozen (h : Blk w g t cs) (i : Nat) : w.frozen? ⟨g, i, none⟩ = false := by
  unfold Blk at h
  simp [World.frozen?, h]
theorem Blk.drewN (h : Blk w g t cs) (n : Nat) : Blk (w.drewN n) g t cs := h
theorem Blk.drew (h : Blk w g t cs) : Blk w.drew g t cs := h
theorem Blk.alloc (h : Blk w g t cs) (o : Obj) : Blk (w.alloc o) g t cs := (Below.heap_alloc w o g h.lt).trans h
theorem Blk.new (w : World) (t : TypeId) (cs : Array Value) : Blk (w.alloc (.cells cs t)) w.heap.size t cs := heap_alloc_new w _
theorem Blk.set_ (h : Blk w g t cs) (i : Nat) (u : Value) : Blk (w.setCell ⟨g, i, none⟩ u) g t (cs.setIfInBounds i u) := by
  unfold Blk at h ⊢
  simp [World.setCell, Array.getElem?_modify, h]
theorem Blk.far (h : Blk w g t cs) {p : Addr} (hp : g ≠ p.block) (u : Value) : Blk (w.setCell p u) g t cs := (Below.heap_setCell w p u g hp).trans h
theorem Blk.row (h : Blk w g t cs) (c' : Array Value) : Blk (w.setRow g c') g t c' := setRow_heap w g cs c' t (0, 0) h
theorem Blk.rowFar (h : Blk w g t cs) {k : Nat} (hk : g ≠ k) (c' : Array Value) : Blk (w.setRow k c') g t cs := (setRow_other w k g c' hk).trans h
theorem Blk.below {B : Nat} (h : Blk w g t cs) (hb : Below B w w') (hg : g < B) : Blk w' g t cs := (hb.block g hg).trans h
end
theorem below_row {B : Nat} {a w : World} (h : Below B a w) {g : Nat} (hg : B ≤ g) (cs : Array Value) : Below B a (w.setRow g cs) :=
  ⟨h.os, h.tape, h.output, by rw [size_setRow]; exact h.size, fun i hi => (setRow_other w g i cs (by omega)).trans (h.block i hi)⟩
theorem below_drewN {B : Nat} {a w : World} (h : Below B a w) (n : Nat) : Below B a (w.drewN n) := ⟨h.os, h.tape, h.output, h.size, h.block⟩
theorem pcells_set0 (k m : Int) (f : Nat → Bool) : (pcells m f).setIfInBounds 0 (.int .i64 k) = pcells k f := by
  simp [pcells]

theorem item_ord (l : List UInt8) : (item l).1 ≤ (item l).2.1 := by
  unfold item
  split
  · exact UInt8.le_refl _
  · exact UInt8.le_refl _
  · split <;> exact UInt8.le_refl _
  · split
    · exact UInt8.le_refl _
    · split
      · split
        · exact UInt8.le_of_lt (by assumption)
        · exact UInt8.not_lt.1 (by assumption)
      · exact UInt8.le_refl _
theorem item_nums (s : ByteArray) (k : Nat) (h : k < s.size) : ∃ lo hi sz : Nat, Hid (itL (s.data.toList.drop k) = (lo : Int) ∧ itH (s.data.toList.drop k) = (hi : Int) ∧ itN (s.data.toList.drop k) = (sz : Int)) ∧ lo ≤ hi ∧ hi ≤ 255 ∧ 1 ≤ sz ∧ k + sz ≤ s.size ∧
    Hid (lo = (item (s.data.toList.drop k)).1.toNat ∧ hi = (item (s.data.toList.drop k)).2.1.toNat ∧ sz = (item (s.data.toList.drop k)).2.2) := by
  have hl : (s.data.toList.drop k).length = s.size - k := by simp
  have h1 := item_le (s.data.toList.drop k) (by intro e; rw [e] at hl; simp at hl; omega)
  have h2 := UInt8.le_iff_toNat_le.1 (item_ord (s.data.toList.drop k))
  have h3 := (item (s.data.toList.drop k)).2.1.toNat_lt
  exact ⟨_, _, _, Lib.hid ⟨rfl, rfl, rfl⟩, h2, by omega, item_pos _, by omega, Lib.hid ⟨rfl, rfl, rfl⟩⟩
theorem ritem_k (s : ByteArray) (i lo hi sz : Nat) (w : World) (hs : s.size ≤ 65536) (h : i < s.size) (hI : Hid (itL (s.data.toList.drop i) = (lo : Int) ∧ itH (s.data.toList.drop i) = (hi : Int) ∧ itN (s.data.toList.drop i) = (sz : Int))) :
    Calls Tryd.prog 38 #[.string s, .int .i64 i] w fun e w' => e = .returned (.tuple #[.int .u8 lo, .int .u8 hi, .int .i64 ((i : Int) + sz)]) ∧ ∃ n, w' = w.drewN n := by
  refine (ritem_any s i w hs h).mono fun e w' ⟨he, hw⟩ => ⟨?_, hw⟩
  rw [he, hI.out.1, hI.out.2.1, hI.out.2.2]
/-- Some bytes, and those from one to another one. -/
def addR (f : Nat → Bool) (lo m : Nat) (i : Nat) : Bool := f i || (decide (lo ≤ i) && decide (i < m))

theorem addR_start (f : Nat → Bool) (lo : Nat) : addR f lo lo = f := by
  funext i
  unfold addR
  by_cases h : lo ≤ i
  · rw [decide_eq_false (show ¬ i < lo by omega)]; simp
  · rw [decide_eq_false h]; simp
theorem addR_step {w : World} {b : Nat} {f : Nat → Bool} {lo m : Nat} (h : Blk w b 43 (pcells 3 (addR f lo m))) (hm : m < 256) (hl : lo ≤ m) : Blk (w.setCell ⟨b, 1 + m, none⟩ (.bool true)) b 43 (pcells 3 (addR f lo (m + 1))) := by
  have h1 := h.set_ (1 + m) (.bool true)
  rw [pcells_set _ _ _ _ hm] at h1
  have e : (fun j => if j = m then true else addR f lo m j) = addR f lo (m + 1) := by
    funext j
    unfold addR
    by_cases hj : j = m
    · subst hj
      rw [if_pos rfl, decide_eq_true hl, decide_eq_true (Nat.lt_succ_self _)]; simp
    · rw [if_neg hj]
      have : decide (j < m) = decide (j < m + 1) := by rw [decide_eq_decide]; omega
      rw [this]
  rwa [e] at h1
theorem in_next {s : ByteArray} {k0 k lo hi sz m : Nat} {f : Nat → Bool} (h : ∀ c : UInt8, InClass s c k0 (k + (item (s.data.toList.drop k)).2.2) (f c.toNat || within (item (s.data.toList.drop k)) c))
    (h5 : lo = (item (s.data.toList.drop k)).1.toNat ∧ hi = (item (s.data.toList.drop k)).2.1.toNat ∧ sz = (item (s.data.toList.drop k)).2.2) (hm : m = hi + 1) (c : UInt8) : InClass s c k0 (k + sz) (addR f lo m c.toNat) := by
  have h1 := h c
  rw [← h5.2.2] at h1
  have e : within (item (s.data.toList.drop k)) c = (decide (lo ≤ c.toNat) && decide (c.toNat < m)) := by
    unfold within
    rw [hm, h5.1, h5.2.1]
    have e1 : decide ((item (s.data.toList.drop k)).1 ≤ c) = decide ((item (s.data.toList.drop k)).1.toNat ≤ c.toNat) := by rw [decide_eq_decide, UInt8.le_iff_toNat_le]
    rw [e1]
    congr 1
    · rw [decide_eq_decide, UInt8.le_iff_toNat_le, Nat.lt_succ_iff]
  rw [e] at h1
  exact h1
/-- Some bytes, those ahead of a place turned. -/
def flipTo (f : Nat → Bool) (m : Nat) (i : Nat) : Bool := if i < m then !f i else f i
theorem flipTo_start (f : Nat → Bool) : flipTo f 0 = f := by funext i; unfold flipTo; rw [if_neg (by omega)]
theorem flipTo_at (f : Nat → Bool) (m : Nat) : flipTo f m m = f m := by unfold flipTo; rw [if_neg (by omega)]
theorem flipTo_step {w : World} {b : Nat} {f : Nat → Bool} {m : Nat} (h : Blk w b 43 (pcells 3 (flipTo f m))) (hm : m < 256) : Blk (w.setCell ⟨b, 1 + m, none⟩ (.bool (!f m))) b 43 (pcells 3 (flipTo f (m + 1))) := by
  have h1 := h.set_ (1 + m) (.bool (!f m))
  rw [pcells_set _ _ _ _ hm] at h1
  have e : (fun j => if j = m then !f m else flipTo f m j) = flipTo f (m + 1) := by
    funext j
    unfold flipTo
    by_cases hj : j = m
    · subst hj
      rw [if_pos rfl, if_pos (Nat.lt_succ_self _)]
    · rw [if_neg hj]
      by_cases h2 : j < m
      · rw [if_pos h2, if_pos (by omega)]
      · rw [if_neg h2, if_neg (by omega)]
  rwa [e] at h1
/-- A part's bytes, of each number below 256. -/
def hasN (F : UInt8 → Bool) (n : Nat) : Bool := F (UInt8.ofNat n)
theorem hasN_congr {k : Int} {g : Nat → Bool} {F : UInt8 → Bool} (h : ∀ c : UInt8, g c.toNat = F c) : pcells k g = pcells k (hasN F) := by
  apply pcells_congr
  intro i hi
  unfold hasN
  rw [← h (UInt8.ofNat i)]
  congr 1
  simp
  omega
/-- What a class has, behind its items and its turning. -/
theorem cls_same {s : ByteArray} {i k0 k : Nat} {tu : Bool} {f : Nat → Bool} (htu : turned (s.data.toList.drop i) = tu) (hk0 : k0 = i + if tu then 1 else 0)
    (hE : ∀ c : UInt8, f c.toNat = itemsHas (s.data.toList.drop k0) c ∧ k = k0 + itemsLen (s.data.toList.drop k0)) :
    (∀ m, (m = 256 ∧ tu = true ∨ m = 0 ∧ tu = false) → pcells 3 (flipTo f m) = pcells 3 (hasN (clsHas (s.data.toList.drop i)))) ∧ k + 1 = i + clsLen (s.data.toList.drop i) := by
  have hb : body (s.data.toList.drop i) = s.data.toList.drop k0 := by
    unfold body
    rw [htu, hk0]
    cases tu with
    | true => show (s.data.toList.drop i).tail = s.data.toList.drop (i + 1); rw [List.tail_drop]
    | false => rfl
  refine ⟨fun m hm => hasN_congr (fun c => ?_), ?_⟩
  · unfold clsHas
    rw [hb, htu, ← (hE c).1]
    have := c.toNat_lt
    unfold flipTo
    rcases hm with ⟨rfl, rfl⟩ | ⟨rfl, rfl⟩
    · rw [if_pos (by omega)]; cases f c.toNat <;> rfl
    · rw [if_neg (by omega)]; cases f c.toNat <;> rfl
  · unfold clsLen
    rw [hb, htu, (hE 0).2, hk0]
    cases tu <;> simp <;> omega

/-- Behind a class's two variables: the result's, and its own. -/
def ClassStart (w : World) (k : Int) (W : World) : Prop := Blk W w.heap.size 43 (pcells 0 noByte) ∧ Blk W (w.heap.size + 1) 43 (pcells k noByte) ∧ Below w.heap.size w W
theorem class_start (w : World) (k : Int) :
    ClassStart w k (((w.alloc (.cells (pcells 0 noByte) 43)).alloc (.cells (pcells 0 noByte) 43)).setRow (w.heap.size + 1) ((pcells 0 noByte).setIfInBounds 0 (.int .i64 k))) := by
  have h1 : Blk (w.alloc (.cells (pcells 0 noByte) 43)) w.heap.size 43 (pcells 0 noByte) := Blk.new _ _ _
  have h2 : Blk ((w.alloc (.cells (pcells 0 noByte) 43)).alloc (.cells (pcells 0 noByte) 43)) (w.heap.size + 1) 43 (pcells 0 noByte) := heap_alloc2_new _ _ _
  refine ⟨((h1.alloc _).rowFar (by omega) _), ?_, below_row (((Below.refl _ _).alloc (Nat.le_refl _) _).alloc (by simp) _) (by omega) _⟩
  rw [← pcells_set0 k 0 noByte]
  exact h2.row _

def ClassEnd (s : ByteArray) (i : Nat) (w : World) (e : Ending) (w' : World) : Prop :=
  e = .returned (.tuple #[.agg (pcells 3 (hasN (clsHas (s.data.toList.drop i)))), .int .i64 (i + clsLen (s.data.toList.drop i) : Nat)]) ∧ Below w.heap.size w w'
theorem results_class {fn : Func} {tmps : Array Value} {w : World} {g : Nat} {cs : Array Value} {n : Value} (h : fn.results = #[.cell 4 43, .tmp 5]) (hp : tmps.getD 4 undef = .pointer (some ⟨g, 0, none⟩)) (h5 : tmps.getD 5 undef = n)
    (hg : Blk w g 43 cs) (hs : cs.size = 257) : (results fn tmps).run Tryd.prog w = .ok (.tuple #[.agg cs, n]) w := by
  have hp' : tmps[4]?.getD undef = .pointer (some ⟨g, 0, none⟩) := by simpa using hp
  have h5' : tmps[5]?.getD undef = n := by simpa using h5
  simp [results, h, hp', h5', asAddr, run_loadVar_row w g 43 43 cs (0, 0) _ hg Tryd.underlying43 rfl (by rw [size43, hs])]
theorem class_ret {s : ByteArray} {i k m : Nat} {f : Nat → Bool} {w wr : World} {a : Act} (hb0 : Blk wr w.heap.size 43 (pcells 0 noByte)) (hbel : Below w.heap.size w wr)
    (hf : pcells 3 (flipTo f m) = pcells 3 (hasN (clsHas (s.data.toList.drop i)))) (hn : k + 1 = i + clsLen (s.data.toList.drop i))
    (hp : a.tmps.getD 4 undef = .pointer (some ⟨w.heap.size, 0, none⟩)) (h5 : a.tmps.getD 5 undef = .int .i64 ((k : Int) + 1)) (hd : a.defers = []) :
    bodyPost Tryd.prog Tryd.f30 (ClassEnd s i w) .ret a (wr.setRow w.heap.size (pcells 3 (flipTo f m))) := by
  refine bodyPost_ret (results_class (by kernel_rfl) hp h5 (hb0.row _) (pcells_size _ _)) hd ⟨?_, below_row hbel (Nat.le_refl _) _⟩
  rw [hf, ← hn]
  rfl

set_option maxRecDepth 100000 in
set_option maxHeartbeats 1000000 in
theorem rclass_any (s : ByteArray) (i : Nat) (w : World) (hs : s.size ≤ 65536) (hi : i ≤ s.size) :
    Calls Tryd.prog 30 #[.string s, .int .i64 i] w (ClassEnd s i w) := by
  have hb := fun w => built43 3 w built43_3
  have hz := zero43
  go_enter Tryd.func30, Tryd.ntmps30
  go_upto_region 2 with (refine wpList_store_rowTo rfl 43 (.tmp 6) (.tmp 13) rfl rfl (w.heap.size + 1) ((pcells 0 noByte).setIfInBounds 0 (.int .i64 3)) rfl rfl 43 (pcells 0 noByte) (heap_alloc2_new _ _ _) (by rw [size43]; simp [pcells_size]) (by simp [pcells_size]) (by rw [pcells_set0]; exact pcells_one _ _) ?_)
  have hcs := class_start w 3
  generalize ((w.alloc (.cells (pcells 0 noByte) 43)).alloc (.cells (pcells 0 noByte) 43)).setRow (w.heap.size + 1) ((pcells 0 noByte).setIfInBounds 0 (.int .i64 3)) = W at hcs ⊢
  obtain ⟨hb0, hb1, hbel⟩ := hcs
  clear hb hz
  go_cut [7] from 14 to 23 (fun s7 wx => (∃ tu : Bool, Hid (turned (s.data.toList.drop i) = tu) ∧ s7 = .bool tu) ∧ wx = W)
  case first =>
    by_cases hlt : i < s.size
    · have hd := Lib.hid (cons1 s i hlt)
      by_cases h94 : (s[i].toNat : Int) = 94
      · have hx : ((s[i].toNat : Int) == 94) = true := by simpa using h94
        go_wp2_with fail
        go_meet
        case rel => exact ⟨⟨true, Lib.hid (turned_yes hd.out h94), rfl⟩, rfl⟩
      · have hx : ((s[i].toNat : Int) == 94) = false := by simpa using h94
        go_wp2_with fail
        go_meet
        case rel => exact ⟨⟨false, Lib.hid (turned_no hd.out h94), rfl⟩, rfl⟩
    · have hd := Lib.hid (none0 s i (by omega))
      go_wp2_with fail
      go_meet
      case rel => exact ⟨⟨false, Lib.hid (turned_none hd.out), rfl⟩, rfl⟩
  case rest =>
    obtain ⟨⟨tu, htu, rfl⟩, rfl⟩ := hcut
    go_upto_if 24 with (fail)
    go_cut [1] from 25 to 26 (fun s1 wx => (∃ k0 : Nat, k0 ≤ s.size ∧ Hid (k0 = i + if tu then 1 else 0) ∧ s1 = .int .i64 k0) ∧ wx = wc)
    case first =>
      go_wp2_with fail
      · have ht : tu = true := by assumption
        have hl := turned_lt (htu.out.trans ht)
        go_meet
        case rel => exact ⟨⟨i + 1, by omega, Lib.hid (by rw [ht]; rfl), by go_num⟩, rfl⟩
      · have ht : tu = false := by assumption
        go_meet
        case rel => exact ⟨⟨i, by omega, Lib.hid (by rw [ht]; rfl), rfl⟩, rfl⟩
    case rest =>
      obtain ⟨⟨k0, hk0, hk0H, rfl⟩, rfl⟩ := hcut
      go_upto_block 0 with fail
      go_cut [1, 8, 9, 10, 11] from 27 to 55 (fun s1 _ _ _ _ wx => ∃ (k : Nat) (f : Nat → Bool), k ≤ s.size ∧ s1 = .int .i64 k ∧ Blk wx w.heap.size 43 (pcells 0 noByte) ∧ Blk wx (w.heap.size + 1) 43 (pcells 3 f) ∧ Hid (∀ c : UInt8, f c.toNat = itemsHas (s.data.toList.drop k0) c ∧ k = k0 + itemsLen (s.data.toList.drop k0)) ∧ Below w.heap.size w wx)
      case first =>
        go_wp2_with fail
        go_loopw [1, 8, 9, 10, 11] (fun n _ _ _ _ wr => ∃ (k : Nat) (f : Nat → Bool), k ≤ s.size ∧ n = .int .i64 k ∧ Blk wr w.heap.size 43 (pcells 0 noByte) ∧ Blk wr (w.heap.size + 1) 43 (pcells 3 f) ∧ Hid (∀ c : UInt8, InClass s c k0 k (f c.toNat)) ∧ Below w.heap.size w wr) (fun n _ _ _ _ _ => s.size - (intOf n).toNat)
        case atStart => exact ⟨k0, noByte, hk0, rfl, hb0, hb1, Lib.hid (fun c => inClass_start s c k0), hbel⟩
        case round =>
          clear hb0 hb1 hbel
          obtain ⟨k, f, hk, rfl, hb0, hb1, hC, hbel⟩ := hrel
          by_cases hlt : k < s.size
          · by_cases h93 : (s[k].toNat : Int) = 93
            · have hx : ((s[k].toNat : Int) != 93) = false := by simpa using h93
              have hE := Lib.hid (fun c => inClass_end (hC.out c) (Or.inr ⟨_, getElem?_pos s k hlt, h93⟩))
              clear h93
              go_wp2_with fail
              go_meet
              case rel => exact ⟨k, f, hk, rfl, hb0, hb1, hE, hbel⟩
            · have hx : ((s[k].toNat : Int) != 93) = true := by simpa using h93
              obtain ⟨lo, hi', sz, hI, h1, h2, h3, h4, h5⟩ := item_nums s k hlt
              have hN := Lib.hid (fun c => inClass_on (hC.out c) hlt h93 _ rfl)
              clear h93
              go_wp2_with (go_at_call 38; (with_reducible refine (ritem_k s k lo hi' sz _ hs hlt hI).mono ?_); rintro e w' ⟨rfl, n, rfl⟩)
              obtain ⟨wo, rfl⟩ : ∃ wo : World, wo = wr := ⟨_, rfl⟩
              go_loopw [11] (fun c wr => ∃ m : Nat, lo ≤ m ∧ m ≤ hi' + 1 ∧ c = .int .i64 m ∧ Blk wr w.heap.size 43 (pcells 0 noByte) ∧ Blk wr (w.heap.size + 1) 43 (pcells 3 (addR f lo m)) ∧ Below w.heap.size w wr) (fun c _ => 256 - (intOf c).toNat)
              case atStart => exact ⟨lo, by omega, by omega, rfl, hb0.drewN _, by rw [addR_start]; exact hb1.drewN _, below_drewN hbel _⟩
              case round =>
                clear hb0 hb1 hbel
                obtain ⟨m, hm1, hm2, rfl, hb0, hb1, hbel⟩ := hrel
                by_cases hm : m ≤ hi'
                · have hcell := (hb1.cell (1 + m)).trans (pcells_at _ _ m (by omega))
                  have hfro := hb1.frozen (1 + m)
                  go_wp2_with fail
                  go_roundw
                  case rel => exact ⟨m + 1, by omega, by omega, by go_num, hb0.far (Nat.ne_of_lt (Nat.lt_succ_self _)) _, addR_step hb1 (by omega) hm1, hbel.setCell (Nat.le_succ _) _⟩
                  case measure => simp [intOf]; omega
                · have hM := Lib.hid (in_next (f := f) hN.out h5.out (show m = hi' + 1 by omega))
                  go_wp2_with fail
                  go_roundw
                  case rel => exact ⟨k + sz, _, by omega, by go_num, hb0, hb1, hM, hbel⟩
                  case measure => simp [intOf]; omega
          · have hE := Lib.hid (fun c => inClass_end (hC.out c) (Or.inl (by omega)))
            go_wp2_with fail
            go_meet
            case rel => exact ⟨k, f, hk, rfl, hb0, hb1, hE, hbel⟩
      case rest =>
        obtain ⟨k, f, hk, rfl, hb0, hb1, hE, hbel⟩ := hcut
        have hcls := Lib.hid (cls_same htu.out hk0H.out hE.out)
        go_wp2_with fail
        go_loopw [12] (fun c wr => ∃ m : Nat, m ≤ 256 ∧ Hid (tu = false → m = 0) ∧ c = .int .i64 m ∧ Blk wr w.heap.size 43 (pcells 0 noByte) ∧ Blk wr (w.heap.size + 1) 43 (pcells 3 (flipTo f m)) ∧ Below w.heap.size w wr) (fun c _ => 256 - (intOf c).toNat)
        case atStart => exact ⟨0, by omega, Lib.hid (fun _ => rfl), rfl, hb0, by rw [flipTo_start]; exact hb1, hbel⟩
        case round =>
          clear hb0 hb1 hbel
          obtain ⟨m, hm1, hm2, rfl, hb0, hb1, hbel⟩ := hrel
          by_cases hm : m < 256
          · have hcell := (hb1.cell (1 + m)).trans (pcells_at _ _ m hm)
            rw [flipTo_at] at hcell
            have hfro := hb1.frozen (1 + m)
            go_upto_region 16 with (fail)
            · have htt : tu = true := by assumption
              have hT := Lib.hid (show tu = false → m + 1 = 0 from fun h => absurd (h.symm.trans htt) (by decide))
              go_roundw
              case rel => exact ⟨m + 1, by omega, hT, by go_num, hb0.far (Nat.ne_of_lt (Nat.lt_succ_self _)) _, flipTo_step hb1 hm, hbel.setCell (Nat.le_succ _) _⟩
              case measure => simp [intOf]; omega
            · have htf : tu = false := by assumption
              have hcell2 := Lib.hid (hcls.out.1 m (Or.inr ⟨hm2.out htf, htf⟩))
              have hn := Lib.hid hcls.out.2
              clear hcell hfro
              go_wp2_with (first
                | (refine wpList_load_row rfl 43 (.tmp 6) rfl (w.heap.size + 1) rfl 43 (pcells 3 (flipTo f m)) (0, 0) _ hb1 Tryd.underlying43 rfl (by rw [size43, pcells_size]) ?_)
                | (refine wpList_store_rowTo rfl 43 (.tmp 4) (.tmp 71) rfl rfl w.heap.size (pcells 3 (flipTo f m)) rfl rfl 43 (pcells 0 noByte) hb0 (by rw [size43, pcells_size]) (by rw [pcells_size, pcells_size]) (pcells_one _ _) ?_))
              exact class_ret hb0 hbel hcell2.out hn.out rfl rfl rfl
          · go_upto_region 16 with (fail)
            have hcell2 := Lib.hid (hcls.out.1 m (by
              cases htt : tu with
              | true => exact Or.inl ⟨by omega, rfl⟩
              | false => exact absurd (hm2.out htt) (by omega)))
            have hn := Lib.hid hcls.out.2
            go_wp2_with (first
              | (refine wpList_load_row rfl 43 (.tmp 6) rfl (w.heap.size + 1) rfl 43 (pcells 3 (flipTo f m)) (0, 0) _ hb1 Tryd.underlying43 rfl (by rw [size43, pcells_size]) ?_)
              | (refine wpList_store_rowTo rfl 43 (.tmp 4) (.tmp 71) rfl rfl w.heap.size (pcells 3 (flipTo f m)) rfl rfl 43 (pcells 0 noByte) hb0 (by rw [size43, pcells_size]) (by rw [pcells_size, pcells_size]) (pcells_one _ _) ?_))
            exact class_ret hb0 hbel hcell2.out hn.out rfl rfl rfl

end Go.Proofs.YtadihlmpkckakaaDoor
