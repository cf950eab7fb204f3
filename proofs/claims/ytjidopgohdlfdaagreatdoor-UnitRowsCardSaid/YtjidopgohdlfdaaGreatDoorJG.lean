/-
  What every proof of this seat's rows ends with: the last step where no argument lies in memory and what was there is as it was; what the rows' list gives the walks; a start that meets the list. No condition.
-/
import Derived.Test.YtjidopgohdlfdaaGreatDoorJF
import Derived.Test.YtjidopgohdlfdaaGreatDoorCards
import Derived.Test.YtjidopgohdlfdaaGreatDoorTie
import Derived.ProofKit
import Derived.OpenShut
import Derived.Deep.DeepHandedRow
import Derived.Lib.LaidTab
import Derived.Stop.LaidErr
import Derived.LaidMore
import Derived.SliceStrings
import Derived.Carry
import Derived.Laws.IdiomArrays
import Derived.Lay
import Derived.LaidLaws
import Derived.MakeChecks
import Derived.Test.YtjidopgohdlfdaaGreatDoorJD
import Derived.Deep.Slices
import Derived.Deep.RegionHeld3
import Derived.Test.YtjidopgohdlfdaaGreatDoorJA

namespace Go.Proofs.YtjidopgohdlfdaaGreatDoor
open Go.ChangeShapes Go.WideShapes Go.ChangeAt Go.RowKit S4

/-- The last step of a row none of whose arguments lies in memory: new blocks, nothing else. -/
theorem flat_post {H : Type} {enc : TypeId × Value → H} {P : Program} {f : Func} {s : ChangeSpec} {apart fresh handsOn again : Bool} {W W' : World} {args : Array Value} {v : Value} {ds : List (DataW H)}
    (hW : DataW.Whole enc P f.params.toList s.vars apart W args.toList ds [] [])
    (hres : ∀ (b : Nat) (sp : Nat → Bool) (hd : Bool), DataW.TrodAll enc P W' b sp hd f.resultTypes.toList (v.resultList f.resultTypes.size) (s.fn H (ds ++ [])).results [])
    (hargs : ∀ sp : Nat → Bool, DataW.TrodAll enc P W' 0 sp true f.params.toList args.toList (s.fn H (ds ++ [])).args [])
    (hvars : ∀ sp : Nat → Bool, DataW.TrodVars enc P W' sp s.vars (s.fn H (ds ++ [])).vars [])
    (hb : Below W.heap.size W W')
    (hok : ∀ (j : Nat) (t : TypeId) (r : Value), f.resultTypes[j]? = some t → (v.resultList f.resultTypes.size)[j]? = some r → Value.okWide P W' .any 0 t r) :
    s.post enc P f apart fresh handsOn again W args v W' :=
  ⟨ds, [], [], [], [], [], hW, hres _ _ _, hargs _, hvars _, hb.frame _, fun _ =>
    ⟨hok, _, _, [], ⟨[], [], trodAll_append (hargs _) (hres _ _ _), hvars _, rfl, fun _ _ hp => by simp at hp, fun _ => List.nodup_nil⟩, fun _ hp => by simp at hp⟩⟩

theorem laidOut : laidOutB Tryz.prog = true := by kernel_rfl
theorem own : ownKnob Tryz.prog.godebug = none := by kernel_rfl
/-- What the rows list. -/
def listed : List (String × DataW Unit) := Rows.unitPutsRow.laid
/-- A start that meets the list: the listed variables laid by the kit's law, nothing else. -/
noncomputable def start (os : Os) : World := World.laidAll Tryz.prog os listed
theorem laid_met (os : Os) (args : Array Value) : laidMet Tryz.prog listed ((start os).forCall (fun _ _ => 0) ⟨#[], args, []⟩).memory :=
  laidMet_laidAll args (by kernel_rfl) (by kernel_rfl)
theorem gErr : Tryz.prog.globalNamed "strconv.ErrSyntax" = some 7 := by kernel_rfl
theorem gErrType : (Tryz.prog.globals[7]?).map (·.type) = some 78 := by kernel_rfl
theorem cells9 : Tryz.prog.cellsOf 9 = 1 := by kernel_rfl
theorem cells97 : Tryz.prog.cellsOf 194 = 1 := by kernel_rfl
theorem star : "*" ++ "errors.errorString" = "*errors.errorString" := by decide
theorem row95 (u : TypeId) (h : Tryz.prog.typeName? 3 u = some "*errors.errorString") : u = 192 :=
  typeName_ptr_named (nm := "errors.errorString") (by rw [star]; kernel_rfl) (by kernel_rfl) (by decide) u (by rw [star]; exact h)
theorem err_of {W : World} (h : laidMetH Tryz.prog listed W) : ErrAt W := by
  have h1 : laidMet Tryz.prog listed W := by
    rw [← Go.MakeChecks.laidMetH_plain Tryz.prog listed W (by kernel_rfl)]
    exact h
  have h2 := h1.tail.tail.tail.tail.tail.tail
  obtain ⟨a, s, hv, _⟩ := laid_sentinel (n := "strconv.ErrSyntax") h2 gErr gErrType Tryz.underlying78 row95 Tryz.underlying192 Tryz.underlying194 rfl rfl Tryz.underlying9 cells97 cells9
  exact ⟨_, World.var?_cell gErr hv 0, Or.inr ⟨_, _, rfl⟩⟩
theorem gTab : Tryz.prog.globalNamed "internal/strconv.uint64pow10" = some 1 := by kernel_rfl
theorem gTabType : (Tryz.prog.globals[1]?).map (·.type) = some 147 := by kernel_rfl
theorem cells20 : Tryz.prog.cellsOf 147 = 20 := by kernel_rfl
theorem cellsU : Tryz.prog.cellsOf 42 = 1 := by kernel_rfl
theorem tab_of {W : World} (h : laidMetH Tryz.prog listed W) : Tab W := by
  have h1 : laidMet Tryz.prog listed W := by
    rw [← Go.MakeChecks.laidMetH_plain Tryz.prog listed W (by kernel_rfl)]
    exact h
  exact Lib.tabIs_of_head gTab gTabType Tryz.underlying147 Tryz.underlying42 cellsU cells20 h1.tail.tail
theorem gFold : Tryz.prog.globalNamed "mews/crc.folds" = some 0 := by kernel_rfl
theorem gFoldType : (Tryz.prog.globals[0]?).map (·.type) = some 142 := by kernel_rfl
theorem cells16 : Tryz.prog.cellsOf 142 = 16 := by kernel_rfl
theorem cellsU32 : Tryz.prog.cellsOf 44 = 1 := by kernel_rfl
theorem fold_of {W : World} (h : laidMetH Tryz.prog listed W) : C14.Tab W := by
  have h1 : laidMet Tryz.prog listed W := by
    rw [← Go.MakeChecks.laidMetH_plain Tryz.prog listed W (by kernel_rfl)]
    exact h
  have hZ : Lib.TabIs Tryz.prog W "mews/crc.folds" .u32 C14.folds := Lib.tabIs_of_head gFold gFoldType Tryz.underlying142 Tryz.underlying44 cellsU32 cells16 h1.tail.tail.tail
  intro i hi
  rw [← C14.folds_are i hi]
  exact hZ.cell gFold i hi
theorem tbs_of {W : World} (h : laidMetH Tryz.prog listed W) : Tbs W := ⟨tab_of h, err_of h, fold_of h⟩
/-- There is an input that fits, at a start of which it is known that it is laid out as the program's variables are. -/
theorem witness_row_shaped {H : Type} {enc : TypeId × Value → H} {C : Checked} {os : Os} {f : FuncId} {fn : Func} {s : OpenSpec} {conds : List PathCond} {apart : Bool} {laid : List (String × DataW Unit)} (w0 : World) (args : Array Value) (hos : w0.os = os)
    (hsh : (w0.forCall (fun _ _ => 0) ⟨#[], args, []⟩).Shaped C.prog)
    (hok : Input.okWideB C.prog (w0.forCall (fun _ _ => 0) ⟨#[], args, []⟩) f ⟨#[], args, []⟩ = true)
    (hrow : s.preRow enc C.prog fn conds apart laid (w0.forCall (fun _ _ => 0) ⟨#[], args, []⟩).memory args) :
    ∃ (w : World) (tape : Tape) (i : Input), w.os = os ∧ (w.forCall tape i).Shaped C.prog ∧ i.vars = [] ∧ Input.okWide C.prog (w.forCall tape i) .any w.heap.size f i ∧
      s.preRow enc C.prog fn conds apart laid (w.forCall tape i).memory i.args ∧ ({ modest := false } : Assume).holds C.prog (lone (Frame.enter C.prog f i.args .normal) [] (w.forCall tape i)) :=
  ⟨w0, fun _ _ => 0, ⟨#[], args, []⟩, hos, hsh, (Input.okWide_of_okWideB (base := 0) hok).1, (Input.okWide_of_okWideB hok).2, hrow, by
    simp only [Assume.holds]
    exact ⟨by simp, by simp, fun _ => Modest.zero, by simp, by simp⟩⟩

end Go.Proofs.YtjidopgohdlfdaaGreatDoor

/-
  How units and rows of units that are handed over are opened: what is read of them. No condition.
-/
namespace Go.Proofs.YtjidopgohdlfdaaGreatDoor
open Go.RowKit Go.ChangeShapes Go.WideShapes Go.Deep Dec Pq S4 Un

theorem bytesS : Tryz.prog.bytesOf 9 = 16 := by kernel_rfl
theorem bytesR : Tryz.prog.bytesOf 49 = 24 := by kernel_rfl
theorem bytesU' : Tryz.prog.bytesOf 24 = 24 := by kernel_rfl
theorem cellsS' : Tryz.prog.cellsOf 9 = 1 := by kernel_rfl
theorem cellsR : Tryz.prog.cellsOf 49 = 1 := by kernel_rfl
theorem cellsRR : Tryz.prog.cellsOf 22 = 1 := by kernel_rfl
theorem cellsU' : Tryz.prog.cellsOf 24 = 1 := by kernel_rfl
theorem all_weights {H : Type} {P : Program} {e : TypeId} : ∀ {l : List (DataW H)} {d : DataW H}, d ∈ l → ∀ n ∈ d.weights P e, n ∈ DataW.weightsAll P e l
  | [], _, h, _, _ => by cases h
  | x :: r, d, h, n, hn => by
    simp only [DataW.weightsAll, List.mem_append]
    rcases List.mem_cons.1 h with rfl | h
    · exact Or.inl hn
    · exact Or.inr (all_weights h n hn)
theorem list_of {α : Type} {Q : Nat → α → Prop} : ∀ (n : Nat), (∀ i, i < n → ∃ y, Q i y) → ∃ l : List α, l.length = n ∧ ∀ i y, l[i]? = some y → Q i y
  | 0, _ => ⟨[], rfl, fun i y h => by simp at h⟩
  | n + 1, h => by
    obtain ⟨l, hl, hq⟩ := list_of n fun i hi => h i (by omega)
    obtain ⟨y, hy⟩ := h n (by omega)
    refine ⟨l ++ [y], by simp [hl], fun i z hz => ?_⟩
    by_cases hi : i < n
    · rw [List.getElem?_append_left (by omega)] at hz
      exact hq i z hz
    · rw [List.getElem?_append_right (by omega), hl] at hz
      have hin : i = n := by
        rcases Nat.lt_or_ge n i with hlt | hge
        · rw [List.getElem?_eq_none (by simp; omega)] at hz; cases hz
        · omega
      subst hin
      simp at hz
      subst hz
      exact hy
/-- A row whose elements have one cell each. -/
theorem row_of {H α : Type} {enc : TypeId × Value → H} {W : World} {t e : TypeId} {Q : Value → α → Prop} (ht : Tryz.prog.underlying t = some (.slice e)) (hc : Tryz.prog.cellsOf e = 1) (hb : 16 ≤ Tryz.prog.bytesOf e)
    (each : ∀ (fuel : Nat) (V : Value) (y : DataW H × List MemPlace), DataW.trod enc Tryz.prog W 0 (fun _ => true) true fuel e [V] = some y → (∀ n ∈ y.1.weights Tryz.prog e, n ≤ reachBytes) → ∃ z, Q V z)
    {v : Value} {fuel : Nat} {x : DataW H × List MemPlace} (h : DataW.trod enc Tryz.prog W 0 (fun _ => true) true fuel t [v] = some x) (hw : ∀ n ∈ x.1.weights Tryz.prog t, n ≤ reachBytes) :
    ∃ (l : List α) (A : Option Addr) (c : Nat), v = .slice A l.length c ∧ (∀ i z, l[i]? = some z → ∃ a, A = some a ∧ a.block < W.heap.size ∧ ∃ V, W.cell? (a.add i) = some V ∧ Q V z) ∧ l.length ≤ 140737488355328 := by
  rcases open_slice1 ht hc h with ⟨hcs, hx⟩ | ⟨a, len, cap, m, n, V, D, Pl, hcs, _, hl, hm, hs, hx, hcell⟩
  · simp at hcs
    exact ⟨[], none, 0, hcs, fun i z h => by simp at h, by simp⟩
  · simp at hcs
    subst hcs
    simp only [if_true] at hs
    have hx1 : x.1 = .slice ((List.range len).map D) ((List.range (m - len)).map fun j => D (len + j)) := congrArg Prod.fst hx
    rw [hx1] at hw
    have hwl := hw ((((List.range len).map D).length + ((List.range (m - len)).map fun j => D (len + j)).length) * Tryz.prog.bytesOf e) (by simp [DataW.weights, ht])
    have hll : len ≤ 140737488355328 := by
      simp only [List.length_map, List.length_range] at hwl
      unfold reachBytes at hwl
      have h1 : len * 16 ≤ (len + (m - len)) * Tryz.prog.bytesOf e := Nat.mul_le_mul (by omega) hb
      omega
    obtain ⟨l, hlen, hq⟩ := list_of (Q := fun i z => Q (V i) z) len (fun i hi => each _ _ _ (hcell i (by omega)).2 (fun n hn => hw n (by
      simp only [DataW.weights, ht]
      exact List.mem_cons_of_mem _ (List.mem_append_left _ (all_weights (List.mem_map.2 ⟨i, List.mem_range.2 hi, rfl⟩) n hn)))))
    refine ⟨l, some a, cap, by rw [hlen], fun i z hz => ?_, by rw [hlen]; exact hll⟩
    have hil : i < len := by rw [← hlen]; exact (List.getElem?_eq_some_iff.1 hz).1
    have hci := (hcell i (by omega)).1
    have hbl := block_lt_of_cell hci
    rw [block_of_add] at hbl
    exact ⟨a, rfl, hbl, V i, hci, hq i z hz⟩
theorem str_read {H : Type} {enc : TypeId × Value → H} {W : World} (fuel : Nat) (V : Value) (y : DataW H × List MemPlace) (h : DataW.trod enc Tryz.prog W 0 (fun _ => true) true fuel 9 [V] = some y) : ∃ z : ByteArray, V = .string z := by
  obtain ⟨b, b1, _⟩ := DataW.trod_string Tryz.underlying9 h
  exact ⟨b, by simpa using b1⟩
theorem args_read {H : Type} {enc : TypeId × Value → H} {W : World} (fuel : Nat) (V : Value) (y : DataW H × List MemPlace) (h : DataW.trod enc Tryz.prog W 0 (fun _ => true) true fuel 49 [V] = some y) (hw : ∀ n ∈ y.1.weights Tryz.prog 49, n ≤ reachBytes) :
    ∃ ss : List ByteArray, ∃ A c, V = .slice A ss.length c ∧ SOk W Tr A ss ∧ ss.length ≤ 140737488355328 := by
  obtain ⟨l, A, c, h1, h2, h3⟩ := row_of Tryz.underlying49 cellsS' (by rw [bytesS]; decide) (fun fuel V y h _ => str_read fuel V y h) h hw
  refine ⟨l, A, c, h1, fun i x hx => ?_, h3⟩
  obtain ⟨a, k1, k2, V, k3, rfl⟩ := h2 i x hx
  exact ⟨a, k1, trivial, k2, k3⟩
theorem cmds_read {H : Type} {enc : TypeId × Value → H} {W : World} (fuel : Nat) (V : Value) (y : DataW H × List MemPlace) (h : DataW.trod enc Tryz.prog W 0 (fun _ => true) true fuel 22 [V] = some y) (hw : ∀ n ∈ y.1.weights Tryz.prog 22, n ≤ reachBytes) :
    ∃ u : UM, ∃ A c, V = .slice A u.length c ∧ CmdsAt W A u ∧ OkL u := by
  obtain ⟨l, A, c, h1, h2, h3⟩ := row_of Tryz.underlying22 cellsR (by rw [bytesR]; decide) (fun fuel V y h hw => args_read fuel V y h hw) h hw
  refine ⟨l, A, c, h1, fun i ss hi => ?_, h3, fun ss hss => ?_⟩
  · obtain ⟨a, k1, k2, V, k3, Ai, ci, rfl, k4, _⟩ := h2 i ss hi
    exact ⟨a, k1, k2, Ai, ci, k3, k4⟩
  · obtain ⟨i, hi⟩ := List.getElem?_of_mem hss
    obtain ⟨a, _, _, V, _, Ai, ci, _, _, k5⟩ := h2 i ss hi
    exact k5
set_option maxRecDepth 100000 in
theorem unit_open {H : Type} {enc : TypeId × Value → H} {W : World} {fuel : Nat} {cs : List Value} {x : DataW H × List MemPlace} (h : DataW.trod enc Tryz.prog W 0 (fun _ => true) true fuel 24 cs = some x) (hw : ∀ n ∈ x.1.weights Tryz.prog 24, n ≤ reachBytes) :
    ∃ u : UM, ∃ A c, cs = [.slice A u.length c] ∧ CmdsAt W A u ∧ OkL u := by
  obtain ⟨xs, m, hm, hxe, hl, hlen, hf⟩ := DataW.trod_struct Tryz.underlying24 h
  rw [cellsU'] at hl
  match cs, hl with
  | [c0], _ =>
  match xs, hlen with
  | [y0], _ =>
  have g0 : DataW.trod enc Tryz.prog W 0 (fun _ => true) true m 22 [c0] = some y0 := by simpa [cellsRR] using hf 0 _ rfl
  subst hxe
  obtain ⟨u, A, c, k1, k2, k3⟩ := cmds_read m c0 y0 g0 (fun n hn => hw n (by simp [DataW.weights, Tryz.underlying24, DataW.weightsEach, hn]))
  exact ⟨u, A, c, by rw [k1], k2, k3⟩
theorem unit_value {H : Type} {enc : TypeId × Value → H} {W : World} {fuel : Nat} {cs : Array Value} {x : DataW H × List MemPlace} (h : DataW.trod enc Tryz.prog W 0 (fun _ => true) true fuel 24 cs.toList = some x) (hw : ∀ n ∈ x.1.weights Tryz.prog 24, n ≤ reachBytes) :
    ∃ u : UM, ∃ A c, cs = #[.slice A u.length c] ∧ CmdsAt W A u ∧ OkL u := by
  obtain ⟨u, A, c, h1, h2, h3⟩ := unit_open h hw
  exact ⟨u, A, c, by cases cs; simp at h1; rw [h1], h2, h3⟩
theorem units_read {H : Type} {enc : TypeId × Value → H} {W : World} {v : Value} {fuel : Nat} {x : DataW H × List MemPlace} (h : DataW.trod enc Tryz.prog W 0 (fun _ => true) true fuel 37 [v] = some x) (hw : ∀ n ∈ x.1.weights Tryz.prog 37, n ≤ reachBytes) :
    ∃ (l : List UM) (A : Option Addr) (c : Nat), v = .slice A l.length c ∧ UnitsAt W A l ∧ l.length ≤ 140737488355328 ∧ ∀ u ∈ l, OkL u := by
  obtain ⟨l, A, c, h1, h2, h3⟩ := row_of (Q := fun V (u : UM) => ∃ Ai ci, V = .slice Ai u.length ci ∧ CmdsAt W Ai u ∧ OkL u) Tryz.underlying37 cellsU' (by rw [bytesU']; decide) (fun fuel V y h hw => by
    obtain ⟨u, A, c, k1, k2, k3⟩ := unit_open h hw
    exact ⟨u, A, c, by simpa using k1, k2, k3⟩) h hw
  refine ⟨l, A, c, h1, fun i u hi => ?_, h3, fun u hu => ?_⟩
  · obtain ⟨a, k1, k2, V, k3, Ai, ci, rfl, k4, _⟩ := h2 i u hi
    exact ⟨a, k1, k2, Ai, ci, k3, k4⟩
  · obtain ⟨i, hi⟩ := List.getElem?_of_mem hu
    obtain ⟨a, _, _, V, _, Ai, ci, _, _, k5⟩ := h2 i u hi
    exact k5
end Go.Proofs.YtjidopgohdlfdaaGreatDoor

/-
  The law's own alive. The listed variables hold what the program's text lays.
-/
namespace Go.Proofs.YtjidopgohdlfdaaGreatDoor
open Go.RowKit Dec Pq S4 Un

theorem uu_inj {a b : UM} (h : uu a = uu b) : a = b := (List.map_inj_right (fun _ _ hxy => txt_inj hxy)).1 h
theorem may_ok {u : UM} (h : mayB u = true) : OkL u := by
  unfold mayB at h
  rw [Bool.and_eq_true, Bool.and_eq_true, List.all_eq_true] at h
  refine ⟨by have := of_decide_eq_true h.1.2; omega, fun ss hss => ?_⟩
  have := h.2 ss hss
  unfold mayC at this
  rw [Bool.and_eq_true, Bool.and_eq_true] at this
  have := of_decide_eq_true this.1.2
  omega
theorem put_okL {u : UM} {s : List UInt8} (h : putU (uu u) = .inr s) : OkL u := may_ok (by rw [← may_uu]; exact (put_some h).1)
theorem take_okL {s : List UInt8} {u : UM} {n : Nat} (h : takeU s = .inr (uu u, n)) : OkL u := put_okL (take_ok h).1
theorem nil_ok : OkL ([] : UM) := ⟨Nat.zero_le _, fun ss h => by simp at h⟩
theorem nil_at (W : World) (A : Option Addr) : CmdsAt W A [] := fun i ss h => by simp at h
theorem cell_lt0 {W : World} {p : Addr} {v : Value} (h : W.cell? p = some v) : p.block < W.heap.size := C14.cell_lt h
def pingU : UM := [[⟨#[80, 73, 78, 71]⟩]]
theorem ping_put : ∃ s : ByteArray, putU (uu pingU) = .inr s.data.toList ∧ s.size = 23 := ⟨⟨(bytesU (uu pingU)).toArray⟩, by decide +kernel, by decide +kernel⟩
theorem x_take : takeU [120] = .inl 5 := by decide +kernel
theorem ping_all {s : ByteArray} (h : putU (uu pingU) = .inr s.data.toList) (hs : s.size = 23) : allU (s ++ s ++ ⟨#[120]⟩).data.toList = ([uu pingU, uu pingU], 46) := by
  have h2 := all_puts [uu pingU, uu pingU] [s.data.toList, s.data.toList] (by simp [h]) [120]
  rw [all_none x_take] at h2
  have e : (s ++ s ++ ⟨#[120]⟩ : ByteArray).data.toList = [s.data.toList, s.data.toList].flatten ++ [120] := by simp
  rw [e, h2]
  have hl := size_len s
  rw [hs] at hl
  simp only [List.append_nil, Nat.add_zero, List.flatten_cons, List.flatten_nil, List.length_append, hl]
theorem ping_take {s : ByteArray} (h : putU (uu pingU) = .inr s.data.toList) (hs : s.size = 23) : takeU (s ++ ⟨#[120]⟩).data.toList = .inr (uu pingU, 23) := by
  have h2 := take_put h [120]
  rw [append_data]
  rw [h2, size_len, hs]
theorem ping_at (w : World) : CmdsAt (((w.alloc (.cells #[.string ⟨#[80, 73, 78, 71]⟩] 9)).alloc (.cells #[.slice (some ⟨w.heap.size, 0, none⟩) 1 1] 49)).alloc (.cells #[.slice (some ⟨w.heap.size + 1, 0, none⟩) 1 1] 24)) (some ⟨w.heap.size + 1, 0, none⟩) pingU := fun i ss hi => by
  match i, hi with
  | 0, hi =>
    obtain rfl : [⟨#[80, 73, 78, 71]⟩] = ss := by simpa [pingU] using hi
    have h1 : (((w.alloc (.cells #[.string ⟨#[80, 73, 78, 71]⟩] 9)).alloc (.cells #[.slice (some ⟨w.heap.size, 0, none⟩) 1 1] 49)).alloc (.cells #[.slice (some ⟨w.heap.size + 1, 0, none⟩) 1 1] 24)).heap[w.heap.size + 1]? = some (.cells #[.slice (some ⟨w.heap.size, 0, none⟩) 1 1] 49) := by
      rw [Below.heap_alloc _ _ _ (by simp), show w.heap.size + 1 = (w.alloc (.cells #[.string ⟨#[80, 73, 78, 71]⟩] 9)).heap.size by simp]
      exact heap_alloc_new _ _
    have h2 : (((w.alloc (.cells #[.string ⟨#[80, 73, 78, 71]⟩] 9)).alloc (.cells #[.slice (some ⟨w.heap.size, 0, none⟩) 1 1] 49)).alloc (.cells #[.slice (some ⟨w.heap.size + 1, 0, none⟩) 1 1] 24)).heap[w.heap.size]? = some (.cells #[.string ⟨#[80, 73, 78, 71]⟩] 9) := by
      rw [Below.heap_alloc _ _ _ (by simp; omega), Below.heap_alloc _ _ _ (by simp)]
      exact heap_alloc_new _ _
    refine ⟨_, rfl, by simp, some ⟨w.heap.size, 0, none⟩, 1, Lib.cell_of_heap h1 0, fun j x hj => ?_⟩
    match j, hj with
    | 0, hj =>
      obtain rfl : ⟨#[80, 73, 78, 71]⟩ = x := by simpa using hj
      exact ⟨_, rfl, trivial, by simp; omega, Lib.cell_of_heap h2 0⟩
theorem ping_ok : OkL pingU := ⟨by decide, fun ss h => by simp [pingU] at h; subst h; decide⟩
/-- A Take that is known, as its contract tells it: the unit m. -/
theorem take_known {s : ByteArray} {w : World} {m : UM} {n : Nat} (hs : s.size ≤ 1000000000) (hT : Tbs w) (h : takeU s.data.toList = .inr (uu m, n)) :
    Calls Tryz.prog 14 #[.string s] w fun e w' => (∃ A c, CmdsAt w' A m ∧ e = .returned (.tuple #[.agg #[.slice A m.length c], .int .i64 (n : Nat), .int .i64 0])) ∧ Below w.heap.size w w' := by
  refine (take_any s w hs hT).mono ?_
  rintro e w' ⟨he, hb⟩
  rw [h] at he
  obtain ⟨m', A, c, hm, hC, rfl⟩ := he
  obtain rfl := uu_inj hm
  exact ⟨⟨A, c, hC.plain, rfl⟩, hb⟩
set_option maxHeartbeats 4000000 in
theorem alive_any (w : World) (hT : Tbs w) : Calls Tryz.prog 9 #[] w fun e w' => e = .returned (.bool true) ∧ Below w.heap.size w w' := by
  have hC := ping_at w
  obtain ⟨s, hp, hs⟩ := ping_put
  have hpt := ping_take hp hs
  have hpa := ping_all hp hs
  have hb1 : Below w.heap.size w (((w.alloc (.cells #[.string ⟨#[80, 73, 78, 71]⟩] 9)).alloc (.cells #[.slice (some ⟨w.heap.size, 0, none⟩) 1 1] 49)).alloc (.cells #[.slice (some ⟨w.heap.size + 1, 0, none⟩) 1 1] 24)) := (((Below.refl _ _).alloc (Nat.le_refl _) _).alloc (by simp) _).alloc (by simp; omega) _
  have c1 : (((w.alloc (.cells #[.string ⟨#[80, 73, 78, 71]⟩] 9)).alloc (.cells #[.slice (some ⟨w.heap.size, 0, none⟩) 1 1] 49)).alloc (.cells #[.slice (some ⟨w.heap.size + 1, 0, none⟩) 1 1] 24)).cell? ⟨w.heap.size + 1 + 1, 0, none⟩ = some (.slice (some ⟨w.heap.size + 1, 0, none⟩) 1 1) := by
    have e : w.heap.size + 1 + 1 = ((w.alloc (.cells #[.string ⟨#[80, 73, 78, 71]⟩] 9)).alloc (.cells #[.slice (some ⟨w.heap.size, 0, none⟩) 1 1] 49)).heap.size := by simp
    rw [e]
    exact Lib.cell_of_heap (heap_alloc_new _ _) 0
  have hTH := Lib.hid (hT.on hb1)
  clear hT
  go_enter Tryz.func9, Tryz.ntmps9
  go_upto_region 2 with fail
  generalize (((w.alloc (.cells #[.string ⟨#[80, 73, 78, 71]⟩] 9)).alloc (.cells #[.slice (some ⟨w.heap.size, 0, none⟩) 1 1] 49)).alloc (.cells #[.slice (some ⟨w.heap.size + 1, 0, none⟩) 1 1] 24)) = W1 at hC hb1 c1 hTH ⊢
  generalize w.heap.size + 1 + 1 = g1 at c1 ⊢
  generalize (some ⟨w.heap.size + 1, 0, none⟩ : Option Addr) = A1 at hC c1 ⊢
  have hCH := Lib.hid hC
  have hPut : Hid (Calls Tryz.prog 10 #[.agg #[.slice A1 1 1]] W1 fun e w' => e = .returned (.tuple #[.string s, .int .i64 0]) ∧ Below W1.heap.size W1 w') := Lib.hid ((unit_put_any (c := 1) hC ping_ok hTH.out).mono (by
    rintro e w' ⟨he, hb⟩
    rw [hp] at he
    exact ⟨he, hb⟩))
  have hTk : Hid (∀ W, Below W1.heap.size W1 W → Calls Tryz.prog 14 #[.string (s ++ ⟨#[120]⟩)] W fun e w' => (∃ A c, CmdsAt w' A pingU ∧ e = .returned (.tuple #[.agg #[.slice A 1 c], .int .i64 23, .int .i64 0])) ∧ Below W.heap.size W w') := Lib.hid (fun W hW => take_known (by rw [ByteArray.size_append, hs]; decide) (hTH.out.on hW) hpt)
  have hAl : Hid (∀ W, Below W1.heap.size W1 W → Calls Tryz.prog 16 #[.string (s ++ s ++ ⟨#[120]⟩)] W fun e w' => (∃ A c, e = .returned (.tuple #[.slice A 2 c, .int .i64 46])) ∧ Below W.heap.size W w') := Lib.hid (fun W hW => (all_any _ W (by rw [ByteArray.size_append, ByteArray.size_append, hs]; decide) (hTH.out.on hW)).mono (by
    rintro e w' ⟨he, hb⟩
    rw [hpa] at he
    obtain ⟨l, A, c, hl, _, _, rfl⟩ := he
    obtain rfl : l = [pingU, pingU] := (List.map_inj_right (fun _ _ hxy => uu_inj hxy)).1 hl
    exact ⟨⟨A, c, rfl⟩, hb⟩))
  clear hC hp hpt hpa
  have hb1H := Lib.hid hb1
  have hg1 := cell_lt0 c1
  have hz1 : s.size + 1 ≤ 9223372036854775807 := by omega
  have hz2 : s.size + s.size ≤ 9223372036854775807 := by omega
  go_upto_region 3 with (go_at_call 10; (with_reducible refine (hPut.out).mono ?_); rintro e w2 ⟨rfl, hb2⟩)
  have hb2H := Lib.hid hb2
  clear hPut hb1
  go_upto_region 4 with (go_at_call 14; (with_reducible refine (hTk.out _ hb2H.out).mono ?_); rintro e w3 ⟨⟨A4, c4, hC4, rfl⟩, hb3⟩)
  have hb4 : Below W1.heap.size W1 (w3.alloc (.cells #[.slice A4 1 c4] 24)) := hb2H.out.trans ((hb3.alloc hb3.size _).mono hb2H.out.size)
  have hC4' := hC4.on (W' := w3.alloc (.cells #[.slice A4 1 c4] 24)) one_box
  have d4 : (w3.alloc (.cells #[.slice A4 1 c4] 24)).cell? ⟨w3.heap.size, 0, none⟩ = some (.slice A4 1 c4) := Lib.cell_of_heap (heap_alloc_new w3 _) 0
  generalize (w3.alloc (.cells #[.slice A4 1 c4] 24)) = W4 at hb4 hC4' d4 ⊢
  generalize w3.heap.size = g4 at d4 ⊢
  have hb4H := Lib.hid hb4
  have hC4H := Lib.hid hC4'
  have d4H := Lib.hid d4
  have c1H := Lib.hid c1
  clear hb4 hC4 hC4' hb3 hb2 hTk d4 c1
  go_upto_region 5 with (go_at_call 16; (with_reducible refine (hAl.out _ hb4H.out).mono ?_); rintro e w5 ⟨⟨A8, c8, rfl⟩, hb5⟩)
  have hb5H := Lib.hid (hb4H.out.trans (hb5.mono hb4H.out.size))
  have e1 := (hb5H.out.cell hg1).trans c1H.out
  have e4 := (hb5.cell (cell_lt0 d4H.out)).trans d4H.out
  have hSm : Hid (Calls Tryz.prog 12 #[.agg #[.slice A1 1 1], .agg #[.slice A4 1 c4]] w5 fun e w' => e = .returned (.bool true) ∧ Below w5.heap.size w5 w') := Lib.hid (by
    have h1 := same_any (c := 1) (c' := c4) (hCH.out.on hb5H.out) (hC4H.out.on hb5) ping_ok ping_ok
    rwa [decide_eq_true rfl] at h1)
  have hse : ((s.size : Int) == 23) = true := by rw [hs]; rfl
  have hse2 : (s.size == 23) = true := by rw [hs]; rfl
  clear hz1 hz2 hs hAl hg1 hb5
  go_wp2_with (go_at_call 12; (with_reducible refine (hSm.out).mono ?_); rintro e w6 ⟨rfl, hb6⟩)
  go_ret
  exact ⟨rfl, hb1H.out.trans ((hb5H.out.trans (hb6.mono hb5H.out.size)).mono hb1H.out.size)⟩
end Go.Proofs.YtjidopgohdlfdaaGreatDoor

/-
  The law Puts: any unit's bytes, and whether two are the same. The listed variables hold what the program's text lays; the units' lengths are Go's own.
-/
namespace Go.Proofs.YtjidopgohdlfdaaGreatDoor
open Go.RowKit Dec Pq S4 Un

/-- What a Put answers, text and number. -/
def putS (R : Sum Int (List UInt8)) : ByteArray := match R with
  | .inl _ => ⟨#[]⟩
  | .inr l => ⟨l.toArray⟩
def putE (R : Sum Int (List UInt8)) : Int := match R with
  | .inl k => k
  | .inr _ => 0
theorem put_end {R : Sum Int (List UInt8)} {e : Ending} (h : PutEnd R e) : e = .returned (.tuple #[.string (putS R), .int .i64 (putE R)]) := by
  cases R with
  | inl k => exact h
  | inr l => exact h
theorem two_units {W : World} {Aa Ab : Option Addr} {ca cb : Nat} {a b : UM} (ha : CmdsAt W Aa a) (hb : CmdsAt W Ab b) : UnitsAt (W.alloc (.cells #[.slice Aa a.length ca, .slice Ab b.length cb] 24)) (some ⟨W.heap.size, 0, none⟩) [a, b] := fun i u hi => by
  match i, hi with
  | 0, hi =>
    obtain rfl : a = u := by simpa using hi
    exact ⟨_, rfl, by simp, Aa, ca, Lib.cell_of_heap (heap_alloc_new W _) 0, ha.on one_box⟩
  | 1, hi =>
    obtain rfl : b = u := by simpa using hi
    exact ⟨_, rfl, by simp, Ab, cb, Lib.cell_of_heap (heap_alloc_new W _) 1, hb.on one_box⟩
set_option maxHeartbeats 8000000 in
theorem puts_any (w : World) (Aa Ab : Option Addr) (ca cb : Nat) (a b : UM) (ha : CmdsAt w Aa a) (hb : CmdsAt w Ab b) (oa : OkL a) (ob : OkL b) (hT : Tbs w) :
    Calls Tryz.prog 3 #[.agg #[.slice Aa a.length ca], .agg #[.slice Ab b.length cb]] w fun e w' => e = .returned (.bool true) ∧ Below w.heap.size w w' := by
  have hb0 : Below w.heap.size w ((w.alloc (.cells #[.slice Aa a.length ca] 24)).alloc (.cells #[.slice Ab b.length cb] 24)) := two_box
  have x0 : ((w.alloc (.cells #[.slice Aa a.length ca] 24)).alloc (.cells #[.slice Ab b.length cb] 24)).cell? ⟨w.heap.size, 0, none⟩ = some (.slice Aa a.length ca) := by
    rw [World.cell?_of_block (w := w.alloc (.cells #[.slice Aa a.length ca] 24)) (Below.heap_alloc _ _ _ (by simp))]
    exact Lib.cell_of_heap (heap_alloc_new w _) 0
  have y0 : ((w.alloc (.cells #[.slice Aa a.length ca] 24)).alloc (.cells #[.slice Ab b.length cb] 24)).cell? ⟨w.heap.size + 1, 0, none⟩ = some (.slice Ab b.length cb) := by
    have e : w.heap.size + 1 = (w.alloc (.cells #[.slice Aa a.length ca] 24)).heap.size := by simp
    rw [e]
    exact Lib.cell_of_heap (heap_alloc_new _ _) 0
  have ha0 := ha.on hb0
  have hbb0 := hb.on hb0
  have hT0 := hT.on hb0
  clear ha hb hT
  go_enter Tryz.func3, Tryz.ntmps3
  go_upto_region 1 with fail
  generalize ((w.alloc (.cells #[.slice Aa a.length ca] 24)).alloc (.cells #[.slice Ab b.length cb] 24)) = W0 at hb0 x0 y0 ha0 hbb0 hT0 ⊢
  generalize w.heap.size + 1 = gb at y0 ⊢
  obtain ⟨ga, hga⟩ : ∃ ga, ga = w.heap.size := ⟨_, rfl⟩
  rw [← hga] at x0 ⊢
  have hga' := Lib.hid hga
  have hFar := Lib.hid (far15_any (c := 2) (two_units (ca := ca) (cb := cb) ha0 hbb0) (by simp) (fun u hu => by
    rcases List.mem_cons.1 hu with rfl | hu
    · exact oa
    · obtain rfl := List.mem_singleton.1 hu
      exact ob))
  have hb0H := Lib.hid hb0
  have x0H := Lib.hid x0
  have y0H := Lib.hid y0
  have haH := Lib.hid ha0
  have hbH := Lib.hid hbb0
  have hTH := Lib.hid hT0
  have oaH := Lib.hid oa
  have obH := Lib.hid ob
  clear hga hb0 ha0 hbb0 hT0 oa ob
  go_wp2_with fail
  refine (hFar.out).mono ?_
  rintro e w1 ⟨⟨f, rfl, _⟩, hb1⟩
  have hb1H : Hid (Below W0.heap.size W0 w1) := Lib.hid (one_box.trans (hb1.mono (by simp)))
  clear hb1 hFar
  cases f with
  | true =>
    go_wp2_with (go_at_call 9; (with_reducible refine (alive_any _ (hTH.out.on hb1H.out)).mono ?_); rintro e w2 ⟨rfl, hb2⟩)
    go_ret
    exact ⟨rfl, hb0H.out.trans ((hb1H.out.trans (hb2.mono hb1H.out.size)).mono hb0H.out.size)⟩
  | false =>
    have x1 := (hb1H.out.cell (C14.cell_lt x0)).trans x0
    have y1 := (hb1H.out.cell (C14.cell_lt y0)).trans y0
    have hPa : Hid (∀ X, Below w1.heap.size w1 X → Calls Tryz.prog 10 #[.agg #[.slice Aa a.length ca]] X fun e w' => e = .returned (.tuple #[.string (putS (putU (uu a))), .int .i64 (putE (putU (uu a)))]) ∧ Below X.heap.size X w') := Lib.hid (fun X hX => by
      have h1 := hb1H.out.trans (hX.mono hb1H.out.size)
      exact (unit_put_any (haH.out.on h1) oaH.out (hTH.out.on h1)).mono (fun e w' h => ⟨put_end h.1, h.2⟩))
    have hPr : Hid (∀ X, Below w1.heap.size w1 X → Calls Tryz.prog 11 #[.agg #[.slice Aa a.length ca]] X fun e w' => e = .returned (.tuple #[.string (putS (putU (uu a))), .int .i64 (putE (putU (uu a)))]) ∧ Below X.heap.size X w') := Lib.hid (fun X hX => by
      have h1 := hb1H.out.trans (hX.mono hb1H.out.size)
      exact (rput15_any (haH.out.on h1) oaH.out.1 oaH.out.2).mono (fun e w' h => ⟨put_end h.1, h.2⟩))
    generalize putS (putU (uu a)) = S at hPa hPr
    generalize putE (putU (uu a)) = E at hPa hPr
    clear x0 y0
    go_upto_region 4 with (go_at_call 10; (with_reducible refine (hPa.out _ (Below.refl _ _)).mono ?_); rintro e w2 ⟨rfl, hb2⟩)
    have x2 := (hb2.cell (C14.cell_lt x1)).trans x1
    have y2 := (hb2.cell (C14.cell_lt y1)).trans y1
    have hb2H := Lib.hid hb2
    clear x1 y1 hPa hb2
    go_upto_region 5 with (go_at_call 11; (with_reducible refine (hPr.out _ hb2H.out).mono ?_); rintro e w3 ⟨rfl, hb3⟩)
    have x3 := (hb3.cell (C14.cell_lt x2)).trans x2
    have y3 := (hb3.cell (C14.cell_lt y2)).trans y2
    have hb3H : Hid (Below W0.heap.size W0 w3) := Lib.hid (hb1H.out.trans ((hb2H.out.trans (hb3.mono hb2H.out.size)).mono hb1H.out.size))
    clear x2 y2 hPr hb3 hb2H hb1H
    obtain ⟨T, hTd⟩ : ∃ T, T = decide (a = b) := ⟨_, rfl⟩
    have hS1 : Hid (∀ X, Hid (Below w3.heap.size w3 X) → Calls Tryz.prog 12 #[.agg #[.slice Aa a.length ca], .agg #[.slice Ab b.length cb]] X fun e w' => e = .returned (.bool T) ∧ Below X.heap.size X w') := Lib.hid (fun X hX => by
      have h1 := hb3H.out.trans (hX.out.mono hb3H.out.size)
      rw [hTd]
      exact same_any (haH.out.on h1) (hbH.out.on h1) oaH.out obH.out)
    have hS2 : Hid (∀ X, Hid (Below w3.heap.size w3 X) → Calls Tryz.prog 13 #[.agg #[.slice Aa a.length ca], .agg #[.slice Ab b.length cb]] X fun e w' => e = .returned (.bool T) ∧ Below X.heap.size X w') := Lib.hid (fun X hX => by
      have h1 := hb3H.out.trans (hX.out.mono hb3H.out.size)
      rw [hTd]
      exact rsame15_any (haH.out.on h1) (hbH.out.on h1) oaH.out.1 obH.out.1 oaH.out.2 obH.out.2)
    have hS3 : Hid (∀ X, Hid (Below w3.heap.size w3 X) → Calls Tryz.prog 12 #[.agg #[.slice Aa a.length ca], .agg #[.slice Aa a.length ca]] X fun e w' => e = .returned (.bool true) ∧ Below X.heap.size X w') := Lib.hid (fun X hX => by
      have h1 := hb3H.out.trans (hX.out.mono hb3H.out.size)
      have h2 := same_any (c := ca) (c' := ca) (haH.out.on h1) (haH.out.on h1) oaH.out oaH.out
      rwa [decide_eq_true rfl] at h2)
    have hAv : Hid (∀ X, Hid (Below w3.heap.size w3 X) → Calls Tryz.prog 9 #[] X fun e w' => e = .returned (.bool true) ∧ Below X.heap.size X w') := Lib.hid (fun X hX => alive_any X (hTH.out.on (hb3H.out.trans (hX.out.mono hb3H.out.size))))
    have h0 : Hid (Below w3.heap.size w3 w3.drew) := Lib.hid (Below.refl _ _).drew
    have hcs : Hid (∀ X, Hid (Below w3.heap.size w3 X) → X.cell? ⟨ga, 0, none⟩ = some (.slice Aa a.length ca) ∧ X.cell? ⟨gb, 0, none⟩ = some (.slice Ab b.length cb) ∧ Hid (Below w3.heap.size w3 X)) := Lib.hid (fun X hX => ⟨(hX.out.cell (C14.cell_lt x3)).trans x3, (hX.out.cell (C14.cell_lt y3)).trans y3, hX⟩)
    have hJ : Hid (∀ a b, Hid (Below w3.heap.size w3 a) → Below a.heap.size a b → Hid (Below w3.heap.size w3 b)) := Lib.hid (fun a b x y => Lib.hid (x.out.trans (y.mono x.out.size)))
    have hse : (S.toList == S.toList) = true := by simp
    have hee : (E == E) = true := by simp
    have htt : (T == T) = true := by simp
    clear hTd
    go_region_held3 (fun w' => w'.cell? ⟨ga, 0, none⟩ = some (.slice Aa a.length ca) ∧ w'.cell? ⟨gb, 0, none⟩ = some (.slice Ab b.length cb) ∧ Hid (Below w3.heap.size w3 w'))
      (first | exact hcs.out _ h0 | exact hcs.out _ (hJ.out _ _ (And.right (And.right (by assumption))) (by assumption)))
      (first
      | (go_at_call 12; (with_reducible refine (hS1.out _ (And.right (And.right (by assumption)))).mono ?_); rintro e w4 ⟨rfl, hb4⟩)
      | (go_at_call 13; (with_reducible refine (hS2.out _ (And.right (And.right (by assumption)))).mono ?_); rintro e w5 ⟨rfl, hb5⟩)
      | (go_at_call 12; (with_reducible refine (hS3.out _ (And.right (And.right (by assumption)))).mono ?_); rintro e w6 ⟨rfl, hb6⟩)
      | (go_at_call 9; (with_reducible refine (hAv.out _ (And.right (And.right (by assumption)))).mono ?_); rintro e w7 ⟨rfl, hb7⟩))
    have hfin : Hid (Below w3.heap.size w3 w7) := And.right (And.right (by assumption))
    go_wp2_with fail
    go_ret
    exact ⟨rfl, hb0H.out.trans ((hb3H.out.trans (hfin.out.mono hb3H.out.size)).mono hb0H.out.size)⟩
end Go.Proofs.YtjidopgohdlfdaaGreatDoor

/-
  The law Takes: the unit with which any bytes begin, and all of them. The listed variables hold what the program's text lays.
-/
namespace Go.Proofs.YtjidopgohdlfdaaGreatDoor
open Go.RowKit Dec Pq S4 Un

/-- What a Take answers: the unit's commands, how many bytes, which fault. -/
def unT (R : Sum Int (U × Nat)) : U := match R with
  | .inl _ => []
  | .inr p => p.1
def nT (R : Sum Int (U × Nat)) : Int := match R with
  | .inl _ => 0
  | .inr p => (p.2 : Nat)
def kT (R : Sum Int (U × Nat)) : Int := match R with
  | .inl k => k
  | .inr _ => 0
theorem take_end {s : List UInt8} {b : Nat} {e : Ending} {w' : World} (h : TakeEnd b (takeU s) e w') : ∃ (m : UM) (A : Option Addr) (c : Nat), uu m = unT (takeU s) ∧ CmdsAt w' A m ∧ OkL m ∧ e = .returned (.tuple #[.agg #[.slice A m.length c], .int .i64 (nT (takeU s)), .int .i64 (kT (takeU s))]) := by
  cases ht : takeU s with
  | inl k =>
    rw [ht] at h
    exact ⟨[], none, 0, rfl, nil_at _ _, nil_ok, h⟩
  | inr p =>
    obtain ⟨u, n⟩ := p
    rw [ht] at h
    obtain ⟨m, A, c, rfl, hC, rfl⟩ := h
    exact ⟨m, A, c, rfl, hC.plain, take_okL ht, rfl⟩
theorem all_okL {s : List UInt8} {l : List UM} (h : l.map uu = (allU s).1) : ∀ u ∈ l, OkL u := fun u hu => by
  obtain ⟨_, ss, h1, _⟩ := all_ok (s.length + 1) s (Nat.lt_succ_self _)
  rw [← h, List.map_map] at h1
  have hm : putU (uu u) ∈ ss.map Sum.inr := by
    rw [← h1]
    exact List.mem_map.2 ⟨u, hu, rfl⟩
  obtain ⟨t, _, ht⟩ := List.mem_map.1 hm
  exact put_okL ht.symm
theorem all_len {s : ByteArray} {l : List UM} (h : l.map uu = (allU s.data.toList).1) : 9 * l.length ≤ s.size := by
  have key : ∀ (n : Nat) (t : List UInt8), t.length < n → 9 * (allU t).1.length ≤ t.length := fun n => by
    induction n with
    | zero => intro t h; omega
    | succ n ih =>
      intro t hn
      cases ht : takeU t with
      | inl e => rw [all_none ht]; simp
      | inr p =>
        obtain ⟨u, m⟩ := p
        obtain ⟨_, h9, hm⟩ := take_ok ht
        have h2 := ih (t.drop m) (by rw [List.length_drop]; omega)
        rw [List.length_drop] at h2
        rw [all_some ht]
        simp only [List.length_cons]
        omega
  have h2 := key _ s.data.toList (Nat.lt_succ_self _)
  rw [← h, List.length_map, size_len] at h2
  exact h2
set_option maxHeartbeats 8000000 in
theorem takes_any (w : World) (s : ByteArray) (_hs : s.size ≤ maxLen) (hT : Tbs w) :
    Calls Tryz.prog 4 #[.string s] w fun e w' => e = .returned (.bool true) ∧ Below w.heap.size w w' := by
  have hTH := Lib.hid hT
  clear hT
  by_cases hbig : 5000 < s.size
  · have d1 : decide ((5000 : Int) < (s.size : Int)) = true := decide_eq_true (by omega)
    have d2 : decide (5000 < s.size) = true := decide_eq_true hbig
    clear hbig
    go_enter Tryz.func4, Tryz.ntmps4
    go_wp2_with (go_at_call 9; (with_reducible refine (alive_any _ hTH.out).mono ?_); rintro e w2 ⟨rfl, hb2⟩)
    go_ret
    exact ⟨rfl, hb2⟩
  · have d1 : decide ((5000 : Int) < (s.size : Int)) = false := decide_eq_false (by omega)
    have d2 : decide (5000 < s.size) = false := decide_eq_false hbig
    have hs9 : Hid (s.size ≤ 5000) := Lib.hid (by omega)
    have hP : Hid (∀ X, Tbs X → Calls Tryz.prog 14 #[.string s] X fun e w' => (∃ (m : UM) (A : Option Addr) (c : Nat), uu m = unT (takeU s.data.toList) ∧ CmdsAt w' A m ∧ OkL m ∧ e = .returned (.tuple #[.agg #[.slice A m.length c], .int .i64 (nT (takeU s.data.toList)), .int .i64 (kT (takeU s.data.toList))])) ∧ Below X.heap.size X w') := Lib.hid (fun X hX => (take_any s X (by omega) hX).mono (fun e w' h => ⟨take_end h.1, h.2⟩))
    have hR : Hid (∀ X, Calls Tryz.prog 15 #[.string s] X fun e w' => (∃ (m : UM) (A : Option Addr) (c : Nat), uu m = unT (takeU s.data.toList) ∧ CmdsAt w' A m ∧ OkL m ∧ e = .returned (.tuple #[.agg #[.slice A m.length c], .int .i64 (nT (takeU s.data.toList)), .int .i64 (kT (takeU s.data.toList))])) ∧ Below X.heap.size X w') := Lib.hid (fun X => (rtake15_any s X (by omega)).mono (fun e w' h => ⟨take_end h.1, h.2⟩))
    have hPA : Hid (∀ X, Tbs X → Calls Tryz.prog 16 #[.string s] X fun e w' => AllUEnd (allU s.data.toList) e w' ∧ Below X.heap.size X w') := Lib.hid (fun X hX => all_any s X (by omega) hX)
    have hRA : Hid (∀ X, Calls Tryz.prog 17 #[.string s] X fun e w' => AllUEnd (allU s.data.toList) e w' ∧ Below X.heap.size X w') := Lib.hid (fun X => rall15_any s X (by omega))
    generalize unT (takeU s.data.toList) = un at hP hR
    generalize nT (takeU s.data.toList) = n at hP hR
    generalize kT (takeU s.data.toList) = k at hP hR
    clear hbig
    go_enter Tryz.func4, Tryz.ntmps4
    go_upto_region 4 with (go_at_call 14; (with_reducible refine (hP.out _ hTH.out).mono ?_); rintro e w1 ⟨⟨m1, A1, c1, hm1, hC1, ok1, rfl⟩, hb1⟩)
    have x2 : (w1.alloc (.cells #[.slice A1 m1.length c1] 24)).cell? ⟨w1.heap.size, 0, none⟩ = some (.slice A1 m1.length c1) := Lib.cell_of_heap (heap_alloc_new w1 _) 0
    have hC2 := hC1.on (W' := w1.alloc (.cells #[.slice A1 m1.length c1] 24)) one_box
    have hb2 : Below w.heap.size w (w1.alloc (.cells #[.slice A1 m1.length c1] 24)) := hb1.alloc hb1.size _
    generalize (w1.alloc (.cells #[.slice A1 m1.length c1] 24)) = W2 at x2 hC2 hb2 ⊢
    generalize w1.heap.size = g1 at x2 ⊢
    have hm1H := Lib.hid hm1
    have ok1H := Lib.hid ok1
    have hb2H := Lib.hid hb2
    have hC2H := Lib.hid hC2
    clear hC1 hb1 hP d1 d2 hm1 ok1 hb2 hC2
    go_upto_region 5 with (go_at_call 15; (with_reducible refine (hR.out _).mono ?_); rintro e w3 ⟨⟨m2, A2, c2, hm2, hC3, ok2, rfl⟩, hb3⟩)
    obtain rfl : m2 = m1 := uu_inj (hm2.trans hm1H.out.symm)
    have y4 : (w3.alloc (.cells #[.slice A2 m2.length c2] 24)).cell? ⟨w3.heap.size, 0, none⟩ = some (.slice A2 m2.length c2) := Lib.cell_of_heap (heap_alloc_new w3 _) 0
    have hC4 := hC3.on (W' := w3.alloc (.cells #[.slice A2 m2.length c2] 24)) one_box
    have hb4 : Below W2.heap.size W2 (w3.alloc (.cells #[.slice A2 m2.length c2] 24)) := hb3.alloc hb3.size _
    generalize (w3.alloc (.cells #[.slice A2 m2.length c2] 24)) = W4 at y4 hC4 hb4 ⊢
    generalize w3.heap.size = g3 at y4 ⊢
    have x4 := (hb4.cell (C14.cell_lt x2)).trans x2
    have hC1H := Lib.hid (hC2H.out.on hb4)
    have hC4H := Lib.hid hC4
    have hb4H : Hid (Below w.heap.size w W4) := Lib.hid (hb2H.out.trans (hb4.mono hb2H.out.size))
    clear hC3 hb3 hR hm2 ok2 hb4 hC4 x2 hb2H hC2H hm1H
    go_upto_region 6 with (go_at_call 16; (with_reducible refine (hPA.out _ (hTH.out.on hb4H.out)).mono ?_); rintro e w5 ⟨⟨l1, A5, c5, hl1, hU5, _, rfl⟩, hb5⟩)
    have hb5H := Lib.hid hb5
    have hl1H := Lib.hid hl1
    have hU5H := Lib.hid hU5
    clear hPA hb5 hl1 hU5
    go_upto_region 7 with (go_at_call 17; (with_reducible refine (hRA.out _).mono ?_); rintro e w6 ⟨⟨l2, A6, c6, hl2, hU6, _, rfl⟩, hb6⟩)
    obtain rfl : l2 = l1 := (List.map_inj_right (fun _ _ hxy => uu_inj hxy)).1 (hl2.trans hl1H.out.symm)
    have hb46 : Below W4.heap.size W4 w6 := hb5H.out.trans (hb6.mono hb5H.out.size)
    have x6 := (hb46.cell (C14.cell_lt x4)).trans x4
    have y6 := (hb46.cell (C14.cell_lt y4)).trans y4
    have hSm : Hid (Calls Tryz.prog 13 #[.agg #[.slice A1 m2.length c1], .agg #[.slice A2 m2.length c2]] w6 fun e w' => e = .returned (.bool true) ∧ Below w6.heap.size w6 w') := Lib.hid (by
      have h1 := rsame15_any (c := c1) (c' := c2) (hC1H.out.on hb46) (hC4H.out.on hb46) ok1H.out.1 ok1H.out.1 ok1H.out.2 ok1H.out.2
      rwa [decide_eq_true rfl] at h1)
    have hSA : Hid (∀ X, Below w6.heap.size w6 X → Calls Tryz.prog 18 #[.slice A5 l2.length c5, .slice A6 l2.length c6] X fun e w' => e = .returned (.bool true) ∧ Below X.heap.size X w') := Lib.hid (fun X hX => by
      have hlen := all_len hl2
      have hsz := hs9.out
      have h1 := rsameall_any (c := c5) (c' := c6) (hU5H.out.on (hb6.trans (hX.mono hb6.size))) (hU6.on hX) (by omega) (by omega) (all_okL hl2) (all_okL hl2)
      rwa [decide_eq_true rfl] at h1)
    have hb6H := Lib.hid (hb4H.out.trans (hb46.mono hb4H.out.size))
    have hnn : (n == n) = true := by simp
    have hkk : (k == k) = true := by simp
    have haa : (((allU s.data.toList).2 : Int) == ((allU s.data.toList).2 : Int)) = true := by simp
    clear x4 y4 hb46 hl2 hU6 hb6 hRA hb5H hU5H hC1H hC4H hb4H
    go_wp2_with (first
      | (go_at_call 13; (with_reducible refine (hSm.out).mono ?_); rintro e w7 ⟨rfl, hb7⟩; have hb7H := Lib.hid hb7; clear hb7)
      | (go_at_call 18; (with_reducible refine (hSA.out _ hb7H.out).mono ?_); rintro e w8 ⟨rfl, hb8⟩; have hb8H := Lib.hid (hb6H.out.trans ((hb7H.out.trans (hb8.mono hb7H.out.size)).mono hb6H.out.size)); clear hb8)
      | (go_at_call 9; (with_reducible refine (alive_any _ (hTH.out.on hb8H.out)).mono ?_); rintro e w9 ⟨rfl, hb9⟩))
    go_ret
    exact ⟨rfl, hb8H.out.trans (hb9.mono hb8H.out.size)⟩
end Go.Proofs.YtjidopgohdlfdaaGreatDoor

/-
  The law Back: what is put is taken, whatever stands behind; cut off anywhere it is none. The listed variables hold what the program's text lays; lengths are Go's own.
-/
namespace Go.Proofs.YtjidopgohdlfdaaGreatDoor
open Go.RowKit Dec Pq S4 Un

theorem one_unitsAt {W : World} {Aa : Option Addr} {ca : Nat} {a : UM} (ha : CmdsAt W Aa a) : UnitsAt (W.alloc (.cells #[.slice Aa a.length ca] 24)) (some ⟨W.heap.size, 0, none⟩) [a] := fun i u hi => by
  match i, hi with
  | 0, hi =>
    obtain rfl : a = u := by simpa using hi
    exact ⟨_, rfl, by simp, Aa, ca, Lib.cell_of_heap (heap_alloc_new W _) 0, ha.on one_box⟩
theorem put_err {u : U} {k : Int} (h : putU u = .inl k) : k ≠ 0 := by
  unfold putU at h
  split at h
  · cases h; decide
  split at h
  · cases h; decide
  · cases h
theorem put_len {u : U} {l : List UInt8} (h : putU u = .inr l) : 9 ≤ l.length ∧ l.length ≤ 4194313 := by
  obtain ⟨_, h2, rfl⟩ := put_some h
  rw [bytesU_len]
  omega
set_option maxHeartbeats 8000000 in
theorem back_any (w : World) (A : Option Addr) (c : Nat) (u : UM) (b : ByteArray) (at_ : Int) (hu : CmdsAt w A u) (ou : OkL u) (_hb : b.size ≤ maxLen) (hT : Tbs w) :
    Calls Tryz.prog 5 #[.agg #[.slice A u.length c], .string b, .int .i64 at_] w fun e w' => e = .returned (.bool true) ∧ Below w.heap.size w w' := by
  have hb0 : Below w.heap.size w (w.alloc (.cells #[.slice A u.length c] 24)) := one_box
  have x0 : (w.alloc (.cells #[.slice A u.length c] 24)).cell? ⟨w.heap.size, 0, none⟩ = some (.slice A u.length c) := Lib.cell_of_heap (heap_alloc_new w _) 0
  have hu0 := hu.on hb0
  have hT0 := hT.on hb0
  clear hu hT
  go_enter Tryz.func5, Tryz.ntmps5
  go_upto_region 1 with fail
  generalize (w.alloc (.cells #[.slice A u.length c] 24)) = W0 at hb0 x0 hu0 hT0 ⊢
  obtain ⟨ga, hga⟩ : ∃ ga, ga = w.heap.size := ⟨_, rfl⟩
  rw [← hga] at x0 ⊢
  have hFar := Lib.hid (far15_any (c := 1) (one_unitsAt (ca := c) hu0) (by simp) (fun v hv => by
    obtain rfl := List.mem_singleton.1 hv
    exact ou))
  have hb0H := Lib.hid hb0
  have huH := Lib.hid hu0
  have hTH := Lib.hid hT0
  have ouH := Lib.hid ou
  clear hga hb0 hu0 hT0 ou
  go_wp2_with fail
  refine (hFar.out).mono ?_
  rintro e w1 ⟨⟨f, rfl, _⟩, hb1⟩
  have hb1H : Hid (Below W0.heap.size W0 w1) := Lib.hid (one_box.trans (hb1.mono (by simp)))
  clear hb1 hFar
  cases f with
  | true =>
    go_wp2_with (go_at_call 9; (with_reducible refine (alive_any _ (hTH.out.on hb1H.out)).mono ?_); rintro e w2 ⟨rfl, hb2⟩)
    go_ret
    exact ⟨rfl, hb0H.out.trans ((hb1H.out.trans (hb2.mono hb1H.out.size)).mono hb0H.out.size)⟩
  | false =>
    by_cases hbig : 1000 < b.size
    · have d1 : decide ((1000 : Int) < (b.size : Int)) = true := decide_eq_true (by omega)
      have d2 : decide (1000 < b.size) = true := decide_eq_true hbig
      clear hbig
      go_wp2_with (go_at_call 9; (with_reducible refine (alive_any _ (hTH.out.on hb1H.out)).mono ?_); rintro e w2 ⟨rfl, hb2⟩)
      go_ret
      exact ⟨rfl, hb0H.out.trans ((hb1H.out.trans (hb2.mono hb1H.out.size)).mono hb0H.out.size)⟩
    have d1 : decide ((1000 : Int) < (b.size : Int)) = false := decide_eq_false (by omega)
    have d2 : decide (1000 < b.size) = false := decide_eq_false hbig
    have x1 := (hb1H.out.cell (C14.cell_lt x0)).trans x0
    have hPa : Hid (Calls Tryz.prog 10 #[.agg #[.slice A u.length c]] w1 fun e w' => e = .returned (.tuple #[.string (putS (putU (uu u))), .int .i64 (putE (putU (uu u)))]) ∧ Below w1.heap.size w1 w') := Lib.hid ((unit_put_any (huH.out.on hb1H.out) ouH.out (hTH.out.on hb1H.out)).mono (fun e w' h => ⟨put_end h.1, h.2⟩))
    clear x0
    cases hp : putU (uu u) with
    | inl k =>
      rw [hp] at hPa
      have hk := put_err hp
      have k1 : ((k : Int) == 0) = false := beq_false_of_ne hk
      have k2 : ((k : Int) != 0) = true := by simpa using hk
      have hPa' : Hid (Calls Tryz.prog 10 #[.agg #[.slice A u.length c]] w1 fun e w' => e = .returned (.tuple #[.string ⟨#[]⟩, .int .i64 k]) ∧ Below w1.heap.size w1 w') := hPa
      clear hp hk hbig hPa
      go_wp2_with (first
        | (go_at_call 10; (with_reducible refine (hPa'.out).mono ?_); rintro e w2 ⟨rfl, hb2⟩; have hb2H := Lib.hid (hb1H.out.trans (hb2.mono hb1H.out.size)); clear hb2)
        | (go_at_call 9; (with_reducible refine (alive_any _ (hTH.out.on hb2H.out)).mono ?_); rintro e w3 ⟨rfl, hb3⟩))
      go_ret
      exact ⟨rfl, hb0H.out.trans ((hb2H.out.trans (hb3.mono hb2H.out.size)).mono hb0H.out.size)⟩
    | inr l =>
      rw [hp] at hPa
      obtain ⟨hl9, hlm⟩ := put_len hp
      obtain ⟨t, ht⟩ : ∃ t : ByteArray, t = ⟨l.toArray⟩ := ⟨_, rfl⟩
      have htl : t.data.toList = l := by rw [ht]
      have hPa' : Hid (Calls Tryz.prog 10 #[.agg #[.slice A u.length c]] w1 fun e w' => e = .returned (.tuple #[.string t, .int .i64 0]) ∧ Below w1.heap.size w1 w') := by rw [ht]; exact hPa
      rw [← htl] at hp hl9 hlm
      rw [size_len] at hl9 hlm
      have hTk : Hid (∀ X, Below W0.heap.size W0 X → Calls Tryz.prog 14 #[.string (t ++ b)] X fun e w' => (∃ A c, CmdsAt w' A u ∧ e = .returned (.tuple #[.agg #[.slice A u.length c], .int .i64 (t.size : Nat), .int .i64 0])) ∧ Below X.heap.size X w') := Lib.hid (fun X hX => take_known (by rw [ByteArray.size_append]; omega) (hTH.out.on hX) (by rw [append_data, take_put hp, size_len]))
      have hTc : Hid (∀ X k, Below W0.heap.size W0 X → k < t.size → Calls Tryz.prog 14 #[.string (t.extract 0 k)] X fun e w' => e = .returned (.tuple #[.agg #[.slice none 0 0], .int .i64 0, .int .i64 4]) ∧ Below X.heap.size X w') := Lib.hid (fun X k hX hk => (take_any _ X (by simp; omega) (hTH.out.on hX)).mono (by
        rintro e w' ⟨he, hb⟩
        have e1 : (t.extract 0 k).data.toList = t.data.toList.take k := by simp
        rw [e1, take_cut hp (by rw [size_len]; exact hk)] at he
        exact ⟨he, hb⟩))
      have k1 : ((t.size : Int) < 1) = False := eq_false (by omega)
      have k2 : decide ((t.size : Int) < 1) = false := decide_eq_false (by omega)
      have k3 : decide (t.size < 1) = false := decide_eq_false (by omega)
      have k4 : ((t.size : Int) != (t.size : Int)) = false := by simp
      have k5 : IntKind.u64.wrap (t.size : Int) = (t.size : Int) := by rw [IntKind.wrap_u64]; omega
      obtain ⟨kk, hkk, hkl⟩ : ∃ a : Nat, wrap64 ((IntKind.u64.wrap at_).tmod (t.size : Int)) = (a : Int) ∧ a < t.size := by
        have h1 : 0 ≤ IntKind.u64.wrap at_ := by rw [IntKind.wrap_u64]; omega
        have h2 : (IntKind.u64.wrap at_).tmod (t.size : Int) = IntKind.u64.wrap at_ % (t.size : Int) := Int.tmod_eq_emod_of_nonneg h1
        have h3 := Int.emod_nonneg (IntKind.u64.wrap at_) (b := (t.size : Int)) (by omega)
        have h4 := Int.emod_lt_of_pos (IntKind.u64.wrap at_) (b := (t.size : Int)) (by omega)
        rw [h2, IntWalk.wrap64_in _ (by omega)]
        exact ⟨(IntKind.u64.wrap at_ % (t.size : Int)).toNat, by omega, by omega⟩
      have hz1 : t.size + b.size ≤ 9223372036854775807 := by omega
      have hpos : ((t.size : Int) == 0) = false := beq_false_of_ne (by omega)
      clear hp ht htl hPa hbig
      go_upto_region 4 with (go_at_call 10; (with_reducible refine (hPa'.out).mono ?_); rintro e w2 ⟨rfl, hb2⟩)
      have hb2H := Lib.hid (hb1H.out.trans (hb2.mono hb1H.out.size))
      have x2 := (hb2.cell (C14.cell_lt x1)).trans x1
      clear x1 hb2 hPa' hb1H
      go_upto_region 7 with (go_at_call 14; (with_reducible refine (hTk.out _ hb2H.out).mono ?_); rintro e w3 ⟨⟨A3, c3, hC3, rfl⟩, hb3⟩)
      have y4 : (w3.alloc (.cells #[.slice A3 u.length c3] 24)).cell? ⟨w3.heap.size, 0, none⟩ = some (.slice A3 u.length c3) := Lib.cell_of_heap (heap_alloc_new w3 _) 0
      have hb4 : Below w2.heap.size w2 (w3.alloc (.cells #[.slice A3 u.length c3] 24)) := hb3.alloc hb3.size _
      have hC4 := hC3.on (W' := w3.alloc (.cells #[.slice A3 u.length c3] 24)) one_box
      generalize (w3.alloc (.cells #[.slice A3 u.length c3] 24)) = W4 at y4 hb4 hC4 ⊢
      generalize w3.heap.size = g3 at y4 ⊢
      have x4 := (hb4.cell (C14.cell_lt x2)).trans x2
      have hb4H := Lib.hid (hb2H.out.trans (hb4.mono hb2H.out.size))
      have hSm : Hid (Calls Tryz.prog 12 #[.agg #[.slice A u.length c], .agg #[.slice A3 u.length c3]] W4 fun e w' => e = .returned (.bool true) ∧ Below W4.heap.size W4 w') := Lib.hid (by
        have h1 := same_any (c := c) (c' := c3) (huH.out.on hb4H.out) hC4 ouH.out ouH.out
        rwa [decide_eq_true rfl] at h1)
      clear x2 hb4 hC3 hb3 hC4 hTk hb2H
      go_upto_region 9 with (go_at_call 12; (with_reducible refine (hSm.out).mono ?_); rintro e w5 ⟨rfl, hb5⟩)
      have hb5H := Lib.hid (hb4H.out.trans (hb5.mono hb4H.out.size))
      have hkli : (kk : Int) ≤ (t.size : Int) := by omega
      have hki0 : (0 : Int) ≤ (kk : Int) := by omega
      have hTcH := Lib.hid (hTc.out w5 kk hb5H.out hkl)
      clear hSm hb5 hb4H x4 y4 hTc k1 k2 k3 k4 hz1
      go_upto_region 10 with (go_at_call 14; (with_reducible refine (hTcH.out).mono ?_); rintro e w6 ⟨rfl, hb6⟩)
      have hb7 : Below W0.heap.size W0 (w6.alloc (.cells #[.slice none 0 0] 24)) := hb5H.out.trans ((hb6.alloc hb6.size _).mono hb5H.out.size)
      generalize (w6.alloc (.cells #[.slice none 0 0] 24)) = W7 at hb7 ⊢
      have hb7H := Lib.hid hb7
      clear hb6 hb7 hTcH hb5H
      go_wp2_with (go_at_call 9; (with_reducible refine (alive_any _ (hTH.out.on hb7H.out)).mono ?_); rintro e w8 ⟨rfl, hb8⟩)
      go_ret
      exact ⟨rfl, hb0H.out.trans ((hb7H.out.trans (hb8.mono hb7H.out.size)).mono hb0H.out.size)⟩
end Go.Proofs.YtjidopgohdlfdaaGreatDoor

/-
  The law Bursts: a unit in which up to 32 bits, one behind the other, are turned, all of them behind its length, is none. The listed variables hold what the program's text lays; lengths are Go's own.
-/
namespace Go.Proofs.YtjidopgohdlfdaaGreatDoor
open Go.RowKit Dec Pq S4 Un

set_option maxHeartbeats 8000000 in
theorem bursts_any (w : World) (A : Option Addr) (c : Nat) (u : UM) (at_ x2 : Int) (hu : CmdsAt w A u) (ou : OkL u) (l2 : 0 ≤ x2) (u2 : x2 ≤ 4294967295) (hT : Tbs w) :
    Calls Tryz.prog 6 #[.agg #[.slice A u.length c], .int .i64 at_, .int .u32 x2] w fun e w' => e = .returned (.bool true) ∧ Below w.heap.size w w' := by
  have hb0 : Below w.heap.size w (w.alloc (.cells #[.slice A u.length c] 24)) := one_box
  have x0 : (w.alloc (.cells #[.slice A u.length c] 24)).cell? ⟨w.heap.size, 0, none⟩ = some (.slice A u.length c) := Lib.cell_of_heap (heap_alloc_new w _) 0
  have hu0 := hu.on hb0
  have hT0 := hT.on hb0
  clear hu hT
  go_enter Tryz.func6, Tryz.ntmps6
  go_upto_region 1 with fail
  generalize (w.alloc (.cells #[.slice A u.length c] 24)) = W0 at hb0 x0 hu0 hT0 ⊢
  obtain ⟨ga, hga⟩ : ∃ ga, ga = w.heap.size := ⟨_, rfl⟩
  rw [← hga] at x0 ⊢
  have hFar := Lib.hid (far15_any (c := 1) (one_unitsAt (ca := c) hu0) (by simp) (fun v hv => by
    obtain rfl := List.mem_singleton.1 hv
    exact ou))
  have hb0H := Lib.hid hb0
  have huH := Lib.hid hu0
  have hTH := Lib.hid hT0
  have ouH := Lib.hid ou
  clear hga hb0 hu0 hT0 ou
  go_wp2_with fail
  refine (hFar.out).mono ?_
  rintro e w1 ⟨⟨f, rfl, _⟩, hb1⟩
  have hb1H : Hid (Below W0.heap.size W0 w1) := Lib.hid (one_box.trans (hb1.mono (by simp)))
  clear hb1 hFar
  cases f with
  | true =>
    go_wp2_with (go_at_call 9; (with_reducible refine (alive_any _ (hTH.out.on hb1H.out)).mono ?_); rintro e w2 ⟨rfl, hb2⟩)
    go_ret
    exact ⟨rfl, hb0H.out.trans ((hb1H.out.trans (hb2.mono hb1H.out.size)).mono hb0H.out.size)⟩
  | false =>
    by_cases hx0 : x2 = 0
    · subst hx0
      go_wp2_with (go_at_call 9; (with_reducible refine (alive_any _ (hTH.out.on hb1H.out)).mono ?_); rintro e w2 ⟨rfl, hb2⟩)
      go_ret
      exact ⟨rfl, hb0H.out.trans ((hb1H.out.trans (hb2.mono hb1H.out.size)).mono hb0H.out.size)⟩
    obtain ⟨mask, rfl⟩ : ∃ n : Nat, x2 = (n : Int) := ⟨x2.toNat, by omega⟩
    have hmz : ((mask : Int) == 0) = false := beq_false_of_ne (by omega)
    have hmH : Hid (mask ≠ 0 ∧ mask < 4294967296) := Lib.hid (by omega)
    clear hx0 l2 u2
    have x1 := (hb1H.out.cell (C14.cell_lt x0)).trans x0
    have hPa : Hid (Calls Tryz.prog 10 #[.agg #[.slice A u.length c]] w1 fun e w' => e = .returned (.tuple #[.string (putS (putU (uu u))), .int .i64 (putE (putU (uu u)))]) ∧ Below w1.heap.size w1 w') := Lib.hid ((unit_put_any (huH.out.on hb1H.out) ouH.out (hTH.out.on hb1H.out)).mono (fun e w' h => ⟨put_end h.1, h.2⟩))
    clear x0
    cases hp : putU (uu u) with
    | inl k =>
      rw [hp] at hPa
      have hk := put_err hp
      have k1 : ((k : Int) == 0) = false := beq_false_of_ne hk
      have k2 : ((k : Int) != 0) = true := by simpa using hk
      have hPa' : Hid (Calls Tryz.prog 10 #[.agg #[.slice A u.length c]] w1 fun e w' => e = .returned (.tuple #[.string ⟨#[]⟩, .int .i64 k]) ∧ Below w1.heap.size w1 w') := hPa
      clear hp hk hPa
      go_wp2_with (first
        | (go_at_call 10; (with_reducible refine (hPa'.out).mono ?_); rintro e w2 ⟨rfl, hb2⟩; have hb2H := Lib.hid (hb1H.out.trans (hb2.mono hb1H.out.size)); clear hb2)
        | (go_at_call 9; (with_reducible refine (alive_any _ (hTH.out.on hb2H.out)).mono ?_); rintro e w3 ⟨rfl, hb3⟩))
      go_ret
      exact ⟨rfl, hb0H.out.trans ((hb2H.out.trans (hb3.mono hb2H.out.size)).mono hb0H.out.size)⟩
    | inr l =>
      rw [hp] at hPa
      obtain ⟨hl9, hlm⟩ := put_len hp
      obtain ⟨T, ht⟩ : ∃ t : ByteArray, t = ⟨l.toArray⟩ := ⟨_, rfl⟩
      have htl : T.data.toList = l := by rw [ht]
      have hPa' : Hid (Calls Tryz.prog 10 #[.agg #[.slice A u.length c]] w1 fun e w' => e = .returned (.tuple #[.string T, .int .i64 0]) ∧ Below w1.heap.size w1 w') := by rw [ht]; exact hPa
      rw [← htl] at hp hl9 hlm
      rw [size_len] at hl9 hlm
      have hpH := Lib.hid hp
      obtain ⟨N, hN⟩ : ∃ N, N = T.size := ⟨_, rfl⟩
      rw [← hN] at hl9 hlm
      have hNH := Lib.hid hN
      have hw8 := IntWalk.i64_in (8 * (N : Int)) (by omega)
      have hw71 := IntWalk.i64_in (8 * (N : Int) - 71) (by omega)
      have hu71 : IntKind.u64.wrap (8 * (N : Int) - 71) = 8 * (N : Int) - 71 := by rw [IntKind.wrap_u64]; omega
      have hdl : decide ((N : Int) < 9) = false := decide_eq_false (by omega)
      have hdl2 : decide (N < 9) = false := decide_eq_false (by omega)
      have hfrom : ∃ a : Nat, wrap64 (40 + wrap64 ((IntKind.u64.wrap at_).tmod (8 * (N : Int) - 71))) = (a : Int) ∧ 40 ≤ a ∧ a + 32 ≤ 8 * N := by
        have h1 : 0 ≤ IntKind.u64.wrap at_ := by rw [IntKind.wrap_u64]; omega
        have h2 : (IntKind.u64.wrap at_).tmod (8 * (N : Int) - 71) = IntKind.u64.wrap at_ % (8 * (N : Int) - 71) := Int.tmod_eq_emod_of_nonneg h1
        have h3 := Int.emod_nonneg (IntKind.u64.wrap at_) (b := 8 * (N : Int) - 71) (by omega)
        have h4 := Int.emod_lt_of_pos (IntKind.u64.wrap at_) (b := 8 * (N : Int) - 71) (by omega)
        rw [h2, show wrap64 (IntKind.u64.wrap at_ % (8 * (N : Int) - 71)) = _ from IntWalk.wrap64_in _ (by omega), IntWalk.wrap64_in _ (by omega)]
        exact ⟨(40 + IntKind.u64.wrap at_ % (8 * (N : Int) - 71)).toNat, by omega, by omega, by omega⟩
      clear hp ht htl hPa
      go_upto_region 7 with (go_at_call 10; (with_reducible refine (hPa'.out).mono ?_); rintro e w2 ⟨rfl, hb2⟩; have hcv := Lib.run_convert_string_bytes (P := Tryz.prog) w2 9 45 5 T (u := .string) Tryz.underlying9 Tryz.underlying45 Tryz.underlying5)
      have hb2H := Lib.hid (hb1H.out.trans (hb2.mono hb1H.out.size))
      clear hb2 hPa' hb1H x1
      obtain ⟨m, hm⟩ : ∃ m, m = (Lib.bytesCells w2 5 T).size := ⟨_, rfl⟩
      have hNm : N ≤ m := by
        rw [hm, hN]
        unfold Lib.bytesCells
        rw [Array.size_append, Array.size_map]
        exact Nat.le_add_right _ _
      have hrow : C14.RowB (Lib.bytesWorld w2 5 T) w2.heap.size m (C14.bt T) := by
        refine ⟨_, by rw [hm]; exact Lib.bytesWorld_at_new w2 5 T, hm.symm, by rw [C14.bt_len, ← hN]; exact hNm, fun j x hx => ?_⟩
        have hj : j < T.size := by rw [← C14.bt_len]; exact (List.getElem?_eq_some_iff.1 hx).1
        have h1 := Lib.bytesWorld_cell w2 5 T j hj
        rw [Lib.cell_of_heap (Lib.bytesWorld_at_new w2 5 T) j] at h1
        rw [h1]
        have h2 : x = (T.data.toList.getD j 0).toNat := by
          rw [C14.bt_at hj] at hx
          cases hx
          rw [List.getD_eq_getElem?_getD, List.getElem?_eq_getElem (by rw [Array.length_toList]; exact hj)]
          rfl
        rw [h2]
      have hbel := Lib.bytesWorld_below w2 5 T
      generalize grownCap w2 T.size 0 5 = cap at *
      generalize Lib.bytesWorld w2 5 T = W3 at *
      rw [← hN] at hcv
      have hrowH := Lib.hid hrow
      have hbelH := Lib.hid hbel
      obtain ⟨g, hg⟩ : ∃ g, g = w2.heap.size := ⟨_, rfl⟩
      rw [← hg] at hrowH hcv ⊢
      have hgH := Lib.hid hg
      clear hg
      rw [← hN]
      clear hm hrow hbel hN
      obtain ⟨a, hfr, ha40, ha⟩ := hfrom
      have haH := Lib.hid (And.intro ha40 ha)
      clear ha40
      go_upto_region 10 with (fail)
      rw [hfr]
      clear hfr hw8 hw71 hu71 hdl hdl2 hmz
      go_wp2_with fail
      go_loopw [47] (fun s47 wr => ∃ i : Nat, i ≤ 32 ∧ s47 = .int .i64 i ∧ Hid (∃ r, C14.RowB wr g m r ∧ C14.Spoilt (C14.bt T) r a mask i) ∧ Hid (Below w2.heap.size w2 wr)) (fun s47 _ => 32 - (intOf s47).toNat)
      case atStart => exact ⟨0, by omega, rfl, Lib.hid ⟨_, hrowH.out, C14.spoilt_start (C14.bt_lt T) a mask⟩, hbelH⟩
      case round =>
        obtain ⟨i, hi, rfl, hr, hon⟩ := hrel
        by_cases hil : i < 32
        · have hlt : decide ((i : Int) < 32) = true := decide_eq_true (by omega)
          have hwk := IntWalk.i64_in ((i : Int) + 1) (by omega)
          have hwa := IntWalk.i64_in ((a : Int) + (i : Int)) (by omega)
          have hbd := C14.bit_and (i := i) hmH.out.2
          have hilH := Lib.hid hil
          by_cases hb : mask / 2 ^ i % 2 = 1
          · have hbt : (bits .and .u32 ((mask : Int) / 2 ^ i) 1 == 1) = true := by rw [hbd, hb]; rfl
            have hbH := Lib.hid hb
            clear hb hbd
            go_upto_region 15 with (fail)
            obtain ⟨k, hk⟩ : ∃ k, k = a + i := ⟨_, rfl⟩
            have hki : (a : Int) + (i : Int) = (k : Int) := by omega
            rw [hki]
            obtain ⟨r, hR, hSp⟩ := hr.out
            have hk8 : k / 8 < N := by omega
            have hrl : r.length = N := by rw [hSp.1, C14.bt_len]; exact hNH.out.symm
            have hq1 : (k : Int).tdiv 8 = ((k / 8 : Nat) : Int) := by rw [Int.tdiv_eq_ediv_of_nonneg (by omega)]; omega
            have hq2 : (k : Int).tmod 8 = ((k % 8 : Nat) : Int) := by rw [Int.tmod_eq_emod_of_nonneg (by omega)]; omega
            have hq3 := IntWalk.i64_in (((k / 8 : Nat) : Int)) (by omega)
            have hq4 := IntWalk.i64_in (((k % 8 : Nat) : Int)) (by omega)
            have hm8 : k % 8 < 8 := by omega
            have hix := C14.run_ixB g (k / 8) N cap hk8
            obtain ⟨hce, hfz⟩ := hR.cell (j := k / 8) (by rw [hrl]; exact hk8)
            have hkH := Lib.hid hk
            have hrk : k / 8 < r.length := by rw [hrl]; exact hk8
            have hg2 : r.getD (k / 8) 0 = r[k / 8] := by rw [List.getD_eq_getElem?_getD, List.getElem?_eq_getElem hrk]; rfl
            have hp2 : (2 : Int) ^ (k % 8) % 256 = ((2 ^ (k % 8) : Nat) : Int) := by
              have h9 : 2 ^ (k % 8) < 256 := Nat.pow_lt_pow_right (n := 8) (by omega) hm8
              have e : (2 : Int) ^ (k % 8) = ((2 ^ (k % 8) : Nat) : Int) := by rw [Int.natCast_pow]; rfl
              rw [e]
              generalize (2 : Nat) ^ (k % 8) = z at h9 ⊢
              omega
            obtain ⟨z, hz⟩ : ∃ z, z = r.getD (k / 8) 0 ^^^ 2 ^ (k % 8) := ⟨_, rfl⟩
            have hval : bits .xor .u8 (r[k / 8] : Int) (2 ^ (k % 8) % 256) = (z : Int) := by
              rw [hp2, hz, hg2]
              exact C14.xor_u8 (hSp.2.1 _ (List.getElem_mem hrk)) (Nat.pow_lt_pow_right (a := 2) (n := 8) (by omega) hm8)
            have hnext : Hid (C14.RowB (wr.setCell ⟨g, k / 8, none⟩ (.int .u8 (z : Int))) g m (r.set (k / 8) z) ∧ C14.Spoilt (C14.bt T) (r.set (k / 8) z) a mask (i + 1)) := Lib.hid ⟨hR.set _ _, by
              rw [hz]
              rw [hk]
              exact C14.spoilt_one hSp hbH.out (by rw [← hk, C14.bt_len, ← hNH.out]; exact hk8)⟩
            have hb4 : Hid (Below w2.heap.size w2 (wr.setCell ⟨g, k / 8, none⟩ (.int .u8 (z : Int))).drew) := Lib.hid ((hon.out.setCell (p := ⟨g, k / 8, none⟩) (by rw [← hgH.out]; exact Nat.le_refl _) _).drew)
            have hvalH := Lib.hid hval
            clear hwa hki hlt hil hwk hk hz hp2 hg2 hval hSp
            go_region
            all_goals rw [hvalH.out]
            all_goals clear hce hfz hix hq1 hq2 hq3 hq4
            all_goals have hwk := IntWalk.i64_in ((i : Int) + 1) (by have := hilH.out; omega)
            all_goals go_wp2_with fail
            all_goals refine ⟨⟨i + 1, by have := hilH.out; omega, by go_num, Lib.hid ⟨_, hnext.out.1, hnext.out.2⟩, hb4⟩, by have := hilH.out; simp [intOf]; omega⟩
          · have hb0 : mask / 2 ^ i % 2 = 0 := by omega
            have hbt : (bits .and .u32 ((mask : Int) / 2 ^ i) 1 == 1) = false := by rw [hbd, hb0]; rfl
            have hbH := Lib.hid hb0
            clear hb hb0 hbd
            go_wp2_with fail
            refine ⟨⟨i + 1, by have := hilH.out; omega, by go_num, Lib.hid ?_, hon⟩, by have := hilH.out; simp [intOf]; omega⟩
            obtain ⟨r, hR, hSp⟩ := hr.out
            exact ⟨r, hR, C14.spoilt_none hSp hbH.out⟩
        · have hi32 : i = 32 := by omega
          subst hi32
          obtain ⟨r, hR, hSp⟩ := hr.out
          obtain ⟨t, ht, hcv⟩ := hR.text hSp.2.1 cap
          have hrl : r.length = N := by rw [hSp.1, C14.bt_len]; exact hNH.out.symm
          rw [hrl] at hcv
          have hts : t.size ≤ 1000000000 := by rw [← C14.bt_len, ht, hrl]; omega
          have htk : takeU t.data.toList = .inl 14 := by
            have hpp := hpH.out
            refine take_burst hpp (r := t.data.toList) (a := a) (mask := mask) ?_ hmH.out.1 hmH.out.2 haH.out.1 ?_
            · show C14.Spoilt (C14.bt T) (C14.bt t) a mask 32
              rw [ht]
              exact hSp
            · rw [size_len, ← hNH.out]
              exact haH.out.2
          have hon2 := Lib.hid (hb2H.out.trans (hon.out.mono hb2H.out.size))
          have hTk : Hid (Calls Tryz.prog 14 #[.string t] wr fun e w' => e = .returned (.tuple #[.agg #[.slice none 0 0], .int .i64 0, .int .i64 14]) ∧ Below wr.heap.size wr w') := Lib.hid ((take_any t wr hts (hTH.out.on hon2.out)).mono (by
            rintro e w' ⟨he, hb⟩
            rw [htk] at he
            exact ⟨he, hb⟩))
          clear hR hSp ht hrl hts htk hil hi
          go_upto_region 18 with (go_at_call 14; (with_reducible refine (hTk.out).mono ?_); rintro e w5 ⟨rfl, hb5⟩)
          have hb6 : Below W0.heap.size W0 (w5.alloc (.cells #[.slice none 0 0] 24)) := hon2.out.trans ((hb5.alloc hb5.size _).mono hon2.out.size)
          generalize (w5.alloc (.cells #[.slice none 0 0] 24)) = W6 at hb6 ⊢
          have hb6H := Lib.hid hb6
          clear hb5 hb6 hTk
          go_wp2_with (go_at_call 9; (with_reducible refine (alive_any _ (hTH.out.on hb6H.out)).mono ?_); rintro e w8 ⟨rfl, hb8⟩)
          go_ret
          exact ⟨rfl, hb0H.out.trans ((hb6H.out.trans (hb8.mono hb6H.out.size)).mono hb0H.out.size)⟩
end Go.Proofs.YtjidopgohdlfdaaGreatDoor

/-
  The law Rows: units one behind the other are all taken, up to where one is none; what is taken is put so. The listed variables hold what the program's text lays; lengths are Go's own.
-/
namespace Go.Proofs.YtjidopgohdlfdaaGreatDoor
open Go.RowKit Dec Pq S4 Un

def bsU (u : UM) : List UInt8 := bytesU (uu u)
def goodU (u : UM) : Bool := mayU (uu u) && decide ((loadU (uu u)).length ≤ 4194304)
/-- Which units are put, and what they are, one behind the other. -/
def putsOf (l : List UM) : List UM := l.filter goodU
def textOf (l : List UM) : List UInt8 := l.flatMap bsU
theorem good_put {u : UM} (h : goodU u = true) : putU (uu u) = .inr (bsU u) := by
  unfold goodU at h
  rw [Bool.and_eq_true] at h
  exact put_yes h.1 (of_decide_eq_true h.2)
theorem bad_put {u : UM} (h : goodU u = false) : ∃ k, putU (uu u) = .inl k := by
  cases hp : putU (uu u) with
  | inl k => exact ⟨k, rfl⟩
  | inr s =>
    obtain ⟨h1, h2, _⟩ := put_some hp
    unfold goodU at h
    rw [h1, decide_eq_true h2] at h
    cases h
theorem puts_good (l : List UM) : (putsOf l).map (fun u => putU (uu u)) = ((putsOf l).map bsU).map Sum.inr := by
  rw [List.map_map]
  exact List.map_congr_left (fun u hu => good_put (List.mem_filter.1 hu).2)
theorem puts_next {l : List UM} {i : Nat} {u : UM} (h : l[i]? = some u) : putsOf (l.take (i + 1)) = putsOf (l.take i) ++ (if goodU u = true then [u] else []) := by
  unfold putsOf
  rw [List.take_add_one, h, List.filter_append]
  congr 1
  simp only [Option.toList_some, List.filter_cons, List.filter_nil]
theorem text_app (l m : List UM) : textOf (l ++ m) = textOf l ++ textOf m := by unfold textOf; rw [List.flatMap_append]
theorem text_flat (l : List UM) : textOf l = (l.map bsU).flatten := by unfold textOf; rw [List.flatMap_def]
/-- What All takes of units one behind the other, and a tail. -/
theorem rows_all {P : List UM} (hP : P.map (fun u => putU (uu u)) = (P.map bsU).map Sum.inr) (t : List UInt8) : allU (textOf P ++ t) = (P.map uu ++ (allU t).1, (textOf P).length + (allU t).2) := by
  have h := all_puts (P.map uu) (P.map bsU) (by rw [List.map_map]; exact hP) t
  rw [text_flat]
  exact h
theorem rows_got {P G : List UM} {t : List UInt8} (hP : P.map (fun u => putU (uu u)) = (P.map bsU).map Sum.inr) (hG : G.map uu = (allU (textOf P ++ t)).1) : P.length ≤ G.length ∧ G.take P.length = P := by
  rw [rows_all hP] at hG
  have h1 : (G.take P.length).map uu = P.map uu := by
    rw [List.map_take, hG]
    exact List.take_left' (by rw [List.length_map])
  have h2 : G.take P.length = P := (List.map_inj_right (fun _ _ hxy => uu_inj hxy)).1 h1
  refine ⟨?_, h2⟩
  have h3 := congrArg List.length h2
  rw [List.length_take] at h3
  omega
theorem rows_len {P : List UM} {t : List UInt8} (hP : P.map (fun u => putU (uu u)) = (P.map bsU).map Sum.inr) : (textOf P).length ≤ (allU (textOf P ++ t)).2 ∧ (allU (textOf P ++ t)).2 ≤ (textOf P).length + t.length := by
  have h := (all_ok (t.length + 1) t (Nat.lt_succ_self _)).1
  rw [rows_all hP]
  simp only []
  omega
/-- What is taken is put so. -/
theorem rows_again {G : List UM} {s : List UInt8} (hG : G.map uu = (allU s).1) : (∀ u ∈ G, putU (uu u) = .inr (bsU u)) ∧ textOf G = s.take (allU s).2 ∧ (allU s).2 ≤ s.length := by
  obtain ⟨h0, ss, h1, h2⟩ := all_ok (s.length + 1) s (Nat.lt_succ_self _)
  rw [← hG, List.map_map] at h1
  have hall : ∀ u ∈ G, putU (uu u) = .inr (bsU u) := fun u hu => by
    have hm : putU (uu u) ∈ ss.map Sum.inr := by
      rw [← h1]
      exact List.mem_map.2 ⟨u, hu, rfl⟩
    obtain ⟨t, _, ht⟩ := List.mem_map.1 hm
    obtain ⟨_, _, h3⟩ := put_some ht.symm
    rw [← ht, h3]
    rfl
  refine ⟨hall, ?_, h0⟩
  rw [← h2, text_flat]
  congr 1
  have h3 : (G.map bsU).map (Sum.inr : List UInt8 → Sum Int (List UInt8)) = ss.map Sum.inr := by
    rw [← h1, List.map_map]
    exact (List.map_congr_left (fun u hu => (hall u hu))).symm
  exact (List.map_inj_right (fun _ _ hxy => Sum.inr.inj hxy)).1 h3
theorem text_pre (G : List UM) (j : Nat) : (textOf (G.take j)).length ≤ (textOf G).length := by
  conv => rhs; rw [← List.take_append_drop j G, text_app]
  rw [List.length_append]
  exact Nat.le_add_right _ _
theorem text_next {G : List UM} {j : Nat} {u : UM} (h : G[j]? = some u) : textOf (G.take (j + 1)) = textOf (G.take j) ++ bsU u := by
  rw [List.take_add_one, h, text_app]
  unfold textOf
  simp
theorem UnitsAt.take {W : World} {A : Option Addr} {l : List UM} (h : UnitsAt W A l) (k : Nat) : UnitsAt W A (l.take k) := fun i u hi => by
  rw [List.getElem?_take] at hi
  split at hi
  · exact h i u hi
  · cases hi
theorem CmdsAt.low {W : World} {A : Option Addr} {u : UM} (h : CmdsAt W A u) : CmdsOk W (fun b => b < W.heap.size) A u := fun i ss hi => by
  obtain ⟨a, h1, h2, Ai, ci, h3, h4⟩ := h i ss hi
  refine ⟨a, h1, h2, h2, Ai, ci, h3, fun j x hj => ?_⟩
  obtain ⟨b, k1, _, k3, k4⟩ := h4 j x hj
  exact ⟨b, k1, k3, k3, k4⟩
theorem cut_units {A : Option Addr} {n c k : Nat} (h : RowOk A n c) (hk : k ≤ n) : ∀ w, (Instr.slice 37 (.slice A n c) none (some (.int .i64 (k : Int))) none).run Tryz.prog w = .ok (.slice A k c) w := fun w => by
  rcases h with ⟨rfl, rfl, rfl⟩ | ⟨g, rfl, hc⟩
  · obtain rfl : k = 0 := by omega
    go_simp
  · rw [run_slice_h (P := Tryz.prog) w 37 (some ⟨g, 0, none⟩) n c (by kernel_rfl) .i64 (k : Int) (by omega) (by omega)]
    simp only [Int.toNat_natCast]
    obtain ⟨i, hi, hz, hz1, _⟩ := info_parts unit_info
    have hel : Tryz.prog.elem 37 = 24 := by kernel_rfl
    have hs : sliced (some ⟨g, 0, none⟩) 0 k c 1 = .slice (some ⟨g, 0, none⟩) k c := by
      unfold sliced; split <;> simp [Addr.add]
    rw [hel, ← hs]
    simp [sizeOf, typeInfo, hi, hz1, Result.andThen]
end Go.Proofs.YtjidopgohdlfdaaGreatDoor

/-
  The law Rows: the walk. The listed variables hold what the program's text lays; lengths are Go's own.
-/
namespace Go.Proofs.YtjidopgohdlfdaaGreatDoor
open Go.RowKit Dec Pq S4 Un

theorem ext_take (s : ByteArray) (k : Nat) : (s.extract 0 k).data.toList = s.data.toList.take k := by simp
set_option maxRecDepth 100000 in
set_option maxHeartbeats 16000000 in
theorem rows_any (w : World) (A : Option Addr) (c : Nat) (l : List UM) (b : ByteArray) (hU : UnitsAt w A l) (hl : l.length ≤ 140737488355328) (hs : ∀ u ∈ l, OkL u) (_hb : b.size ≤ maxLen) (hT : Tbs w) :
    Calls Tryz.prog 7 #[.slice A l.length c, .string b] w fun e w' => e = .returned (.bool true) ∧ Below w.heap.size w w' := by
  have hFar := Lib.hid (far15_any (c := c) hU hl hs)
  have hTH := Lib.hid hT
  have hUH := Lib.hid hU
  have hsH := Lib.hid hs
  clear hU hs hT hl
  go_enter Tryz.func7, Tryz.ntmps7
  go_wp2_with fail
  refine (hFar.out).mono ?_
  rintro e w1 ⟨⟨f, rfl, hfl⟩, hb1⟩
  have hb1H := Lib.hid hb1
  clear hb1 hFar
  cases f with
  | true =>
    go_wp2_with (go_at_call 9; (with_reducible refine (alive_any _ (hTH.out.on hb1H.out)).mono ?_); rintro e w2 ⟨rfl, hb2⟩)
    go_ret
    exact ⟨rfl, hb1H.out.trans (hb2.mono hb1H.out.size)⟩
  | false =>
    have hl100 := hfl rfl
    by_cases hbig : 1000 < b.size
    · have d1 : decide ((1000 : Int) < (b.size : Int)) = true := decide_eq_true (by omega)
      have d2 : decide (1000 < b.size) = true := decide_eq_true hbig
      clear hbig
      go_wp2_with (go_at_call 9; (with_reducible refine (alive_any _ (hTH.out.on hb1H.out)).mono ?_); rintro e w2 ⟨rfl, hb2⟩)
      go_ret
      exact ⟨rfl, hb1H.out.trans (hb2.mono hb1H.out.size)⟩
    have d1 : decide ((1000 : Int) < (b.size : Int)) = false := decide_eq_false (by omega)
    have d2 : decide (1000 < b.size) = false := decide_eq_false hbig
    have hb1000 : b.size ≤ 1000 := by omega
    have hst : Hid (∀ i u, l[i]? = some u → putsOf (l.take (i + 1)) = putsOf (l.take i) ++ (if goodU u = true then [u] else [])) := Lib.hid (fun i u h => puts_next h)
    have hfin : Hid (putsOf (l.take l.length) = putsOf l) := Lib.hid (by rw [List.take_length])
    have hget : Hid (∀ i, i < l.length → ∃ u, l[i]? = some u) := Lib.hid (fun i hi => ⟨_, List.getElem?_eq_getElem hi⟩)
    have hpl : Hid (∀ i, (putsOf (l.take i)).length ≤ i) := Lib.hid (fun i => Nat.le_trans (List.length_filter_le _ _) (by rw [List.length_take]; omega))
    have hU0 : Hid (US w w1 (.slice none 0 0) [] (putsOf (l.take 0))) := Lib.hid ((US.start w).on hb1H.out)
    obtain ⟨i0, hi, hz0, hz1, hz2⟩ := info_parts unit_info
    obtain ⟨n, hn⟩ : ∃ n, n = l.length := ⟨_, rfl⟩
    rw [← hn] at hfin hget hl100 ⊢
    have hnH := Lib.hid hn
    clear hbig hfl hn
    go_wp2_with fail
    clear d1 d2
    go_loopw [5, 6, 28] (fun s5 s6 s28 wr => ∃ (i : Nat) (S : ByteArray) (v : Value) (xs : List Value), i ≤ n ∧ s28 = .int .i64 i ∧ s5 = .string S ∧ s6 = v ∧ S.size ≤ 4194313 * i ∧ Hid (S.data.toList = textOf (putsOf (l.take i))) ∧ Hid (US w wr v xs (putsOf (l.take i)))) (fun _ _ s28 _ => n - (intOf s28).toNat)
    case atStart => exact ⟨0, ⟨#[]⟩, _, [], by omega, rfl, rfl, rfl, by decide, Lib.hid rfl, hU0⟩
    case round =>
      clear hU0
      obtain ⟨i, S, v, xs, hi1, rfl, rfl, rfl, hSs, hSd, hUs⟩ := hrel
      obtain ⟨A0, c0, rfl, hUn, hRo⟩ := hUs.out.units
      by_cases hil : i < n
      · obtain ⟨u, hx⟩ := hget.out i hil
        have hbw := hUs.out.bel
        obtain ⟨a, rfl, ha, Ai, ci, hc, hC⟩ := hUH.out.on hbw i u hx
        have hix := run_ixU a i n c hil
        have oku := hsH.out u (List.mem_of_getElem? hx)
        have hstx := hst.out i u hx
        have hlow : Hid (CmdsOk wr (fun b => b < w.heap.size) Ai u) := by
          obtain ⟨a', ha', _, Ai', ci', hc', hC'⟩ := hUH.out i u hx
          cases ha'
          have hcc := (hbw.cell (p := a.add i) (by rw [block_of_add]; assumption)).trans hc'
          rw [hc] at hcc
          have hcc2 := Option.some.inj hcc
          injection hcc2 with e1 e2 e3
          subst e1
          exact Lib.hid (hC'.low.on hbw)
        have hilH := Lib.hid hil
        have dk : decide ((i : Int) < (n : Int)) = true := decide_eq_true (by omega)
        have dk2 : decide (i < n) = true := decide_eq_true hil
        have hwk := IntWalk.i64_in ((i : Int) + 1) (by omega)
        have x2 : (wr.alloc (.cells #[.slice Ai u.length ci] 24)).cell? ⟨wr.heap.size, 0, none⟩ = some (.slice Ai u.length ci) := Lib.cell_of_heap (heap_alloc_new wr _) 0
        have hPa := (unit_put_any (c := ci) (hC.on (W' := wr.alloc (.cells #[.slice Ai u.length ci] 24)) one_box) oku (hTH.out.on (hbw.alloc hbw.size (.cells #[.slice Ai u.length ci] 24)))).mono (fun e w' h => And.intro (put_end h.1) h.2)
        have hb2 : Below wr.heap.size wr (wr.alloc (.cells #[.slice Ai u.length ci] 24)) := one_box
        have hbwH := Lib.hid hbw
        have hUnH := Lib.hid hUn
        have hRoH := Lib.hid hRo
        have hszn := hbw.size
        cases hg : goodU u with
        | false =>
          obtain ⟨k, hk⟩ := bad_put hg
          rw [hk] at hPa
          have hPaH : Hid (Calls Tryz.prog 10 #[.agg #[.slice Ai u.length ci]] (wr.alloc (.cells #[.slice Ai u.length ci] 24)) fun e w' => e = .returned (.tuple #[.string ⟨#[]⟩, .int .i64 k]) ∧ Below (wr.alloc (.cells #[.slice Ai u.length ci] 24)).heap.size (wr.alloc (.cells #[.slice Ai u.length ci] 24)) w') := Lib.hid hPa
          have hk0 : ((k : Int) == 0) = false := beq_false_of_ne (put_err hk)
          rw [hg, if_neg (by decide), List.append_nil] at hstx
          have hstxH := Lib.hid hstx
          have hb2H := Lib.hid hb2
          clear hPa hk hg hstx hx hil hC hUn hRo hbw hb2 hszn
          go_wp2_with (go_at_call 10; (with_reducible refine (hPaH.out).mono ?_); rintro e w3 ⟨rfl, hb3⟩; have hb3H := Lib.hid (hb2H.out.trans (hb3.mono hb2H.out.size)); clear hb3)
          go_roundw
          case rel => exact ⟨i + 1, S, _, xs, by have := hilH.out; omega, by go_num, rfl, rfl, by omega, Lib.hid (by rw [hstxH.out]; exact hSd.out), Lib.hid (by rw [hstxH.out]; exact hUs.out.on hb3H.out)⟩
          case measure => have := hilH.out; simp [intOf]; omega
        | true =>
          have hgp := good_put hg
          rw [hgp] at hPa
          obtain ⟨hl9, hlm⟩ := put_len hgp
          obtain ⟨t, ht⟩ : ∃ t : ByteArray, t = ⟨(bsU u).toArray⟩ := ⟨_, rfl⟩
          have htl : t.data.toList = bsU u := by rw [ht]
          have hPaH : Hid (Calls Tryz.prog 10 #[.agg #[.slice Ai u.length ci]] (wr.alloc (.cells #[.slice Ai u.length ci] 24)) fun e w' => e = .returned (.tuple #[.string t, .int .i64 0]) ∧ Below (wr.alloc (.cells #[.slice Ai u.length ci] 24)).heap.size (wr.alloc (.cells #[.slice Ai u.length ci] 24)) w') := by rw [ht]; exact Lib.hid hPa
          rw [← htl, size_len] at hlm
          rw [hg, if_pos rfl] at hstx
          have hstxH := Lib.hid hstx
          have htlH := Lib.hid htl
          have hb2H := Lib.hid hb2
          have hcat : S.size + t.size ≤ 9223372036854775807 := by omega
          have hlmH := Lib.hid hlm
          have hpli := Lib.hid (hpl.out i)
          have hox := fun X (hX : Below wr.heap.size wr X) => (hUs.out.on hX).own
          clear hPa hg hgp hl9 hstx hx hil hC hUn hRo hbw ht htl
          go_upto_region 11 with (go_at_call 10; (with_reducible refine (hPaH.out).mono ?_); rintro e w3 ⟨rfl, hb3⟩)
          have x3 := (hb3.cell (C14.cell_lt x2)).trans x2
          have hb3w : Below wr.heap.size wr w3 := hb2.trans (hb3.mono hb2.size)
          have hb3H := Lib.hid hb3w
          have hoxH := Lib.hid (hox _ (hb3w.alloc hb3w.size (.cells #[.slice Ai u.length ci] 24)))
          have hsz3 := hb3w.size
          have hbd := hpli.out
          clear x2 hb2 hb3 hb3w hox hPaH
          go_wp2_with (at_builtin; refine wpList_append_own_at _ rfl (.tmp 42) (.tmp 44) 37 rfl w.heap.size 24 i0 _ 1 24 Tryz.underlying37 hi hz0 hz1 hz2 rfl (by decide) (.slice A0 (putsOf (l.take i)).length c0) (putsOf (l.take i)).length xs rfl hoxH.out ⟨w3.heap.size, 0, none⟩ 1 1 [.slice Ai u.length ci] rfl rfl (one_unit w3 _) (one_slice _ _ _) (by unfold maxLen; omega) (by omega) (by simp; omega) ?_)
          intro v' w7 hown7 hg7 _ hloc
          have hU7 := Lib.hid (hUs.out.more (hb3H.out.alloc hb3H.out.size (.cells #[.slice Ai u.length ci] 24)) ((hlow.out.keep (fun _ _ _ => rfl) (Nat.le_refl _) (fun b hb1 _ e => by have := (hUs.out.own.lt b e).1; omega)).on (hb3H.out.alloc hb3H.out.size _)) hown7 hg7 (by rw [World.size_alloc]; exact hloc))
          clear hown7 hg7 hloc
          go_wp2_with fail
          go_roundw
          case rel => exact ⟨i + 1, S ++ t, _, _, by have := hilH.out; omega, by go_num, rfl, rfl, by rw [ByteArray.size_append]; have := hlmH.out; omega, Lib.hid (by rw [hstxH.out, text_app, append_data, hSd.out, htlH.out]; unfold textOf; simp), Lib.hid (by rw [hstxH.out]; exact hU7.out)⟩
          case measure => have := hilH.out; simp [intOf]; omega
      · have hni : n = i := by omega
        subst hni
        rw [hfin.out] at hUs hSd hUn hRo ⊢
        have hPg := puts_good l
        have hP100 : (putsOf l).length ≤ 100 := by have := hpl.out n; rw [hfin.out] at this; omega
        have hokP : Hid (∀ u ∈ putsOf l, OkL u) := Lib.hid (fun u hu => hsH.out u (List.mem_filter.1 hu).1)
        generalize putsOf l = P at hUs hSd hUn hRo hPg hP100 hokP ⊢
        have hsb : (S ++ b).data.toList = textOf P ++ b.data.toList := by rw [append_data, hSd.out]
        have hSb9 : (S ++ b).size ≤ 1000000000 := by rw [ByteArray.size_append]; omega
        have hAl0 := all_any (S ++ b) wr hSb9 (hTH.out.on hUs.out.bel)
        obtain ⟨⟨gs, N⟩, hRe⟩ : ∃ R, R = allU (S ++ b).data.toList := ⟨_, rfl⟩
        rw [← hRe] at hAl0
        have hAl := Lib.hid hAl0
        rw [hsb] at hRe
        have hReH := Lib.hid hRe
        clear hAl0 hRe
        have hUnH := Lib.hid hUn
        have hsbH := Lib.hid hsb
        have hPgH := Lib.hid hPg
        have hbwH := Lib.hid hUs.out.bel
        have dk : decide ((n : Int) < (n : Int)) = false := decide_eq_false (by omega)
        have dk2 : decide (n < n) = false := decide_eq_false (by omega)
        have hz1 : S.size + b.size ≤ 9223372036854775807 := by omega
        have hSsz : S.size ≤ 419431300 := by omega
        clear hil hUn hRo hPg hsb hUs hst hfin hget hpl hnH hSb9 hi1 hSs hUH
        go_upto_region 14 with (go_at_call 16; (with_reducible refine (hAl.out).mono ?_); rintro e w5 ⟨⟨G, A5, c5, hG, hU5, hRo5, rfl⟩, hb5⟩)
        have hG : G.map uu = (allU (textOf P ++ b.data.toList)).1 := by rw [← hReH.out]; exact hG
        obtain ⟨hle, htake⟩ := rows_got hPgH.out hG
        obtain ⟨hn1, hn2⟩ := rows_len (t := b.data.toList) hPgH.out
        obtain ⟨hall, hag, hn3⟩ := rows_again hG
        have hokG := all_okL hG
        rw [← hReH.out] at hn1 hn2 hag hn3
        simp only [] at hn1 hn2 hag hn3
        rw [← hsbH.out, size_len] at hn3
        rw [← hsbH.out] at hag
        rw [← hSd.out, size_len, size_len] at hn2
        rw [← hSd.out, size_len] at hn1
        have hGN : G.length ≤ 1000000000 := by
          have h9 := all_len (s := S ++ b) (by rw [hsbH.out]; exact hG)
          rw [ByteArray.size_append] at h9
          omega
        have hSA := (rsameall_any (c := c5) (c' := c0) (by have := hU5.take P.length; rw [htake] at this; exact this) (hUnH.out.on hb5) (by omega) (by omega) hokP.out hokP.out)
        rw [decide_eq_true rfl] at hSA
        have hSAH := Lib.hid hSA
        have hcut := cut_units hRo5 hle
        have k1 : decide ((G.length : Int) < (P.length : Int)) = false := decide_eq_false (by omega)
        have k2 : decide (G.length < P.length) = false := decide_eq_false (by omega)
        have k3 : decide ((N : Int) < (S.size : Int)) = false := decide_eq_false (by omega)
        have k4 : decide (N < S.size) = false := decide_eq_false (by omega)
        have k5 : decide ((S.size : Int) + (b.size : Int) < (N : Int)) = false := decide_eq_false (by omega)
        have k6 : decide (S.size + b.size < N) = false := decide_eq_false (by omega)
        have hwz := IntWalk.i64_in ((S.size : Int) + (b.size : Int)) (by omega)
        have hb5H := Lib.hid (hbwH.out.trans (hb5.mono hbwH.out.size))
        have hU5H := Lib.hid hU5
        have hallH := Lib.hid hall
        have hagH := Lib.hid hag
        have hokGH := Lib.hid hokG
        have hn3H := Lib.hid hn3
        have hGNH := Lib.hid hGN
        clear hG hU5 hRo5 hb5 hle htake hn1 hn2 hall hag hokG hSA hAl hn3 hP100 hSd
        go_upto_region 16 with (go_at_call 18; (with_reducible refine (hSAH.out).mono ?_); rintro e w6 ⟨rfl, hb6⟩)
        have hb6H := Lib.hid hb6
        have hpre := Lib.hid (text_pre G)
        have hnx : Hid (∀ j u, G[j]? = some u → textOf (G.take (j + 1)) = textOf (G.take j) ++ bsU u) := Lib.hid (fun j u h => text_next h)
        have hfin : Hid (textOf (G.take G.length) = textOf G) := Lib.hid (by rw [List.take_length])
        have hget : Hid (∀ i, i < G.length → ∃ u, G[i]? = some u) := Lib.hid (fun i hi => ⟨_, List.getElem?_eq_getElem hi⟩)
        have hzl : Hid ((textOf G).length ≤ 1000000000) := Lib.hid (by
          rw [hagH.out, List.length_take]
          have := hn3H.out
          rw [ByteArray.size_append] at this
          omega)
        obtain ⟨M, hM⟩ : ∃ M, M = G.length := ⟨_, rfl⟩
        rw [← hM] at hfin hget hGNH ⊢
        clear hb6 hM hSAH hcut k1 k2 k3 k4 k5 k6 hwz hokP hPgH hsbH hReH hUnH hbwH dk dk2
        go_wp2_with fail
        go_loopw [13, 85] (fun s13 s85 wr => ∃ (j : Nat) (Z : ByteArray), j ≤ M ∧ s85 = .int .i64 j ∧ s13 = .string Z ∧ Hid (Z.data.toList = textOf (G.take j)) ∧ Hid (Below w5.heap.size w5 wr)) (fun _ s85 _ => M - (intOf s85).toNat)
        case atStart => exact ⟨0, ⟨#[]⟩, by omega, rfl, rfl, Lib.hid rfl, hb6H⟩
        case round =>
          obtain ⟨j, Z, hj, rfl, rfl, hZ, hW⟩ := hrel
          have hZs : Z.size ≤ 1000000000 := by
            have h1 := hpre.out j
            rw [← hZ.out, size_len] at h1
            exact Nat.le_trans h1 hzl.out
          by_cases hjl : j < M
          · obtain ⟨u, hx⟩ := hget.out j hjl
            obtain ⟨a, rfl, ha, Ai, ci, hc, hC⟩ := hU5H.out.on hW.out j u hx
            have hix := run_ixU a j M c5 hjl
            have hjlH := Lib.hid hjl
            have hum := List.mem_of_getElem? hx
            have hgp := hallH.out u hum
            have oku := hokGH.out u hum
            have hN := Lib.hid (hnx.out j u hx)
            have hbx := hb5H.out.trans (hW.out.mono hb5H.out.size)
            have hPa := (unit_put_any (c := ci) (hC.on (W' := wr.alloc (.cells #[.slice Ai u.length ci] 24)) one_box) oku (hTH.out.on (hbx.alloc hbx.size (.cells #[.slice Ai u.length ci] 24)))).mono (fun e w' h => And.intro (put_end h.1) h.2)
            rw [hgp] at hPa
            obtain ⟨hl9, hlm⟩ := put_len hgp
            obtain ⟨t, ht⟩ : ∃ t : ByteArray, t = ⟨(bsU u).toArray⟩ := ⟨_, rfl⟩
            have htl : t.data.toList = bsU u := by rw [ht]
            have hPaH : Hid (Calls Tryz.prog 10 #[.agg #[.slice Ai u.length ci]] (wr.alloc (.cells #[.slice Ai u.length ci] 24)) fun e w' => e = .returned (.tuple #[.string t, .int .i64 0]) ∧ Below (wr.alloc (.cells #[.slice Ai u.length ci] 24)).heap.size (wr.alloc (.cells #[.slice Ai u.length ci] 24)) w') := by rw [ht]; exact Lib.hid hPa
            rw [← htl, size_len] at hlm
            have htlH := Lib.hid htl
            have hcat : Z.size + t.size ≤ 9223372036854775807 := by omega
            have dk : decide ((j : Int) < (M : Int)) = true := decide_eq_true (by omega)
            have dk2 : decide (j < M) = true := decide_eq_true hjl
            have hwk := IntWalk.i64_in ((j : Int) + 1) (by have := hGNH.out; omega)
            have hb2H : Hid (Below w5.heap.size w5 (wr.alloc (.cells #[.slice Ai u.length ci] 24))) := Lib.hid (hW.out.alloc hW.out.size _)
            clear hPa hgp hl9 hx hjl hC hum oku hbx ht htl hlm
            go_wp2_with (go_at_call 10; (with_reducible refine (hPaH.out).mono ?_); rintro e w3 ⟨rfl, hb3⟩; have hb3H := Lib.hid (hb2H.out.trans (hb3.mono hb2H.out.size)); clear hb3)
            go_roundw
            case rel => exact ⟨j + 1, Z ++ t, by have := hjlH.out; omega, by go_num, rfl, Lib.hid (by rw [hN.out, append_data, hZ.out, htlH.out]), hb3H⟩
            case measure => have := hjlH.out; simp [intOf]; omega
          · have hjm : M = j := by omega
            subst hjm
            have hZe : Z.data.toList = ((S ++ b).extract 0 N).data.toList := by
              rw [hZ.out, hfin.out, hagH.out]
              exact (ext_take (S ++ b) N).symm
            have hq : (Z.toList == ((S ++ b).extract 0 N).toList) = true := by
              rw [Lib.toList_data, Lib.toList_data, hZe]
              simp
            have dk : decide ((M : Int) < (M : Int)) = false := decide_eq_false (by omega)
            have dk2 : decide (M < M) = false := decide_eq_false (by omega)
            have hwE := Lib.hid (hb5H.out.trans (hW.out.mono hb5H.out.size))
            have n1 : (N : Int) ≤ ((S ++ b).size : Int) := by have := hn3H.out; omega
            have n2 : (0 : Int) ≤ (N : Int) := by omega
            have n3 : N ≤ S.size + b.size := by have := hn3H.out; rw [ByteArray.size_append] at this; exact this
            have n4 : (N : Int) ≤ (S.size : Int) + (b.size : Int) := by omega
            clear hjl hZe
            go_wp2_with (go_at_call 9; (with_reducible refine (alive_any _ (hTH.out.on hwE.out)).mono ?_); rintro e w8 ⟨rfl, hb8⟩)
            go_ret
            exact ⟨rfl, hwE.out.trans (hb8.mono hwE.out.size)⟩
end Go.Proofs.YtjidopgohdlfdaaGreatDoor
