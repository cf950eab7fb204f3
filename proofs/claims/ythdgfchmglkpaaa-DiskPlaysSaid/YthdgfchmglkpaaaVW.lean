/-
  The program's firsts: a map from names to how many bytes the first keep of it tells. Premises: the keeps lie in memory, names are texts of Go's own lengths.
-/
import Derived.Test.YthdgfchmglkpaaaChecked
import Derived.Test.YthdgfchmglkpaaaA
import Derived.Test.YthdgfchmglkpaaaB
import Derived.Test.YthdgfchmglkpaaaC
import Derived.Test.YthdgfchmglkpaaaD
import Derived.Test.YthdgfchmglkpaaaE
import Derived.Test.YthdgfchmglkpaaaF
import Derived.Test.YthdgfchmglkpaaaJ
import Derived.Test.YthdgfchmglkpaaaK
import Derived.Test.YthdgfchmglkpaaaL
import Derived.Test.YthdgfchmglkpaaaM
import Derived.Test.YthdgfchmglkpaaaU
import Derived.Test.YthdgfchmglkpaaaVS
import Derived.Test.YthdgfchmglkpaaaVF
import Derived.Test.YthdgfchmglkpaaaVG
import Derived.Test.YthdgfchmglkpaaaVK
import Derived.Test.YthdgfchmglkpaaaVD
import Derived.Test.YthdgfchmglkpaaaVT
import Derived.WalkKit
import Derived.WalkSpells
import Derived.WalkLawsBesides
import Derived.Deep.QuietTactic
import Derived.BigQuiet
import Derived.Lib.Hide
import Derived.Lib.SmallJoins
import Derived.Outline
import Derived.OwnWalk
import Derived.Deep.CutBlock
import Derived.BigRegion
import Derived.StillTailTactics
import Derived.Laws.AppendOwnNone
import Derived.Maps.AppendAt
import Derived.Deep.RegionLaw
import Derived.Deep.RegionHeld3
import Derived.Lib.BufferRead
import Derived.Deep.AppendLies
import Derived.Lib.SliceRun
import Derived.Laws.CopyOwn
import Derived.Maps.OwnSet
import Derived.StringKeys
namespace Go.Proofs.Ythdgfchmglkpaaa
open Go.RowKit
open Go.Maps (Keyed IsMap Tidy)
theorem keyed : Keyed Try.prog 9 := Maps.string_keyed Try.underlying9
abbrev DN := DataW Unit
def keyL (k : ByteArray) : Lit := .string k.data.toList
theorem keyL_inj {a b : ByteArray} (h : keyL a = keyL b) : a = b := by
  unfold keyL at h
  cases h' : a
  cases h2 : b
  subst h' h2
  simp at h
  congr 1
theorem keyL_lit (k : ByteArray) : WideAt.IsKeyLit (keyL k) := trivial
theorem keyL_of (k : ByteArray) (h : k.size ≤ maxLen) : keyOf Try.prog 9 (.string k) = some (keyL k) := WideMaps.keyOf_string_mk Try.underlying9 h
def numI (i : Int) : DN := .lit (.int .i64 i)
theorem numI_of (i : Int) (h : -9223372036854775808 ≤ i ∧ i ≤ 9223372036854775807) : (plainElem (H := Unit) Try.prog 3) (.int .i64 i) = some (numI i, []) :=
  plainElem_int Try.underlying3 (WalkArith.wf_i64 h)
/-- Block m is a map of at most c entries; f tells what is noted. -/
def MapI (w : World) (m c : Nat) (f : ByteArray → Option Int) : Prop :=
  ∃ D : DN, w.ownsMap Try.prog 9 (plainElem (H := Unit) Try.prog 3) m c D ∧ ∀ k, Maps.has D (keyL k) = (f k).isSome ∧ D.atKey (keyL k) (numI 0) = numI ((f k).getD 0)
theorem MapI.lt {w : World} {m c : Nat} {f : ByteArray → Option Int} (h : MapI w m c f) : m < w.heap.size := by
  obtain ⟨D, h, _⟩ := h
  exact h.lt
theorem MapI.only {w w' : World} {m c : Nat} {f : ByteArray → Option Int} {O : List Nat} (h : MapI w m c f) (ho : Only O w w') (hm : m ∉ O) : MapI w' m c f := by
  obtain ⟨D, ⟨es, clock, hb, F, hs, rfl⟩, h2⟩ := h
  exact ⟨_, ⟨es, clock, ho.keep hb hm, F, hs, rfl⟩, h2⟩
theorem MapI.on {w w' : World} {m c : Nat} {f : ByteArray → Option Int} (h : MapI w m c f) (hb : Below w.heap.size w w') : MapI w' m c f := h.only (of_below hb) (by simp)
theorem MapI.ext {w : World} {m c : Nat} {f g : ByteArray → Option Int} (h : MapI w m c f) (hfg : ∀ k, f k = g k) : MapI w m c g := by
  obtain rfl : f = g := funext hfg
  exact h
theorem mapI_made {w : World} : MapI (w.alloc (.map #[] 0)) w.heap.size 0 (fun _ => none) :=
  ⟨.map [], World.ownsMap_made _ _ _ _, fun _ => ⟨rfl, rfl⟩⟩
theorem numI_inj {a b : Int} (h : numI a = numI b) : a = b := by
  unfold numI at h
  injection h with h
  injection h
theorem zero_int (w : World) : (zeroValue 3).run Try.prog w = .ok (.int .i64 0) w := by kernel_rfl
/-- A look, with 'ok'. -/
theorem MapI.look {w : World} {m c : Nat} {f : ByteArray → Option Int} (h : MapI w m c f) (k : ByteArray) (hk : k.size ≤ maxLen) :
    (Instr.lookup 74 (.map (some m)) (.string k) true).run Try.prog w = .ok (.tuple #[.int .i64 ((f k).getD 0), .bool (f k).isSome]) w := by
  obtain ⟨D, h1, h2⟩ := h
  obtain ⟨v, ps, hr, hv⟩ := h1.look_ok keyed Try.underlying74 (zero_int w) (zd := numI 0) (zp := []) (numI_of 0 (by omega)) (keyL_of k hk)
  obtain ⟨x, rfl, hx, _⟩ := plainElem_int_inv Try.underlying3 hv
  obtain ⟨k1, k2⟩ := h2 k
  have e := congrArg Prod.fst hx
  simp only at e
  rw [k2] at e
  rw [hr, k1, numI_inj e]
/-- .. without. -/
theorem MapI.get {w : World} {m c : Nat} {f : ByteArray → Option Int} (h : MapI w m c f) (k : ByteArray) (hk : k.size ≤ maxLen) :
    (Instr.lookup 74 (.map (some m)) (.string k) false).run Try.prog w = .ok (.int .i64 ((f k).getD 0)) w := by
  obtain ⟨D, h1, h2⟩ := h
  obtain ⟨x, hr, hx, _⟩ := h1.lookup_int keyed Try.underlying74 Try.underlying3 (zero_int w) (keyL_of k hk)
  have e : numI ((f k).getD 0) = numI x := by rw [← (h2 k).2]; exact hx
  rw [hr, numI_inj e]
/-- What is noted behind a note. -/
def noteI (f : ByteArray → Option Int) (k : ByteArray) (i : Int) : ByteArray → Option Int := fun x => if x = k then some i else f x
theorem MapI.put {w : World} {m c : Nat} {f : ByteArray → Option Int} (h : MapI w m c f) (k : ByteArray) (hk : k.size ≤ maxLen) (i : Int) (hi : -9223372036854775808 ≤ i ∧ i ≤ 9223372036854775807) (hc : c ≤ 4000000) :
    ∃ w', (Instr.mapUpdate 74 (.map (some m)) (.string k) (.int .i64 i)).run Try.prog w = .ok () w' ∧ MapI w' m (c + 1) (noteI f k i) ∧ Only [m] w w' := by
  obtain ⟨D, h1, h2⟩ := h
  obtain ⟨w', hr, k1, k2⟩ := h1.store keyed Try.underlying74 (by unfold maxLen; omega) (keyL_of k hk) (numI_of i hi)
  refine ⟨w', hr, ⟨D.put (keyL k) (numI i), k1, fun x => ?_⟩, by simpa using grown_only k2.grown⟩
  unfold noteI
  by_cases hx : x = k
  · subst hx
    rw [if_pos rfl]
    exact ⟨by rw [Maps.has_put_same h1.isMap (keyL_lit x)]; rfl, Maps.atKey_put_same h1.isMap (keyL_lit x) _ _⟩
  · have hne : keyL x ≠ keyL k := fun e => hx (keyL_inj e)
    rw [if_neg hx, Maps.has_put_other hne, Maps.atKey_put_other hne]
    exact h2 x
theorem run_mapI (n : Int) (w : World) : (Instr.makeMap 74 (some (.int .i64 n))).run Try.prog w = .ok (.map (some w.heap.size)) (w.alloc (.map #[] 0)) := by
  simp [Instr.makeMap, run_underlying Try.underlying74, asInt]
  rfl
/-- How many bytes the first keep of a name tells. -/
def fK (K : List Kp) : ByteArray → Option Int := fun k => (K.find? (fun p => decide (p.1 = k))).map (·.2)
theorem fK_next {K : List Kp} {i : Nat} {p : Kp} (h : K[i]? = some p) : (fK (K.take i) p.1 = none → ∀ k, fK (K.take (i + 1)) k = noteI (fK (K.take i)) p.1 p.2 k) ∧ (fK (K.take i) p.1 ≠ none → ∀ k, fK (K.take (i + 1)) k = fK (K.take i) k) := by
  have e : K.take (i + 1) = K.take i ++ [p] := by rw [List.take_add_one, h]; rfl
  have hs : ∀ k, fK (K.take (i + 1)) k = (fK (K.take i) k).or (if p.1 = k then some p.2 else none) := fun k => by
    unfold fK
    rw [e, List.find?_append]
    cases (K.take i).find? (fun q => decide (q.1 = k)) with
    | some g => rfl
    | none =>
      simp only [Option.map_none, Option.none_or, List.find?_cons, List.find?_nil]
      by_cases e : p.1 = k
      · simp [e]
      · simp [e]
  constructor
  · intro h0 k
    rw [hs]
    unfold noteI
    by_cases hk : k = p.1
    · rw [if_pos hk, hk, h0, if_pos rfl]; rfl
    · rw [if_neg hk, if_neg (fun e => hk e.symm), Option.or_none]
  · intro h0 k
    rw [hs]
    by_cases hk : p.1 = k
    · rw [← hk]
      cases hq : fK (K.take i) p.1 with
      | none => exact absurd hq h0
      | some j => rfl
    · rw [if_neg hk, Option.or_none]
set_option maxRecDepth 100000 in
set_option maxHeartbeats 4000000 in
theorem firsts_any {w : World} {E : Option Addr} {e : Nat} {K : List Kp} (hK : KeepsAt w E K) (hkl : K.length ≤ 1000000) (hb : ∀ p ∈ K, -9223372036854775808 ≤ p.2 ∧ p.2 ≤ 9223372036854775807) (hKn : ∀ p ∈ K, p.1.size ≤ maxLen) :
    Calls Try.prog 37 #[.slice E K.length e] w fun r w' => (∃ g c, r = .returned (.map (some g)) ∧ w.heap.size ≤ g ∧ MapI w' g c (fK K)) ∧ Below w.heap.size w w' := by
  have hKH := Lib.hid hK
  have hbH := Lib.hid hb
  have hnH := Lib.hid hKn
  have hlH := Lib.hid hkl
  have hget : Hid (∀ i, i < K.length → ∃ f, K[i]? = some f) := Lib.hid (fun i hi => ⟨_, List.getElem?_eq_getElem hi⟩)
  have hfin : Hid (fK (K.take K.length) = fK K) := Lib.hid (by rw [List.take_length])
  have hM0 : Hid (MapI (w.alloc (.map #[] 0)) w.heap.size 0 (fK (K.take 0))) := Lib.hid (mapI_made.ext (fun k => by unfold fK; rfl))
  have hB0 : Hid (Below w.heap.size w (w.alloc (.map #[] 0))) := Lib.hid ((Below.refl _ _).alloc (Nat.le_refl _) _)
  clear hK hb hKn hkl
  generalize K.length = n at *
  have hmm := run_mapI (n : Int)
  go_enter Try.func37, Try.ntmps37
  go_wp2_with fail
  go_loopw [5, 6, 7, 13] (fun s5 s6 s7 s13 wr => ∃ i : Nat, i ≤ n ∧ s13 = .int .i64 i ∧ Hid (∃ c, c ≤ i ∧ MapI wr w.heap.size c (fK (K.take i))) ∧ Hid (Below w.heap.size w wr)) (fun _ _ _ s13 _ => n - (intOf s13).toNat)
  case atStart => exact ⟨0, by omega, rfl, Lib.hid ⟨0, Nat.le_refl _, hM0.out⟩, hB0⟩
  case round =>
    clear hM0 hB0
    obtain ⟨i, hi, rfl, hM, hB⟩ := hrel
    by_cases hil : i < n
    · obtain ⟨p, hp⟩ := hget.out i hil
      obtain ⟨a, rfl, ha, y0, y1⟩ := hKH.out.on hB.out i p hp
      have hix := run_ixP a i n e hil
      have hpm := List.mem_of_getElem? hp
      have hpn := hnH.out p hpm
      have hpb := hbH.out p hpm
      obtain ⟨c, hc, hMc⟩ := hM.out
      obtain ⟨t1, t2⟩ := fK_next hp
      have hwk := wrap_small (x := (i : Int) + 1) (by have := hlH.out; omega)
      have dk : decide ((i : Int) < (n : Int)) = true := decide_eq_true (by omega)
      have dk2 : decide (i < n) = true := decide_eq_true hil
      have hilH := Lib.hid (show i < n ∧ c ≤ i from ⟨hil, hc⟩)
      have hX := heap_alloc_new wr (.cells #[.string p.1, .int .i64 p.2] 56)
      obtain ⟨z0, z1, -, -⟩ := two hX
      have hMX := hMc.on (w' := wr.alloc (.cells #[.string p.1, .int .i64 p.2] 56)) box_below
      have hBX := Lib.hid (hB.out.alloc hB.out.size (.cells #[.string p.1, .int .i64 p.2] 56))
      have hlk := hMX.look p.1 hpn
      cases hq : fK (K.take i) p.1 with
      | none =>
        rw [hq] at hlk
        obtain ⟨W7, hr7, hM7, ho7⟩ := hMX.put p.1 hpn p.2 hpb (by have := hlH.out; omega)
        have hM7H : Hid (∃ c, c ≤ i + 1 ∧ MapI W7 w.heap.size c (fK (K.take (i + 1)))) := Lib.hid ⟨c + 1, by omega, hM7.ext (fun k => (t1 hq k).symm)⟩
        have hB7 : Hid (Below w.heap.size w W7) := Lib.hid (hBX.out.trans (ho7.below hBX.out.size (fun k hk => by rw [List.mem_singleton.1 hk]; exact Nat.le_refl _)))
        simp only [Option.getD_none, Option.isSome_none] at hlk
        clear hp hpm hpn hpb hc hMc t1 t2 hX hMX hq hM7 ho7 hil hM hB hi
        go_wp2_with fail
        go_roundw
        case rel => exact ⟨i + 1, by have := hilH.out; omega, by go_num, hM7H, hB7⟩
        case measure => have := hilH.out; simp [intOf]; omega
      | some j =>
        rw [hq] at hlk
        have hM7H : Hid (∃ c, c ≤ i + 1 ∧ MapI (wr.alloc (.cells #[.string p.1, .int .i64 p.2] 56)) w.heap.size c (fK (K.take (i + 1)))) := Lib.hid ⟨c, by omega, hMX.ext (fun k => (t2 (by rw [hq]; exact fun e => by cases e) k).symm)⟩
        simp only [Option.getD_some, Option.isSome_some] at hlk
        clear hp hpm hpn hpb hc hMc t1 t2 hX hMX hq hil hM hB hi
        go_wp2_with fail
        go_roundw
        case rel => exact ⟨i + 1, by have := hilH.out; omega, by go_num, hM7H, hBX⟩
        case measure => have := hilH.out; simp [intOf]; omega
    · have hin : i = n := by omega
      subst hin
      have dk : decide ((i : Int) < (i : Int)) = false := decide_eq_false (by omega)
      have dk2 : decide (i < i) = false := decide_eq_false hil
      rw [hfin.out] at hM
      clear hil hi
      go_wp2_with fail
      go_ret
      obtain ⟨c, _, hMc⟩ := hM.out
      exact ⟨⟨_, c, rfl, Nat.le_refl _, hMc⟩, hB.out⟩
end Go.Proofs.Ythdgfchmglkpaaa
