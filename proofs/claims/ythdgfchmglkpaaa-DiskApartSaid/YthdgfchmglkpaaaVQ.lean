/-
  The program's Read, Safe and Names. Premises: the disk lies in memory, and is of the size that a call is asked for.
-/
import Derived.Test.YthdgfchmglkpaaaChecked
import Derived.Test.YthdgfchmglkpaaaMath
import Derived.Test.YthdgfchmglkpaaaA
import Derived.Test.YthdgfchmglkpaaaB
import Derived.Test.YthdgfchmglkpaaaC
import Derived.Test.YthdgfchmglkpaaaD
import Derived.Test.YthdgfchmglkpaaaE
import Derived.Test.YthdgfchmglkpaaaF
import Derived.Test.YthdgfchmglkpaaaJ
import Derived.Test.YthdgfchmglkpaaaK
import Derived.Test.YthdgfchmglkpaaaL
import Derived.Test.YthdgfchmglkpaaaM
import Derived.Test.YthdgfchmglkpaaaU
import Derived.Test.YthdgfchmglkpaaaS
import Derived.Test.YthdgfchmglkpaaaVA
import Derived.Test.YthdgfchmglkpaaaVB
import Derived.Test.YthdgfchmglkpaaaVS
import Derived.Test.YthdgfchmglkpaaaVF
import Derived.Test.YthdgfchmglkpaaaVK
import Derived.Test.YthdgfchmglkpaaaVD
import Derived.WalkKit
import Derived.WalkSpells
import Derived.WalkLawsBesides
import Derived.Deep.QuietTactic
import Derived.BigQuiet
import Derived.Lib.Hide
import Derived.Lib.SmallJoins
import Derived.Outline
import Derived.OwnWalk
import Derived.Deep.CutBlock
import Derived.BigRegion
import Derived.StillTailTactics
import Derived.Laws.AppendOwnNone
import Derived.Maps.AppendAt
import Derived.Deep.RegionLaw
import Derived.Deep.RegionHeld3
import Derived.Lib.BufferRead
import Derived.Deep.AppendLies
import Derived.Lib.SliceRun
import Derived.Laws.CopyOwn
namespace Go.Proofs.Ythdgfchmglkpaaa
open Go.RowKit
theorem idx_find {L : List Fl} {k : ByteArray} {r : Int} (h : IdxOf (fun f => f.1 = k) L r) : (r = -1 ∧ findF L k = none) ∨ ∃ (i : Nat) (f : Fl), r = (i : Int) ∧ L[i]? = some f ∧ findF L k = some (normF f) ∧ f.1 = k ∧ ∀ g ∈ L.take i, g.1 ≠ k := by
  rcases h with ⟨h1, h2⟩ | ⟨i, f, h1, h2, h3, h4⟩
  · refine Or.inl ⟨h1, ?_⟩
    refine find_none (fun hm => ?_)
    obtain ⟨g, hg, e⟩ := List.mem_map.1 hm
    exact h2 g hg e
  · refine Or.inr ⟨i, f, h1, h2, ?_, h3, h4⟩
    have e := find_at h2 (by
      cases hq : hasF (L.take i) f.1 with
      | false => rfl
      | true =>
        obtain ⟨g, hg, e⟩ := List.mem_map.1 ((has_iff _ _).1 hq)
        exact absurd (e.trans h3) (h4 g hg))
    rw [h3] at e
    exact e
theorem oneboxD (w : World) (A B : Option Addr) (n c m d : Nat) : ∃ W, W = w.alloc (.cells #[.slice A n c, .slice B m d] 25) ∧ W.heap[w.heap.size]? = some (.cells #[.slice A n c, .slice B m d] 25 (0, 0)) ∧ Below w.heap.size w W ∧ W.heap.size = w.heap.size + 1 := ⟨_, rfl, heap_alloc_new w _, box_below, by simp⟩
set_option maxRecDepth 100000 in
set_option maxHeartbeats 4000000 in
theorem pread_any {w : World} {v : Value} {D : Dk} (k : ByteArray) (h : DkAt w v D) (hl : Okd D) :
    Calls Try.prog 10 #[v, .string k] w fun r w' => r = .returned (.tuple #[.string (readF D k).1, .int .i64 (readF D k).2]) ∧ Below w.heap.size w w' := by
  obtain ⟨A, c, B, d, rfl, hA, hB⟩ := h
  obtain ⟨W, hW, k0, kb, ks⟩ := oneboxD w A B D.1.length c D.2.length d
  have hP := Lib.hid (place_any (c := c) k (hA.on kb) (by have := hl.fl; omega))
  have hAH := Lib.hid (hA.on kb)
  have kbH := Lib.hid kb
  have hlen : Hid (D.1.length ≤ 1000000) := Lib.hid hl.fl
  obtain ⟨x0, x1, -, -⟩ := two k0
  have k0H := Lib.hid k0
  have hrd : Hid (readF D k = match findF D.1 k with
    | none => (⟨#[]⟩, 8)
    | some x => (x.2.1, 0)) := Lib.hid rfl
  obtain ⟨R, hR⟩ : ∃ R, R = readF D k := ⟨_, rfl⟩
  rw [← hR] at hrd ⊢
  generalize D.1 = L at *
  generalize D.2.length = m at *
  clear hA hB kb hl k0 hR
  obtain ⟨n, hn⟩ : ∃ n, n = L.length := ⟨_, rfl⟩
  have hnH := Lib.hid hn
  rw [← hn] at hP x0 hW k0H ⊢
  clear hn
  go_enter Try.func10, Try.ntmps10
  go_upto_region 1 with fail
  rw [← hW]
  clear hW
  go_upto_region 2 with (go_at_call 31; (with_reducible refine (hP.out).mono ?_); rintro e w3 ⟨⟨r, rfl, hr⟩, hb3⟩)
  have hb3H := Lib.hid (kbH.out.trans (hb3.mono kbH.out.size))
  rcases idx_find hr with ⟨rfl, hf⟩ | ⟨i, f, rfl, hi, hf, -, -⟩
  · have hRe : Hid (R = (⟨#[]⟩, 8)) := Lib.hid (by rw [hrd.out, hf])
    clear hr hf x0 x1 hP
    go_wp2_with fail
    go_ret2
    rw [hRe.out]
    exact ⟨rfl, hb3H.out⟩
  · have hil : i < n := by have := (List.getElem?_eq_some_iff.1 hi).1; have := hnH.out; omega
    have hRe : Hid (R = (f.2.1, 0)) := Lib.hid (by rw [hrd.out, hf]; rfl)
    obtain ⟨a, rfl, ha, y0, y1, y2⟩ := hAH.out.on hb3 i f hi
    have hix := run_ixF a i n c hil
    obtain ⟨z0, z1, -, -⟩ := two ((hb3.block w.heap.size (some_lt k0H.out)).trans k0H.out)
    have d1 : decide ((i : Int) < 0) = false := decide_eq_false (by omega)
    clear hr hf hi hP hb3
    go_wp2_with fail
    go_ret2
    rw [hRe.out]
    exact ⟨rfl, hb3H.out⟩
set_option maxRecDepth 100000 in
set_option maxHeartbeats 4000000 in
theorem psafe_any {w : World} {v : Value} {D : Dk} (k : ByteArray) (h : DkAt w v D) (hl : Okd D) :
    Calls Try.prog 14 #[v, .string k] w fun r w' => r = .returned (.string (safeF D k)) ∧ Below w.heap.size w w' := by
  obtain ⟨A, c, B, d, rfl, hA, hB⟩ := h
  obtain ⟨W, hW, k0, kb, ks⟩ := oneboxD w A B D.1.length c D.2.length d
  have hP := Lib.hid (place_any (c := c) k (hA.on kb) (by have := hl.fl; omega))
  have hAH := Lib.hid (hA.on kb)
  have kbH := Lib.hid kb
  obtain ⟨x0, x1, -, -⟩ := two k0
  have k0H := Lib.hid k0
  have hrd : Hid (safeF D k = match findF D.1 k with
    | none => ⟨#[]⟩
    | some x => x.2.1.extract 0 x.2.2.toNat) := Lib.hid rfl
  obtain ⟨R, hR⟩ : ∃ R, R = safeF D k := ⟨_, rfl⟩
  rw [← hR] at hrd ⊢
  generalize D.1 = L at *
  generalize D.2.length = m at *
  clear hA hB kb hl k0 hR
  obtain ⟨n, hn⟩ : ∃ n, n = L.length := ⟨_, rfl⟩
  have hnH := Lib.hid hn
  rw [← hn] at hP x0 hW k0H ⊢
  clear hn
  go_enter Try.func14, Try.ntmps14
  go_upto_region 1 with fail
  rw [← hW]
  clear hW
  go_upto_region 2 with (go_at_call 31; (with_reducible refine (hP.out).mono ?_); rintro e w3 ⟨⟨r, rfl, hr⟩, hb3⟩)
  have hb3H := Lib.hid (kbH.out.trans (hb3.mono kbH.out.size))
  rcases idx_find hr with ⟨rfl, hf⟩ | ⟨i, f, rfl, hi, hf, -, -⟩
  · have hRe : Hid (R = ⟨#[]⟩) := Lib.hid (by rw [hrd.out, hf])
    clear hr hf x0 x1 hP
    go_wp2_with fail
    go_ret
    rw [hRe.out]
    exact ⟨rfl, hb3H.out⟩
  · have hil : i < n := by have := (List.getElem?_eq_some_iff.1 hi).1; have := hnH.out; omega
    have hbt := betw_le (n := f.2.2) (m := (f.2.1.size : Int)) (by omega)
    obtain ⟨q, hq⟩ : ∃ q : Nat, betw f.2.2 (f.2.1.size : Int) = (q : Int) := ⟨(betw f.2.2 (f.2.1.size : Int)).toNat, by omega⟩
    have hRe : Hid (R = f.2.1.extract 0 q) := Lib.hid (by
      rw [hrd.out, hf]
      show f.2.1.extract 0 (betw f.2.2 (f.2.1.size : Int)).toNat = _
      rw [hq]
      rfl)
    obtain ⟨a, rfl, ha, y0, y1, y2⟩ := hAH.out.on hb3 i f hi
    have hix := run_ixF a i n c hil
    obtain ⟨z0, z1, -, -⟩ := two ((hb3.block w.heap.size (some_lt k0H.out)).trans k0H.out)
    have d1 : decide ((i : Int) < 0) = false := decide_eq_false (by omega)
    have hC : Hid (∀ W, Calls Try.prog 36 #[flV f] W fun e w' => e = .returned (.int .i64 (q : Int)) ∧ Below W.heap.size W w') := Lib.hid (fun W => by rw [← hq]; exact psafe1_any f W)
    have zq0 : (0 : Int) ≤ (q : Int) := by omega
    have zq1 : (q : Int) ≤ (f.2.1.size : Int) := by omega
    clear hr hf hi hP hb3 hbt hq
    go_upto_region 5 with fail
    have hX := heap_alloc_new w3 (.cells #[.string f.1, .string f.2.1, .int .i64 f.2.2] 39)
    have hbX : Below w.heap.size w (w3.alloc (.cells #[.string f.1, .string f.2.1, .int .i64 f.2.2] 39)) := hb3H.out.alloc hb3H.out.size _
    generalize w3.heap.size = gf at hX ⊢
    generalize (w3.alloc (.cells #[.string f.1, .string f.2.1, .int .i64 f.2.2] 39)) = X at hX hbX ⊢
    have hMk : Hid (∀ Y, Below X.heap.size X Y → Below X.heap.size X Y ∧ Y.cell? ⟨gf, 0, none⟩ = some (.string f.1) ∧ Y.cell? ⟨gf, 1, none⟩ = some (.string f.2.1) ∧ Y.cell? ⟨gf, 2, none⟩ = some (.int .i64 f.2.2)) := Lib.hid (fun Y hY => by
      obtain ⟨a0, a1, a2, -, -, -⟩ := three ((hY.block gf (some_lt hX)).trans hX)
      exact ⟨hY, a0, a1, a2⟩)
    have hK0 := Lib.hid (Below.drew (Below.refl X.heap.size X))
    have hOn : Hid (∀ a c, Below a.heap.size a c → Below X.heap.size X a → Below X.heap.size X c) := Lib.hid fun a c k h => h.trans (k.mono h.size)
    have hbXH := Lib.hid hbX
    clear hX hbX y0 y1 y2 z0 z1 x0 x1
    go_region_held3 (fun w' => Below X.heap.size X w' ∧ w'.cell? ⟨gf, 0, none⟩ = some (.string f.1) ∧ w'.cell? ⟨gf, 1, none⟩ = some (.string f.2.1) ∧ w'.cell? ⟨gf, 2, none⟩ = some (.int .i64 f.2.2))
      (first | exact hMk.out _ hK0.out | exact hMk.out _ (hOn.out _ _ (by assumption) (And.left (by assumption))) | assumption)
      (first | (go_at_call 36; ((with_reducible refine (hC.out _).mono ?_); rintro e' u1 ⟨rfl, bb1⟩)))
    rename_i hHeld
    have hbu := Lib.hid (hbXH.out.trans (hHeld.1.mono hbXH.out.size))
    clear hHeld hMk hK0 hOn hC bb1
    go_wp2_with fail
    go_ret
    rw [hRe.out]
    exact ⟨rfl, hbu.out⟩
end Go.Proofs.Ythdgfchmglkpaaa
