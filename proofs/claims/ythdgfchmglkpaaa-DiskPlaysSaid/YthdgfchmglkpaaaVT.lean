/-
  The program's Names and Same. Premises: the disks lie in memory, and are of the size that a call is asked for.
-/
import Derived.Test.YthdgfchmglkpaaaChecked
import Derived.Test.YthdgfchmglkpaaaA
import Derived.Test.YthdgfchmglkpaaaB
import Derived.Test.YthdgfchmglkpaaaC
import Derived.Test.YthdgfchmglkpaaaD
import Derived.Test.YthdgfchmglkpaaaE
import Derived.Test.YthdgfchmglkpaaaF
import Derived.Test.YthdgfchmglkpaaaJ
import Derived.Test.YthdgfchmglkpaaaK
import Derived.Test.YthdgfchmglkpaaaL
import Derived.Test.YthdgfchmglkpaaaM
import Derived.Test.YthdgfchmglkpaaaU
import Derived.Test.YthdgfchmglkpaaaS
import Derived.Test.YthdgfchmglkpaaaVS
import Derived.Test.YthdgfchmglkpaaaVF
import Derived.Test.YthdgfchmglkpaaaVK
import Derived.Test.YthdgfchmglkpaaaVO
import Derived.Test.YthdgfchmglkpaaaVD
import Derived.Test.YthdgfchmglkpaaaVP
import Derived.Test.YthdgfchmglkpaaaVQ
import Derived.WalkKit
import Derived.WalkSpells
import Derived.WalkLawsBesides
import Derived.Deep.QuietTactic
import Derived.BigQuiet
import Derived.Lib.Hide
import Derived.Lib.SmallJoins
import Derived.Outline
import Derived.OwnWalk
import Derived.Deep.CutBlock
import Derived.BigRegion
import Derived.StillTailTactics
import Derived.Laws.AppendOwnNone
import Derived.Maps.AppendAt
import Derived.Deep.RegionLaw
import Derived.Deep.RegionHeld3
import Derived.Lib.BufferRead
import Derived.Deep.AppendLies
import Derived.Lib.SliceRun
import Derived.Laws.CopyOwn
namespace Go.Proofs.Ythdgfchmglkpaaa
open Go.RowKit
/-- A row of texts of one's own. -/
def RowX (w : World) (base : Nat) (v : Value) (ss : List ByteArray) : Prop := w.ownsRow base 9 1 v ss.length (ss.map Value.string)
theorem info_str : (Try.prog.info? 9).map (fun i => (i.zero, i.size, i.bytes)) = some (some (.string ⟨#[]⟩), 1, 16) := by kernel_rfl
theorem RowX.on {w w' : World} {base : Nat} {v : Value} {ss : List ByteArray} (h : RowX w base v ss) (hb : Below w.heap.size w w') : RowX w' base v ss :=
  World.ownsRow.kept h (row := some w.heap.size) (grown_on hb _) (Or.inr fun e => by have := (World.ownsRow.lt h _ e).2; omega)
theorem RowX.strs {w : World} {base : Nat} {v : Value} {ss : List ByteArray} (h : RowX w base v ss) : ∃ A c, v = .slice A ss.length c ∧ StrsAt w A ss := by
  have h' : w.ownsRow base 9 1 v ss.length (ss.map Value.string) := h
  rcases h'.2 with ⟨hv, h0⟩ | ⟨g, cap, cur, hv, _⟩
  · exact ⟨none, 0, by rw [hv, h0], fun i f hf => by rw [List.eq_nil_of_length_eq_zero h0] at hf; simp at hf⟩
  · have hob : v.ownBlock = some g := by rw [hv]; rfl
    refine ⟨some ⟨g, 0, none⟩, cap, hv, fun i f hf => ⟨_, rfl, (h'.lt g hob).2, ?_⟩⟩
    rw [add_zero]
    have := h'.cells hob i (.string f) (by rw [List.getElem?_map, hf]; rfl)
    rwa [add_zero] at this
theorem RowX.snoc {w : World} {base : Nat} {v : Value} {ss : List ByteArray} {x : ByteArray} (h : w.ownsRow base 9 1 v (ss.length + 1) (ss.map Value.string ++ [.string x])) : RowX w base v (ss ++ [x]) := by
  unfold RowX
  rw [List.length_append, List.map_append]
  exact h
theorem one_str (w : World) (x : ByteArray) : ∀ (j : Nat) (u : Value), [Value.string x][j]? = some u → (w.alloc (.cells #[.string x] 9)).cell? ((⟨w.heap.size, 0, none⟩ : Addr).add j) = some u := fun j u hj => by
  rw [add_zero, Lib.cell_of_heap (heap_alloc_new w _) j]
  simpa using hj
set_option maxRecDepth 100000 in
set_option maxHeartbeats 4000000 in
theorem pnames_any {w : World} {v : Value} {D : Dk} (h : DkAt w v D) (hl : Okd D) :
    Calls Try.prog 15 #[v] w fun r w' => (∃ ns A c, r = .returned (.slice A ns.length c) ∧ StrsAt w' A ns ∧ NamesOf D.1 ns) ∧ Below w.heap.size w w' := by
  obtain ⟨A, c, B, d, rfl, hA, hB⟩ := h
  obtain ⟨W, hW, k0, kb, ks⟩ := oneboxD w A B D.1.length c D.2.length d
  have hC := Lib.hid (counting_any (B := B) (c := c) (m := D.2.length) (d := d) (hA.on kb) hl.fl)
  have kbH := Lib.hid kb
  obtain ⟨x0, x1, -, -⟩ := two k0
  obtain ⟨i0, hi, hz0, hz1, hz2⟩ := info_partsS info_str
  have hlen : Hid (∀ N, CountOf D.1 N → N.length ≤ 1000000) := Lib.hid (fun N hN => by
    have h1 := hN.names.len
    have h2 := files_len D.1
    have h3 := hl.fl
    rw [List.length_map] at h1
    omega)
  generalize D.1 = L at *
  generalize D.2.length = m at *
  clear hA hB kb hl k0
  generalize L.length = n0 at *
  go_enter Try.func15, Try.ntmps15
  go_upto_region 1 with fail
  rw [← hW]
  clear hW
  go_upto_region 2 with (go_at_call 34; (with_reducible refine (hC.out).mono ?_); rintro e w3 ⟨⟨v3, N, rfl, hr3, hN⟩, hb3⟩)
  have hb3H := Lib.hid (kbH.out.trans (hb3.mono kbH.out.size))
  obtain ⟨A3, c3, rfl, hF3⟩ := hr3.files
  obtain ⟨n, hn⟩ : ∃ n, n = N.length := ⟨_, rfl⟩
  have hnn : Hid (n = N.length ∧ n ≤ 1000000) := Lib.hid ⟨hn, by rw [hn]; exact hlen.out N hN⟩
  rw [← hn]
  have hFH := Lib.hid hF3
  have hNH := Lib.hid hN
  have hget : Hid (∀ i, i < n → ∃ f, N[i]? = some f ∧ (N.take (i + 1)).map (·.1) = (N.take i).map (·.1) ++ [f.1]) := Lib.hid (fun i hi => by
    have e : N[i]? = some N[i] := List.getElem?_eq_getElem (by omega)
    exact ⟨N[i], e, by rw [List.take_add_one, e, List.map_append]; rfl⟩)
  have htl : Hid (∀ i, i ≤ n → ((N.take i).map (·.1)).length = i) := Lib.hid (fun i hi => by rw [List.length_map, List.length_take]; omega)
  clear hC hr3 hb3 x0 x1 hF3 hN hn hlen
  go_wp2_with (at_make; refine wpList_make_own _ rfl _ _ 44 rfl w3.heap.size 9 i0 (.string ⟨#[]⟩) 1 Try.underlying44 hi hz0 hz1 _ _ _ n rfl rfl rfl (by rw [hz2]; have := hnn.out; omega) (by have := hnn.out; unfold maxLen; omega) (Nat.le_refl _) ?_; intro w4 hown hgrow; have hownH : Hid (RowX w4 w3.heap.size (.slice (some ⟨w3.heap.size, 0, none⟩) 0 n) ((N.take 0).map (·.1))) := Lib.hid hown; have hO4 : Hid (Below w3.heap.size w3 w4) := Lib.hid (by have := grown_only hgrow; exact this.below (Nat.le_refl _) (by simp)); clear hown hgrow)
  go_loopw [4, 6, 14] (fun s4 s6 s14 wr => ∃ (i : Nat) (v : Value), i ≤ n ∧ v = s4 ∧ s14 = .int .i64 i ∧ Hid (RowX wr w3.heap.size v ((N.take i).map (·.1))) ∧ Hid (Below w3.heap.size w3 wr)) (fun _ _ s14 _ => n - (intOf s14).toNat)
  case atStart => exact ⟨0, _, by omega, rfl, rfl, hownH, hO4⟩
  case round =>
    clear hownH hO4
    obtain ⟨i, v, hi2, rfl, rfl, hR, hB⟩ := hrel
    obtain ⟨n1, n2⟩ := hnn.out
    by_cases hil : i < n
    · obtain ⟨f, hf, he⟩ := hget.out i hil
      obtain ⟨a, rfl, ha, y0, y1, y2⟩ := hFH.out.on hB.out i f hf
      have hix := run_ixF a i n c3 hil
      have hl1 := htl.out i (by omega)
      have hwk := wrap_small (x := (i : Int) + 1) (by omega)
      have dk : decide ((i : Int) < (n : Int)) = true := decide_eq_true (by omega)
      have dk2 : decide (i < n) = true := decide_eq_true hil
      have hilH := Lib.hid hil
      have heH := Lib.hid he
      have hX := heap_alloc_new wr (.cells #[.string f.1, .string f.2.1, .int .i64 f.2.2] 39)
      obtain ⟨z0, z1, z2, -, -, -⟩ := three hX
      have hRX := Lib.hid ((hR.out.on (w' := wr.alloc (.cells #[.string f.1, .string f.2.1, .int .i64 f.2.2] 39)) box_below).on (w' := (wr.alloc (.cells #[.string f.1, .string f.2.1, .int .i64 f.2.2] 39)).alloc (.cells #[.string f.1] 9)) box_below)
      have hBX := Lib.hid ((hB.out.alloc hB.out.size (.cells #[.string f.1, .string f.2.1, .int .i64 f.2.2] 39)).alloc (hB.out.alloc hB.out.size _).size (.cells #[.string f.1] 9))
      obtain ⟨As, cs, rfl, -⟩ := hR.out.strs
      clear hf hX hil hi2 hR hB he n1 n2
      rw [hl1]
      go_upto_region 6 with fail
      generalize hVe : (wr.alloc (.cells #[.string f.1, .string f.2.1, .int .i64 f.2.2] 39)) = V at hRX hBX z0 z1 z2 ⊢
      have hown : Hid ((V.alloc (.cells #[.string f.1] 9)).ownsRow w3.heap.size 9 1 (.slice As i cs) i (((N.take i).map (·.1)).map Value.string)) := Lib.hid (by have := hRX.out; unfold RowX at this; rw [hl1] at this; exact this)
      have hVs : Hid (w3.heap.size ≤ (V.alloc (.cells #[.string f.1] 9)).heap.size) := Lib.hid hBX.out.size
      clear hVe
      go_wp2_with (at_builtin; refine wpList_append_own_at _ rfl (.tmp 18) (.tmp 21) 44 rfl w3.heap.size 9 i0 (.string ⟨#[]⟩) 1 16 Try.underlying44 hi hz0 hz1 hz2 rfl (by omega) (.slice As i cs) i (((N.take i).map (·.1)).map Value.string) rfl hown.out ⟨V.heap.size, 0, none⟩ 1 1 [.string f.1] rfl rfl (one_str V f.1) (by simp [Value.oneCell']) (by have := hnn.out; have := hilH.out; unfold maxLen; omega) (by have := hnn.out; have := hilH.out; omega) hVs.out ?_; intro v7 w7 hown7 hg7 _ _; have hown7H := Lib.hid hown7; have hg7H := Lib.hid hg7; clear hown7 hg7)
      have hR7 : Hid (RowX w7 w3.heap.size v7 ((N.take (i + 1)).map (·.1))) := Lib.hid (by
        rw [heH.out]
        refine RowX.snoc ?_
        rw [hl1]
        exact hown7H.out)
      have hB7 : Hid (Below w3.heap.size w3 w7) := Lib.hid (hBX.out.grown hg7H.out hVs.out (fun k hk => (World.ownsRow.lt hown.out k hk).1))
      clear hown7H hg7H hown hRX hBX hVs z0 z1 z2 y0 y1 y2
      go_roundw
      case rel => exact ⟨i + 1, _, by have := hilH.out; omega, rfl, by go_num, hR7, hB7⟩
      case measure => have := hilH.out; simp [intOf]; omega
    · have hin : i = n := by omega
      have hfin : Hid (RowX wr w3.heap.size v (N.map (·.1))) := Lib.hid (by
        have := hR.out
        rw [hin, n1, List.take_length] at this
        exact this)
      have hln : Hid ((N.map (·.1)).length = n) := Lib.hid (by rw [List.length_map, n1])
      subst hin
      have dk : decide ((i : Int) < (i : Int)) = false := decide_eq_false (by omega)
      have dk2 : decide (i < i) = false := decide_eq_false hil
      clear hil n1 n2
      go_wp2_with fail
      go_ret
      obtain ⟨As, cs, rfl, hst⟩ := hfin.out.strs
      exact ⟨⟨_, As, cs, rfl, hst, hNH.out.names⟩, hb3H.out.trans (hB.out.mono hb3H.out.size)⟩
end Go.Proofs.Ythdgfchmglkpaaa
