/-
  The program's without, Remove. Premises: the disk lies in memory, its rows have lengths that Go's own rows have.
-/
import Derived.Test.YthdgfchmglkpaaaChecked
import Derived.Test.YthdgfchmglkpaaaMath
import Derived.Test.YthdgfchmglkpaaaA
import Derived.Test.YthdgfchmglkpaaaB
import Derived.Test.YthdgfchmglkpaaaC
import Derived.Test.YthdgfchmglkpaaaD
import Derived.Test.YthdgfchmglkpaaaE
import Derived.Test.YthdgfchmglkpaaaF
import Derived.Test.YthdgfchmglkpaaaG
import Derived.Test.YthdgfchmglkpaaaI
import Derived.Test.YthdgfchmglkpaaaJ
import Derived.Test.YthdgfchmglkpaaaK
import Derived.Test.YthdgfchmglkpaaaL
import Derived.Test.YthdgfchmglkpaaaM
import Derived.Test.YthdgfchmglkpaaaU
import Derived.Test.YthdgfchmglkpaaaR
import Derived.Test.YthdgfchmglkpaaaS
import Derived.Test.YthdgfchmglkpaaaVC
import Derived.Test.YthdgfchmglkpaaaVS
import Derived.Test.YthdgfchmglkpaaaVF
import Derived.Test.YthdgfchmglkpaaaVD
import Derived.Test.YthdgfchmglkpaaaWJ
import Derived.Test.YthdgfchmglkpaaaWA
import Derived.WalkKit
import Derived.WalkSpells
import Derived.WalkLawsBesides
import Derived.Deep.QuietTactic
import Derived.BigQuiet
import Derived.Lib.Hide
import Derived.Lib.SmallJoins
import Derived.Outline
import Derived.OwnWalk
import Derived.Deep.CutBlock
import Derived.BigRegion
import Derived.StillTailTactics
import Derived.Laws.AppendOwnNone
import Derived.Maps.AppendAt
import Derived.Deep.RegionLaw
import Derived.Deep.RegionHeld3
import Derived.Lib.BufferRead
import Derived.Deep.AppendLies
import Derived.Lib.SliceRun
import Derived.Laws.CopyOwn
namespace Go.Proofs.Ythdgfchmglkpaaa
open Go.RowKit
theorem delfR_any {w w0 : World} {base b : Nat} {v : Value} {M : List Fl} (ks : List ByteArray) (hb : NmsAt w0 b ks) (h0 : Below w0.heap.size w0 w) (hbl : w0.heap.size ≤ base) (h : RowF w base v M) (few : M.length ≤ 1000000) :
    Calls Try.prog 58 #[v, .func (.func 59) #[] #[.pointer (some ⟨b, 0, none⟩)]] w fun e w' => (∃ v', e = .returned v' ∧ RowF w' base v' (outsF ks M)) ∧ Only v.ownBlock.toList w w' := by
  rcases h.form with ⟨rfl, rfl⟩ | ⟨g, cap, rfl, h1, h2, h3, h4⟩
  · have hI := Lib.hid (index_without_any (A := none) (c := 0) (L := []) ks b (hb.on h0) (fun i f hf => by simp at hf) (by simp))
    rw [List.length_nil] at hI
    have hH := Lib.hid h
    clear few h hb
    go_enter Try.func58, Try.ntmps58
    go_upto_region 2 with (go_at_call 47; (with_reducible refine (hI.out).mono ?_); rintro e w1 ⟨⟨r, rfl, hr⟩, hb1⟩)
    have hb1H := Lib.hid hb1
    clear hb1 hI
    rcases hr with ⟨rfl, -⟩ | ⟨i, f, rfl, hi, -⟩
    · go_wp2_with fail
      go_ret
      exact ⟨⟨_, rfl, hH.out.on hb1H.out⟩, (Only.refl _ w).trans (of_below hb1H.out) (by simp)⟩
    · simp at hi
  · refine (delf_any ks (fun w' ho => hb.on (h0.trans (ho.below h0.size (fun q hq => by rw [List.mem_singleton.1 hq]; omega)))) h4 rfl few).mono ?_
    rintro e w' ⟨rfl, hr, ho⟩
    exact ⟨⟨_, rfl, hr.row h1 h3⟩, by simpa [Value.ownBlock] using ho⟩
set_option maxRecDepth 100000 in
set_option maxHeartbeats 4000000 in
theorem pwithout_any {w : World} {A B : Option Addr} {c d : Nat} {L : List Fl} (ks : List ByteArray) (h : FilesAt w A L) (hl : L.length ≤ 1000000) (hs : StrsAt w B ks) (hk : ks.length ≤ 1000000) :
    Calls Try.prog 42 #[.slice A L.length c, .slice B ks.length d] w fun e w' => (∃ A' c', e = .returned (.slice A' (outsF ks L).length c') ∧ RowF w' w.heap.size (.slice A' (outsF ks L).length c') (outsF ks L)) ∧ Below w.heap.size w w' := by
  obtain ⟨W, hW, k0, kb, ks0⟩ := oneanyW w (.cells #[.slice B ks.length d] 44)
  have hCl := Lib.hid (clone_fl (c := c) (h.on kb) hl)
  have hN : NmsAt W w.heap.size ks := ⟨hk, B, d, Lib.cell_of_heap k0 0, hs.on kb⟩
  have hNH := Lib.hid hN
  have hkb := Lib.hid kb
  have hlH := Lib.hid hl
  have hmf : ∀ (fn : Fn) (first cap : Array Value) (w : World), (Instr.makeFunc fn first cap).run Try.prog w = .ok (.func fn first cap) w := fun _ _ _ _ => rfl
  clear h hl kb k0 hs hN
  go_enter Try.func42, Try.ntmps42
  go_upto_region 1 with fail
  rw [← hW]
  clear hW
  go_wp2_with (first
    | (go_at_call 49; (with_reducible refine (hCl.out).mono ?_); rintro e w1 ⟨⟨v1, rfl, hr1⟩, hb1⟩; have hD := Lib.hid (delfR_any ks hNH.out hb1 (Nat.le_refl _) hr1 hlH.out))
    | (go_at_call 58; (with_reducible refine (hD.out).mono ?_); rintro e w2 ⟨⟨v2, rfl, hr2⟩, ho2⟩))
  go_ret
  obtain ⟨A', c', rfl, -⟩ := hr2.files
  exact ⟨⟨A', c', rfl, hr2.base hkb.out.size⟩, (hkb.out.trans (hb1.mono hkb.out.size)).trans (ho2.below (Nat.le_trans hkb.out.size hb1.size) (fun q hq => Nat.le_trans hkb.out.size (World.ownsRow.lt hr1 q (by simpa using hq)).1))⟩
theorem strs_one {X : World} {b : Nat} {k : ByteArray} {t : TypeId} (h : X.heap[b]? = some (.cells #[.string k] t)) : StrsAt X (some ⟨b, 0, none⟩) [k] := fun i x hi => by
  match i with
  | 0 =>
    simp at hi
    subst hi
    refine ⟨_, rfl, some_lt h, ?_⟩
    rw [add_zero]
    exact Lib.cell_of_heap h 0
  | i + 1 => simp at hi
theorem find_out (L : List Fl) (t k : ByteArray) : findF (outF t L) k = if t = k then none else findF L k := by
  unfold findF outF
  rw [List.find?_filter]
  by_cases e : t = k
  · rw [if_pos e]
    have : List.find? (fun a => decide (decide (a.1 ≠ t) = true ∧ decide (a.1 = k) = true)) L = none := List.find?_eq_none.2 (fun a _ => by simp [e])
    rw [this]
    rfl
  · rw [if_neg e]
    congr 1
    congr 1
    funext a
    by_cases h : a.1 = k
    · simp [h]
      exact fun h2 => e h2.symm
    · simp [h]
theorem out_sz {L : List Fl} {m : Nat} {t : ByteArray} (h : ∀ f ∈ L, f.2.1.size ≤ m) : ∀ f ∈ outF t L, f.2.1.size ≤ m := fun f hf => h f (List.mem_filter.1 hf).1
set_option maxRecDepth 100000 in
set_option maxHeartbeats 4000000 in
theorem premove_any {w : World} {v : Value} {D : Dk} (k : ByteArray) (h : DkAt w v D) (hl : Okd D) :
    Calls Try.prog 22 #[v, .string k] w fun r w' => (∃ v', r = .returned v' ∧ To w' v' D (removeF D.1 k, D.2) 0) ∧ Below w.heap.size w w' := by
  obtain ⟨A, c, B, d, rfl, hA, hB⟩ := h
  obtain ⟨W2, hW2, k1, k2, kb, ks⟩ := two_boxes w (.cells #[.slice A D.1.length c, .slice B D.2.length d] 25) (.cells #[.slice none 0 0, .slice none 0 0] 25)
  have hcf : Hid (∀ X b, Below W2.heap.size W2 X → X.heap[b]? = some (.cells #[.string k] 9) → Calls Try.prog 42 #[.slice A D.1.length c, .slice (some ⟨b, 0, none⟩) 1 1] X fun e w' => (∃ A' c', e = .returned (.slice A' (outF k D.1).length c') ∧ RowF w' W2.heap.size (.slice A' (outF k D.1).length c') (outF k D.1)) ∧ Below X.heap.size X w') := Lib.hid (fun X b hX hb => by
    have := pwithout_any (c := c) (d := 1) [k] (hA.on (kb.trans (hX.mono kb.size))) hl.fl (strs_one hb) (by simp)
    rw [outs_one] at this
    exact this.mono (by rintro e w' ⟨⟨A', c', rfl, hr⟩, hb⟩; exact ⟨⟨A', c', rfl, hr.base hX.size⟩, hb⟩))
  have hct : Hid (∀ X, Below W2.heap.size W2 X → Calls Try.prog 44 #[.slice B D.2.length d] X fun e w' => (∃ A' c', e = .returned (.slice A' D.2.length c') ∧ RowT w' W2.heap.size (.slice A' D.2.length c') D.2) ∧ Below X.heap.size X w') := Lib.hid (fun X hX => (clone_ft (hB.on (kb.trans (hX.mono kb.size))) hl.ft).mono (by rintro e w' ⟨⟨v, rfl, hr⟩, hb⟩; obtain ⟨A', c', rfl, -⟩ := hr.faults; exact ⟨⟨A', c', rfl, hr.base hX.size⟩, hb⟩))
  have hTo : Hid (∀ w' v', DkOwn w' w.heap.size v' (outF k D.1, D.2) → To w' v' D (removeF D.1 k, D.2) 0) := Lib.hid (fun w' v' h' => ⟨_, h'.at, ⟨fun q => by rw [find_out, find_remove], rfl⟩, fun n m hn => ⟨Nat.le_succ_of_le (Nat.le_trans (out_len _ _) hn.fl), Nat.le_succ_of_le hn.ft, out_sz hn.sz⟩⟩)
  have kbH := Lib.hid kb
  have k1H := Lib.hid k1
  have k2H := Lib.hid k2
  clear hA hB kb k1 k2 hl
  generalize outF k D.1 = N at hcf hTo
  go_enter Try.func22, Try.ntmps22
  go_upto_region 1 with fail
  rw [← hW2]
  clear hW2
  have hMk : Hid (∀ X, Below W2.heap.size W2 X → Below W2.heap.size W2 X ∧ X.cell? ⟨w.heap.size, 0, none⟩ = some (.slice A D.1.length c) ∧ X.cell? ⟨w.heap.size, 1, none⟩ = some (.slice B D.2.length d) ∧ X.cell? ⟨w.heap.size + 1, 0, none⟩ = some (.slice none 0 0) ∧ X.cell? ⟨w.heap.size + 1, 1, none⟩ = some (.slice none 0 0) ∧ X.frozen? ⟨w.heap.size + 1, 0, none⟩ = false ∧ X.frozen? ⟨w.heap.size + 1, 1, none⟩ = false) := Lib.hid (fun X hX => by
    obtain ⟨q0, q1, -, -⟩ := two ((hX.block w.heap.size (some_lt k1H.out)).trans k1H.out)
    obtain ⟨q2, q3, q4, q5⟩ := two ((hX.block (w.heap.size + 1) (some_lt k2H.out)).trans k2H.out)
    exact ⟨hX, q0, q1, q2, q3, q4, q5⟩)
  have hK0 := Lib.hid (Below.drew (Below.refl W2.heap.size W2))
  have hOn : Hid (∀ a c, Below a.heap.size a c → Below W2.heap.size W2 a → Below W2.heap.size W2 c) := Lib.hid fun a c k h => h.trans (k.mono h.size)
  have hOA : Hid (∀ a, Below W2.heap.size W2 a → Below W2.heap.size W2 (a.alloc (.cells #[.string k] 9))) := Lib.hid fun a h => h.trans (box_below.mono h.size)
  have hK1 := Lib.hid (Below.drew (hOA.out _ (Below.refl W2.heap.size W2)))
  have hk1 : Hid ((W2.alloc (.cells #[.string k] 9)).drew.heap[w.heap.size + 2]? = some (.cells #[.string k] 9)) := Lib.hid (by rw [← ks]; exact heap_alloc_new W2 _)
  obtain ⟨-, p0, p1, p2, p3, p4, p5⟩ := hMk.out _ hK0.out
  obtain ⟨-, q0, q1, q2, q3, q4, q5⟩ := hMk.out _ hK1.out
  go_region_law (go_simp; first
    | (go_at_call 42; (with_reducible refine (hcf.out _ _ (by first | assumption | exact hK1.out) (by first | exact hk1.out | exact z2 | exact heap_alloc_new _ _)).mono ?_); rintro e' u1 ⟨⟨A1, c1, rfl, r1⟩, bb1⟩; have n1 := hOn.out _ _ bb1 (by first | assumption | exact hK1.out); obtain ⟨-, a0, a1, a2, a3, a4, a5⟩ := hMk.out _ n1)
    | (go_at_call 44; (with_reducible refine (hct.out _ (by first | assumption | exact hK0.out | exact hK1.out)).mono ?_); rintro e' u2 ⟨⟨A2, c2, rfl, r2⟩, bb2⟩; have n2 := hOn.out _ _ bb2 (by first | assumption | exact hK0.out | exact hK1.out); have n3 := hOA.out _ n2; (try have z2 := (bb2.block _ (some_lt hk1.out)).trans hk1.out); obtain ⟨-, b0, b1, b2, b3, b4, b5⟩ := hMk.out _ n2; obtain ⟨-, d0, d1, d2, d3, d4, d5⟩ := hMk.out _ n3))
  all_goals go_wp2_with fail
  all_goals first
    | (obtain ⟨e1, e2, q0, q1⟩ := own_end kbH.out n2 (by omega) k2H.out (r1.on bb2) r2; exact bodyPost_ret (v := .agg #[.slice A1 N.length c1, .slice A2 D.2.length c2]) (by simp [results, Try.results22, go_sem, q0, q1]) rfl ⟨⟨_, rfl, hTo.out _ _ e1⟩, e2⟩)
    | (obtain ⟨e1, e2, q0, q1⟩ := own_end kbH.out n1 (by omega) k2H.out r1 (r2.on bb1); exact bodyPost_ret (v := .agg #[.slice A1 N.length c1, .slice A2 D.2.length c2]) (by simp [results, Try.results22, go_sem, q0, q1]) rfl ⟨⟨_, rfl, hTo.out _ _ e1⟩, e2⟩)
    | (obtain ⟨e1, e2, q0, q1⟩ := own_end kbH.out n1 (by omega) k2H.out r1 ((r2.on box_below).on bb1); exact bodyPost_ret (v := .agg #[.slice A1 N.length c1, .slice A2 D.2.length c2]) (by simp [results, Try.results22, go_sem, q0, q1]) rfl ⟨⟨_, rfl, hTo.out _ _ e1⟩, e2⟩)
end Go.Proofs.Ythdgfchmglkpaaa
