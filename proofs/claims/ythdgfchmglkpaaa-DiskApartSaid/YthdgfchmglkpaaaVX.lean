/-
  The program's Crash. Premises: the disk and the keeps lie in memory, names are texts of Go's own lengths.
-/
import Derived.Test.YthdgfchmglkpaaaChecked
import Derived.Test.YthdgfchmglkpaaaMath
import Derived.Test.YthdgfchmglkpaaaA
import Derived.Test.YthdgfchmglkpaaaB
import Derived.Test.YthdgfchmglkpaaaC
import Derived.Test.YthdgfchmglkpaaaD
import Derived.Test.YthdgfchmglkpaaaE
import Derived.Test.YthdgfchmglkpaaaF
import Derived.Test.YthdgfchmglkpaaaG
import Derived.Test.YthdgfchmglkpaaaJ
import Derived.Test.YthdgfchmglkpaaaK
import Derived.Test.YthdgfchmglkpaaaL
import Derived.Test.YthdgfchmglkpaaaM
import Derived.Test.YthdgfchmglkpaaaO
import Derived.Test.YthdgfchmglkpaaaU
import Derived.Test.YthdgfchmglkpaaaR
import Derived.Test.YthdgfchmglkpaaaS
import Derived.Test.YthdgfchmglkpaaaVA
import Derived.Test.YthdgfchmglkpaaaVC
import Derived.Test.YthdgfchmglkpaaaVS
import Derived.Test.YthdgfchmglkpaaaVF
import Derived.Test.YthdgfchmglkpaaaVG
import Derived.Test.YthdgfchmglkpaaaVK
import Derived.Test.YthdgfchmglkpaaaVD
import Derived.Test.YthdgfchmglkpaaaVT
import Derived.Test.YthdgfchmglkpaaaVW
import Derived.WalkKit
import Derived.WalkSpells
import Derived.WalkLawsBesides
import Derived.Deep.QuietTactic
import Derived.BigQuiet
import Derived.Lib.Hide
import Derived.Lib.SmallJoins
import Derived.Outline
import Derived.OwnWalk
import Derived.Deep.CutBlock
import Derived.BigRegion
import Derived.StillTailTactics
import Derived.Laws.AppendOwnNone
import Derived.Maps.AppendAt
import Derived.Deep.RegionLaw
import Derived.Deep.RegionHeld3
import Derived.Lib.BufferRead
import Derived.Deep.AppendLies
import Derived.Lib.SliceRun
import Derived.Laws.CopyOwn
import Derived.Maps.OwnSet
import Derived.StringKeys
namespace Go.Proofs.Ythdgfchmglkpaaa
open Go.RowKit
/-- All names are texts of Go's own lengths. -/
def Nm (D : Dk) : Prop := ∀ f ∈ D.1, f.1.size ≤ maxLen
theorem fK_more (K : List Kp) (f : Fl) (h : f.2.2 ≤ (f.2.1.size : Int)) : moreF K f = betw ((fK K f.1).getD 0) ((f.2.1.size : Int) - f.2.2) := by
  unfold moreF fK
  cases K.find? (fun p => decide (p.1 = f.1)) with
  | some p => rfl
  | none =>
    show 0 = betw 0 _
    rw [betw_same (Int.le_refl _) (by omega)]
theorem find_mapA {L : List Fl} (c : Fl → Fl) (hc : ∀ f, (c f).1 = f.1) (k : ByteArray) : findF (L.map c) k = (L.find? (fun f => decide (f.1 = k))).map (fun f => normF (c f)) := by
  unfold findF
  rw [List.find?_map]
  have e : (fun f => decide (f.1 = k)) ∘ c = fun f => decide (f.1 = k) := by
    funext f
    show decide ((c f).1 = k) = _
    rw [hc]
  rw [e, Option.map_map]
  rfl
/-- What the program leaves is what the document leaves. -/
theorem crash_eqv (D : Dk) (K : List Kp) : Eqv (D.1.map (fun f => crashF K (normF f)), []) ((filesF D.1).map (crashF K), []) := by
  refine ⟨fun k => ?_, rfl⟩
  show findF (D.1.map (fun f => crashF K (normF f))) k = findF ((filesF D.1).map (crashF K)) k
  rw [find_crash, find_mapA (fun f => crashF K (normF f)) (fun _ => rfl)]
  unfold findF
  cases D.1.find? (fun f => decide (f.1 = k)) with
  | none => rfl
  | some f => show some (normF (crashF K (normF f))) = some (crashF K (normF f)); rw [crash_norm (norm_norm f)]
theorem crash_cut {K : List Kp} {f : Fl} {z x y : Int} (hz : z = betw f.2.2 (f.2.1.size : Int)) (hx : x = betw ((fK K f.1).getD 0) ((f.2.1.size : Int) - z)) (hy : y = z + x) : crashF K (normF f) = (f.1, f.2.1.extract 0 y.toNat, y) ∧ 0 ≤ y ∧ y ≤ (f.2.1.size : Int) ∧ 0 ≤ z ∧ z ≤ (f.2.1.size : Int) ∧ 0 ≤ x ∧ x ≤ (f.2.1.size : Int) := by
  have hb := betw_le (n := f.2.2) (m := (f.2.1.size : Int)) (by omega)
  rw [← hz] at hb
  have hb2 := betw_le (n := (fK K f.1).getD 0) (m := (f.2.1.size : Int) - z) (by omega)
  rw [← hx] at hb2
  have hm : moreF K (normF f) = x := by
    rw [fK_more K (normF f) (by show betw f.2.2 _ ≤ _; rw [← hz]; exact hb.2), hx, hz]
    rfl
  refine ⟨?_, by omega, by omega, hb.1, hb.2, hb2.1, by omega⟩
  unfold crashF
  rw [hm]
  show (f.1, f.2.1.extract 0 (betw f.2.2 (f.2.1.size : Int) + x).toNat, betw f.2.2 (f.2.1.size : Int) + x) = _
  rw [← hz, ← hy]
theorem map_snoc {α β : Type} {L : List α} {i : Nat} {f : α} (h : L[i]? = some f) (c : α → β) : (L.take (i + 1)).map c = (L.take i).map c ++ [c f] := by
  rw [List.take_add_one, h, List.map_append]
  rfl
theorem file_one (w : World) (x y : ByteArray) (z : Int) : FilesAt (w.alloc (.cells #[.string x, .string y, .int .i64 z] 39)) (some ⟨w.heap.size, 0, none⟩) [(x, y, z)] := fun i f hf => by
  have hi : i = 0 := by have := (List.getElem?_eq_some_iff.1 hf).1; simp at this; exact this
  subst hi
  cases hf
  have hc := one_file w x y z
  exact ⟨_, rfl, LieB.at (heap_alloc_new w _), hc 0 _ rfl, hc 1 _ rfl, hc 2 _ rfl⟩
set_option maxRecDepth 100000 in
set_option maxHeartbeats 8000000 in
theorem pcrash_any {w : World} {v : Value} {D : Dk} {E : Option Addr} {e : Nat} {K : List Kp} (h : DkAt w v D) (hl : Okd D) (hNm : Nm D) (hK : KeepsAt w E K) (hkl : K.length ≤ 1000000) (hb : ∀ p ∈ K, -9223372036854775808 ≤ p.2 ∧ p.2 ≤ 9223372036854775807) (hKn : ∀ p ∈ K, p.1.size ≤ maxLen) :
    Calls Try.prog 17 #[v, .slice E K.length e] w fun r w' => (∃ v', r = .returned v' ∧ To w' v' D ((filesF D.1).map (crashF K), []) 0) ∧ Below w.heap.size w w' := by
  obtain ⟨A, c, B, d, rfl, hA, hB⟩ := h
  obtain ⟨W, hW, k1, k2, kb, ks⟩ := two_boxes w (.cells #[.slice A D.1.length c, .slice B D.2.length d] 25) (.cells #[.slice none 0 0, .slice none 0 0] 25)
  have hF := Lib.hid (firsts_any (e := e) (hK.on kb) hkl hb hKn)
  have hAH := Lib.hid (hA.on kb)
  have kbH := Lib.hid kb
  have k1H := Lib.hid k1
  have k2H := Lib.hid k2
  have hfl := Lib.hid hl.fl
  have hsz : Hid (∀ f ∈ D.1, f.2.1.size ≤ 1152921504606846976) := Lib.hid hl.sz
  have hnm : Hid (∀ f ∈ D.1, f.1.size ≤ maxLen) := Lib.hid hNm
  obtain ⟨i0, hi, hz0, hz1, hz2⟩ := info_partsS info_file
  have hEnd : Hid (∀ X v', DkAt X v' (D.1.map (fun f => crashF K (normF f)), []) → To X v' D ((filesF D.1).map (crashF K), []) 0) := Lib.hid (fun X v' hX => by
    refine ⟨(D.1.map (fun f => crashF K (normF f)), []), hX, crash_eqv D K, fun n m hL => ⟨by have := hL.fl; simp only [List.length_map]; omega, Nat.zero_le _, fun f hf => ?_⟩⟩
    obtain ⟨g, hg, rfl⟩ := List.mem_map.1 hf
    have := hL.sz g hg
    simp only [crashF, normF, ByteArray.size_extract]
    omega)
  obtain ⟨RR, hRR⟩ : ∃ RR, RR = ((filesF D.1).map (crashF K), ([] : List Ft)) := ⟨_, rfl⟩
  rw [← hRR] at hEnd ⊢
  clear hRR
  generalize D.1 = L at *
  generalize D.2.length = m at *
  clear hA hB kb hl hNm hK hkl hb hKn k1 k2
  have hget : Hid (∀ i, i < L.length → ∃ f, L[i]? = some f) := Lib.hid (fun i hi => ⟨_, List.getElem?_eq_getElem hi⟩)
  obtain ⟨n, hn⟩ : ∃ n, n = L.length := ⟨_, rfl⟩
  have hnn : Hid (n = L.length ∧ n ≤ 1000000) := Lib.hid ⟨hn, by rw [hn]; exact hfl.out⟩
  rw [← hn] at hW k1H hget ⊢
  clear hn hfl
  go_enter Try.func17, Try.ntmps17
  go_upto_region 1 with fail
  rw [← hW]
  clear hW
  go_upto_region 2 with (go_at_call 37; (with_reducible refine (hF.out).mono ?_); rintro e w3 ⟨⟨gm, cm, rfl, hgm, hM3⟩, hb3⟩)
  have hb3H := Lib.hid (kbH.out.trans (hb3.mono kbH.out.size))
  have hF3 := Lib.hid (hAH.out.on hb3)
  have k1w := Lib.hid ((hb3.block w.heap.size (some_lt k1H.out)).trans k1H.out)
  have k2w := Lib.hid ((hb3.block (w.heap.size + 1) (some_lt k2H.out)).trans k2H.out)
  have hM3H := Lib.hid hM3
  obtain ⟨x0, x1, -, -⟩ := two k1w.out
  clear hF hb3 hAH k1H k2H hM3 hgm
  go_wp2_with (at_make; refine wpList_make_own _ rfl _ _ 22 rfl w3.heap.size 39 i0 _ 3 Try.underlying22 hi hz0 hz1 _ _ _ n rfl rfl rfl (by rw [hz2]; have := hnn.out; omega) (by have := hnn.out; unfold maxLen; omega) (Nat.le_refl _) ?_; intro w4 hown hgrow; have hownH : Hid (RowF w4 w3.heap.size (.slice (some ⟨w3.heap.size, 0, none⟩) 0 n) ((L.take 0).map (fun f => crashF K (normF f)))) := Lib.hid hown; have hO4 : Hid (Below w3.heap.size w3 w4) := Lib.hid (by have := grown_only hgrow; exact this.below (Nat.le_refl _) (by simp)); have y0 := (hO4.out.cell (p := ⟨w.heap.size, 0, none⟩) (some_lt k1w.out)).trans x0; clear hown hgrow)
  have hgmH : Hid (gm < w3.heap.size) := Lib.hid hM3H.out.lt
  clear x0 x1 y0
  go_loopw [6, 8, 9, 19] (fun s6 s8 s9 s19 wr => ∃ (i : Nat) (v : Value), i ≤ n ∧ v = s6 ∧ s19 = .int .i64 i ∧ Hid (RowF wr w3.heap.size v ((L.take i).map (fun f => crashF K (normF f)))) ∧ Hid (Below w3.heap.size w3 wr)) (fun _ _ _ s19 _ => n - (intOf s19).toNat)
  case atStart => exact ⟨0, _, by omega, rfl, rfl, hownH, hO4⟩
  case round =>
    clear hownH hO4
    obtain ⟨i, v, hi2, rfl, rfl, hR, hB⟩ := hrel
    obtain ⟨n1, n2⟩ := hnn.out
    by_cases hil : i < n
    · obtain ⟨f, hf⟩ := hget.out i hil
      obtain ⟨a, rfl, ha, y0, y1, y2⟩ := hF3.out.on hB.out i f hf
      have hix := run_ixF a i n c hil
      have hl1 : ((L.take i).map (fun f => crashF K (normF f))).length = i := by rw [List.length_map, List.length_take]; omega
      have hfm := List.mem_of_getElem? hf
      have hfn := hnm.out f hfm
      have hfs := hsz.out f hfm
      have hsn := map_snoc hf (fun f => crashF K (normF f))
      obtain ⟨z, hz⟩ : ∃ z, z = betw f.2.2 (f.2.1.size : Int) := ⟨_, rfl⟩
      obtain ⟨x, hx⟩ : ∃ x, x = betw ((fK K f.1).getD 0) ((f.2.1.size : Int) - z) := ⟨_, rfl⟩
      obtain ⟨c1, c2, c3, c4, c5, c6, c7⟩ := crash_cut (K := K) hz hx rfl
      obtain ⟨zn, hzn⟩ : ∃ zn : Nat, z = (zn : Int) := ⟨z.toNat, by omega⟩
      obtain ⟨xn, hxn⟩ : ∃ xn : Nat, x = (xn : Int) := ⟨x.toNat, by omega⟩
      obtain ⟨yn, hyn⟩ : ∃ yn : Nat, yn = zn + xn := ⟨_, rfl⟩
      obtain ⟨rn, hrn⟩ : ∃ rn : Nat, (f.2.1.size : Int) - z = (rn : Int) := ⟨((f.2.1.size : Int) - z).toNat, by omega⟩
      have c1' : crashF K (normF f) = (f.1, f.2.1.extract 0 yn, (yn : Int)) := by
        rw [c1, show z + x = (yn : Int) by omega]
        rfl
      have s1 : IntKind.i64.wrap ((f.2.1.size : Int) - (zn : Int)) = (rn : Int) := by rw [wrap_small (by omega)]; omega
      have s2 : IntKind.i64.wrap ((zn : Int) + (xn : Int)) = (yn : Int) := by rw [wrap_small (by omega)]; omega
      have zq0 : (0 : Int) ≤ (yn : Int) := by omega
      have zq1 : (yn : Int) ≤ (f.2.1.size : Int) := by omega
      have hSa : Hid (∀ W, Calls Try.prog 36 #[flV f] W fun e w' => e = .returned (.int .i64 (zn : Int)) ∧ Below W.heap.size W w') := Lib.hid (fun W => by rw [← hzn, hz]; exact psafe1_any f W)
      have hWi : Hid (∀ W, Calls Try.prog 38 #[.int .i64 ((fK K f.1).getD 0), .int .i64 (rn : Int)] W fun e w' => e = .returned (.int .i64 (xn : Int)) ∧ W = w') := Lib.hid (fun W => by rw [← hxn, hx, hrn]; exact within_any _ _ (by omega) W)
      have hwk := wrap_small (x := (i : Int) + 1) (by omega)
      have dk : decide ((i : Int) < (n : Int)) = true := decide_eq_true (by omega)
      have dk2 : decide (i < n) = true := decide_eq_true hil
      have hilH := Lib.hid hil
      have hsH : Hid ((L.take (i + 1)).map (fun f => crashF K (normF f)) = (L.take i).map (fun f => crashF K (normF f)) ++ [(f.1, f.2.1.extract 0 yn, (yn : Int))]) := Lib.hid (by rw [hsn, ← c1'])
      have hX := heap_alloc_new wr (.cells #[.string f.1, .string f.2.1, .int .i64 f.2.2] 39)
      obtain ⟨z0, z1, z2, -, -, -⟩ := three hX
      have hRX := hR.out.on (w' := wr.alloc (.cells #[.string f.1, .string f.2.1, .int .i64 f.2.2] 39)) box_below
      have hBX := hB.out.alloc hB.out.size (.cells #[.string f.1, .string f.2.1, .int .i64 f.2.2] 39)
      obtain ⟨A6, c6', rfl, -⟩ := hR.out.files
      rw [hl1] at hRX
      have hl1H := Lib.hid hl1
      have hfnH := Lib.hid hfn
      clear hf hil hi2 hR hB n1 n2 hfm hfs hsn hz hx c1 c2 c3 c4 c5 c6 c7 hzn hxn hyn hrn c1' hfn
      rw [hl1]
      clear hl1
      go_upto_region 6 with fail
      generalize hVe : (wr.alloc (.cells #[.string f.1, .string f.2.1, .int .i64 f.2.2] 39)) = V at hRX hBX z0 z1 z2 hX ⊢
      generalize wr.heap.size = gf at *
      clear hVe y0 y1 y2
      have hXH := Lib.hid hX
      have hRXH := Lib.hid hRX
      have hBXH := Lib.hid hBX
      clear hX hRX hBX
      go_upto_region 7 with (go_at_call 36; (with_reducible refine (hSa.out _).mono ?_); rintro e w5 ⟨rfl, hb5⟩)
      have hX5 := (hb5.block gf (some_lt hXH.out)).trans hXH.out
      obtain ⟨z0, z1, z2, -, -, -⟩ := three hX5
      have hR5 := Lib.hid (hRXH.out.on hb5)
      have hB5 := Lib.hid (hBXH.out.trans (hb5.mono hBXH.out.size))
      have hX5H := Lib.hid hX5
      have hlk := (hM3H.out.on hB5.out).get f.1 hfnH.out
      clear hX5 hb5 hXH hRXH hBXH hSa
      go_upto_region 8 with (go_at_call 38; (with_reducible refine (hWi.out _).mono ?_); rintro e w6 ⟨rfl, rfl⟩)
      clear hlk s1 s2 hWi
      have hfo : Hid (FilesAt (w5.alloc (.cells #[.string f.1, .string (f.2.1.extract 0 yn), .int .i64 (yn : Int)] 39)).drew (some ⟨w5.heap.size, 0, none⟩) [(f.1, f.2.1.extract 0 yn, (yn : Int))]) := Lib.hid ((file_one w5 f.1 (f.2.1.extract 0 yn) (yn : Int)).on (Below.refl _ _).drew)
      have hRa : Hid (RowF (w5.alloc (.cells #[.string f.1, .string (f.2.1.extract 0 yn), .int .i64 (yn : Int)] 39)).drew w3.heap.size (.slice A6 i c6') ((L.take i).map (fun f => crashF K (normF f)))) := Lib.hid (hR5.out.on (box_below.drew))
      have q0 : (w5.alloc (.cells #[.string f.1, .string (f.2.1.extract 0 yn), .int .i64 (yn : Int)] 39)).cell? ⟨gf, 0, none⟩ = some (.string f.1) := (box_below.cell (p := ⟨gf, 0, none⟩) (some_lt hX5H.out)).trans z0
      have q1 : (w5.alloc (.cells #[.string f.1, .string (f.2.1.extract 0 yn), .int .i64 (yn : Int)] 39)).cell? ⟨gf, 1, none⟩ = some (.string f.2.1) := (box_below.cell (p := ⟨gf, 1, none⟩) (some_lt hX5H.out)).trans z1
      have hBa : Hid (Below w3.heap.size w3 (w5.alloc (.cells #[.string f.1, .string (f.2.1.extract 0 yn), .int .i64 (yn : Int)] 39)).drew) := Lib.hid (hB5.out.trans ((box_below.drew).mono hB5.out.size))
      have hBs : Hid (w3.heap.size ≤ (w5.alloc (.cells #[.string f.1, .string (f.2.1.extract 0 yn), .int .i64 (yn : Int)] 39)).drew.heap.size) := Lib.hid hBa.out.size
      have hEn : Hid (∀ v' w', RowF w' w3.heap.size v' ((L.take i).map (fun f => crashF K (normF f)) ++ [(f.1, f.2.1.extract 0 yn, (yn : Int))]) → Only (Value.slice A6 i c6').ownBlock.toList (w5.alloc (.cells #[.string f.1, .string (f.2.1.extract 0 yn), .int .i64 (yn : Int)] 39)).drew w' → Hid (RowF w' w3.heap.size v' ((L.take (i + 1)).map (fun f => crashF K (normF f)))) ∧ Hid (Below w3.heap.size w3 w')) := Lib.hid (fun v' w' h1 h2 => ⟨Lib.hid (by rw [hsH.out]; exact h1), Lib.hid (hBa.out.trans (h2.below hBs.out (fun k hk => (World.ownsRow.lt hRa.out k (by simpa using hk)).1)))⟩)
      go_region_law (refine step_append_fl rfl (.tmp 37) (.tmp 46) rfl w3.heap.size (.slice A6 i c6') (some ⟨w5.heap.size, 0, none⟩) 1 ((L.take i).map (fun f => crashF K (normF f))) [(f.1, f.2.1.extract 0 yn, (yn : Int))] (by simp [Act.eval]) (by simp [Act.eval]) hRa.out hfo.out (by rw [hl1H.out]; have := hnn.out; have := hilH.out; simp; omega) hBs.out ?_; intro v7 w7 hr7 ho7; obtain ⟨hr7H, ho7H⟩ := hEn.out v7 w7 hr7 ho7; clear hr7 ho7)
      all_goals go_wp2_with fail
      all_goals exact ⟨⟨i + 1, _, by have := hilH.out; omega, rfl, by go_num, hr7H, ho7H⟩, by have := hilH.out; simp [intOf]; omega⟩
    · have hin : i = n := by omega
      have hfin : Hid (RowF wr w3.heap.size v (L.map (fun f => crashF K (normF f)))) := Lib.hid (by
        have := hR.out
        rw [hin, n1, List.take_length] at this
        exact this)
      obtain ⟨A6, c6', hv, hF6⟩ := hfin.out.files
      rw [List.length_map, ← n1] at hv
      subst hv
      subst hin
      have dk : decide ((i : Int) < (i : Int)) = false := decide_eq_false (by omega)
      have dk2 : decide (i < i) = false := decide_eq_false hil
      have k2r := (hB.out.block (w.heap.size + 1) (some_lt k2w.out)).trans k2w.out
      obtain ⟨r0, r1, r2, r3⟩ := two k2r
      have hst := store2 k2r (.slice A6 i c6') (.slice none 0 0)
      have hbs := Lib.hid (below_set2 (hb3H.out.trans (hB.out.mono hb3H.out.size)) (b := w.heap.size + 1) (by omega) (.slice A6 i c6') (.slice none 0 0))
      have hDk : DkAt wr (.agg #[.slice A6 i c6', .slice none 0 0]) (L.map (fun f => crashF K (normF f)), []) := ⟨A6, c6', none, 0, by rw [List.length_map, ← n1]; rfl, hF6, fun j f hj => by simp at hj⟩
      have hDs := hDk.assign k2r (.slice A6 i c6') (.slice none 0 0)
      have hTo : Hid (To ((wr.setCell ⟨w.heap.size + 1, 0, none⟩ (.slice A6 i c6')).setCell ⟨w.heap.size + 1, 1, none⟩ (.slice none 0 0)) (.agg #[.slice A6 i c6', .slice none 0 0]) D RR 0) := Lib.hid (hEnd.out _ _ hDs)
      have hstH := Lib.hid hst
      clear hil n1 n2 hF6 hDk hDs hst k2r
      go_wp2_with fail
      obtain ⟨q0, q1, -, -⟩ := two hstH.out
      exact bodyPost_ret (v := .agg #[.slice A6 i c6', .slice none 0 0]) (by simp [results, Try.results17, go_sem, q0, q1]) rfl ⟨⟨_, rfl, hTo.out⟩, hbs.out⟩
end Go.Proofs.Ythdgfchmglkpaaa
