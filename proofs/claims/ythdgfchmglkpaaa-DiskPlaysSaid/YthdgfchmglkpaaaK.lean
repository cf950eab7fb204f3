/-
  The document's Crash. Premise: rows have lengths that Go's own rows have, and so have texts.
-/
import Derived.Test.YthdgfchmglkpaaaChecked
import Derived.Test.YthdgfchmglkpaaaMath
import Derived.Test.YthdgfchmglkpaaaA
import Derived.Test.YthdgfchmglkpaaaB
import Derived.Test.YthdgfchmglkpaaaC
import Derived.Test.YthdgfchmglkpaaaD
import Derived.Test.YthdgfchmglkpaaaE
import Derived.Test.YthdgfchmglkpaaaF
import Derived.Test.YthdgfchmglkpaaaH
import Derived.Test.YthdgfchmglkpaaaI
import Derived.Test.YthdgfchmglkpaaaJ
import Derived.WalkKit
import Derived.WalkSpells
import Derived.WalkLawsBesides
import Derived.Deep.QuietTactic
import Derived.BigQuiet
import Derived.Lib.Hide
import Derived.Lib.SmallJoins
import Derived.Outline
import Derived.OwnWalk
import Derived.Deep.CutBlock
import Derived.BigRegion
import Derived.StillTailTactics
import Derived.Laws.AppendOwnNone
import Derived.Maps.AppendAt
import Derived.Deep.RegionLaw
import Derived.Deep.RegionHeld3
import Derived.Lib.BufferRead
import Derived.Deep.AppendLies
namespace Go.Proofs.Ythdgfchmglkpaaa
open Go.RowKit
abbrev Kp := ByteArray × Int
def KeepsAt (W : World) (A : Option Addr) (K : List Kp) : Prop := ∀ i f, K[i]? = some f → ∃ a, A = some a ∧ a.block < W.heap.size ∧
  W.cell? (a.add (i * 2)) = some (.string f.1) ∧ W.cell? ⟨(a.add (i * 2)).block, (a.add (i * 2)).off + 1, none⟩ = some (.int .i64 f.2)
theorem KeepsAt.on {W W' : World} {A : Option Addr} {K : List Kp} (h : KeepsAt W A K) (hb : Below W.heap.size W W') : KeepsAt W' A K := fun i f hi => by
  obtain ⟨a, h1, h2, h3, h4⟩ := h i f hi
  have e : ((a.add (i * 2)) : Addr).block < W.heap.size := by rw [add_block]; exact h2
  exact ⟨a, h1, Nat.lt_of_lt_of_le h2 hb.size, (hb.cell e).trans h3, (hb.cell (p := ⟨(a.add (i * 2)).block, _, none⟩) e).trans h4⟩
theorem run_ixP (a : Addr) (k n c : Nat) (hk : k < n) (w : World) : Sem.run Try.prog (Instr.indexAt 47 (.slice (some a) n c) (.int .i64 (k : Int))) w = .ok (.pointer (some (a.add (k * 2)))) w := by
  go_simp
/-- How many bytes more are left of a file. -/
def moreF (K : List Kp) (f : Fl) : Int := match K.find? (fun p => decide (p.1 = f.1)) with
  | some p => betw p.2 ((f.2.1.size : Int) - f.2.2)
  | none => 0
def crashF (K : List Kp) (f : Fl) : Fl := (f.1, f.2.1.extract 0 (f.2.2 + moreF K f).toNat, f.2.2 + moreF K f)
theorem more_le {K : List Kp} {f : Fl} (h : f.2.2 ≤ (f.2.1.size : Int)) : 0 ≤ moreF K f ∧ moreF K f ≤ (f.2.1.size : Int) - f.2.2 := by
  unfold moreF
  split
  · exact betw_le (by omega)
  · omega
theorem more_drop {K : List Kp} {i : Nat} {p : Kp} (h : K[i]? = some p) (f : Fl) : moreF (K.drop i) f = if p.1 = f.1 then betw p.2 ((f.2.1.size : Int) - f.2.2) else moreF (K.drop (i + 1)) f := by
  obtain ⟨hi, he⟩ := List.getElem?_eq_some_iff.1 h
  rw [List.drop_eq_getElem_cons hi, he]
  by_cases e : p.1 = f.1
  · rw [if_pos e]
    unfold moreF
    rw [List.find?_cons_of_pos (by simpa using e)]
  · rw [if_neg e]
    unfold moreF
    rw [List.find?_cons_of_neg (by simpa using e)]
theorem files_norm {L : List Fl} {f : Fl} (h : f ∈ filesF L) : ∃ g ∈ L, f = normF g := by
  revert h
  refine list_ind (p := fun L => f ∈ filesF L → ∃ g ∈ L, f = normF g) (fun h => by cases h) (fun l o ih => ?_) L
  rw [files_snoc]
  unfold addF
  split
  · intro h
    obtain ⟨g, hg, e⟩ := ih h
    exact ⟨g, List.mem_append_left _ hg, e⟩
  · intro h
    rcases List.mem_append.1 h with h | h
    · obtain ⟨g, hg, e⟩ := ih h
      exact ⟨g, List.mem_append_left _ hg, e⟩
    · exact ⟨o, by simp, List.mem_singleton.1 h⟩
theorem norm_le (g : Fl) : 0 ≤ (normF g).2.2 ∧ (normF g).2.2 ≤ ((normF g).2.1.size : Int) := betw_le (by omega)
/-- A write into a block that was made after the start. -/
theorem OutF.poke {w0 X : World} {g : Nat} {v fv : Value} {O : List Fl} (h : OutF w0 g v fv O X) {b : Nat} (hb : w0.heap.size ≤ b) (hv : v.ownBlock ≠ some b) (j : Nat) (u : Value) : OutF w0 g v fv O (X.setCell ⟨b, j, none⟩ u) := by
  have ho : Only [b] X (X.setCell ⟨b, j, none⟩ u) := (Only.refl [b] X).set (p := ⟨b, j, none⟩) (Or.inl (by simp)) _
  refine ⟨ho.keep h.blk (by have := h.lt; simp; omega), h.row.only ho (fun k hk => by simp; exact fun e => hv (by rw [hk, e])), h.only.trans ho (fun x hx => by rw [List.mem_singleton.1 hx]; exact Or.inr hb), h.lt⟩
theorem map_nextC {M : List Fl} {i : Nat} {g : Fl} (h : M[i]? = some g) (c : Fl → Fl) : (M.take (i + 1)).map c = (M.take i).map c ++ [c g] := by
  rw [List.take_add_one, h, List.map_append]
  rfl
set_option maxRecDepth 100000 in
set_option maxHeartbeats 8000000 in
theorem rcrash_any {w : World} {A B E : Option Addr} {c m d e : Nat} {L : List Fl} {K : List Kp} (h : FilesAt w A L) (hl : L.length ≤ 1000000) (hs : ∀ f ∈ L, f.2.1.size ≤ 4611686018427387904) (hK : KeepsAt w E K) (hkl : K.length ≤ 1000000) :
    Calls Try.prog 30 #[.agg #[.slice A L.length c, .slice B m d], .slice E K.length e] w fun r w' => (∃ v, r = .returned (.agg #[v, .slice none 0 0]) ∧ RowF w' w.heap.size v ((filesF L).map (crashF K))) ∧ Below w.heap.size w w' := by
  obtain ⟨W4, hW4, k1, k3, k4, kb, ks⟩ := three_boxes w (.cells #[.slice A L.length c, .slice B m d] 25) (.cells #[.slice none 0 0, .slice none 0 0] 25) (.cells #[.slice none 0 0, .slice none 0 0] 25)
  have hFs := Lib.hid (rfiles_any (B := B) (c := c) (m := m) (d := d) (h.on kb) hl)
  have hflM := Lib.hid (Nat.le_trans (files_len L) hl)
  have hnorm : Hid (∀ f ∈ filesF L, 0 ≤ f.2.2 ∧ f.2.2 ≤ (f.2.1.size : Int) ∧ f.2.1.size ≤ 4611686018427387904) := Lib.hid (fun f hf => by
    obtain ⟨g, hg, rfl⟩ := files_norm hf
    exact ⟨(norm_le g).1, (norm_le g).2, hs g hg⟩)
  have hKH := Lib.hid hK
  have hgetK : Hid (∀ i, i < K.length → ∃ g, K[i]? = some g) := Lib.hid (fun i hi => ⟨_, List.getElem?_eq_getElem hi⟩)
  have hmd : Hid (∀ i p f, K[i]? = some p → moreF (K.drop i) f = if p.1 = f.1 then betw p.2 ((f.2.1.size : Int) - f.2.2) else moreF (K.drop (i + 1)) f) := Lib.hid (fun i p f hp => more_drop hp f)
  have hm0 : Hid (∀ f, moreF (K.drop K.length) f = 0) := Lib.hid (fun f => by rw [List.drop_length]; rfl)
  have hmK : Hid (∀ f, moreF (K.drop 0) f = moreF K f) := Lib.hid (fun f => by rw [List.drop_zero])
  obtain ⟨R, hR⟩ : ∃ R, R = (filesF L).map (crashF K) := ⟨_, rfl⟩
  rw [← hR]
  have hRH := Lib.hid hR
  clear h hR hs hK
  generalize filesF L = M at hFs hflM hRH hnorm
  generalize L.length = n at *
  generalize K.length = kn at *
  go_enter Try.func30, Try.ntmps30
  go_upto_region 2 with fail
  rw [← hW4]
  obtain ⟨x0, x1, -, -⟩ := two k1
  have kbH := Lib.hid kb
  have k3H := Lib.hid k3
  have k4H := Lib.hid k4
  clear hW4 kb k1 k3 k4
  go_upto_region 4 with (go_at_call 16; (with_reducible refine (hFs.out).mono ?_); rintro e' w5 ⟨⟨vM, rfl, hM⟩, hb5⟩)
  have hs5 := hb5.size
  have hO0 : Hid (OutF w5 (w.heap.size + 1 + 1) (.slice none 0 0) (.slice none 0 0) [] w5) := Lib.hid ⟨(hb5.block _ (by omega)).trans k4H.out, rowF_nil _ _, Only.refl _ _, by omega⟩
  have hMH := Lib.hid hM
  obtain ⟨AM, cM, rfl, -⟩ := hM.files
  have k3w := Lib.hid ((hb5.block (w.heap.size + 1) (by omega)).trans k3H.out)
  have kbwH := Lib.hid (kbH.out.trans (hb5.mono kbH.out.size))
  have hnM : Hid (∀ k, (Value.slice AM M.length cM).ownBlock = some k → W4.heap.size ≤ k) := Lib.hid (fun k hk => (World.ownsRow.lt hM k hk).1)
  have hget : Hid (∀ i, i < M.length → ∃ g, M[i]? = some g) := Lib.hid (fun i hi => ⟨_, List.getElem?_eq_getElem hi⟩)
  have hmn : Hid (∀ i g, M[i]? = some g → (M.take (i + 1)).map (crashF K) = (M.take i).map (crashF K) ++ [crashF K g]) := Lib.hid (fun i g hg => map_nextC hg _)
  have htk : Hid (M.take M.length = M) := Lib.hid List.take_length
  have hlm : Hid (∀ i, ((M.take i).map (crashF K)).length ≤ 1000000) := Lib.hid (fun i => by rw [List.length_map, List.length_take]; have := hflM.out; omega)
  obtain ⟨i0, hi, hz0, hz1, hz2⟩ := info_partsS info_file
  clear x0 x1 hFs k3H k4H hb5 hM
  generalize hNM : M.length = N at *
  clear hNM
  go_wp2_with fail
  go_loopw [7] (fun s7 wr => ∃ (i : Nat) (v : Value) (O : List Fl), i ≤ N ∧ s7 = .int .i64 i ∧ Hid (O = (M.take i).map (crashF K)) ∧ Hid (OutF w5 (w.heap.size + 1 + 1) v (.slice none 0 0) O wr)) (fun s7 _ => N - (intOf s7).toNat)
  case atStart => exact ⟨0, _, [], by omega, rfl, Lib.hid rfl, hO0⟩
  case round =>
    clear hO0
    obtain ⟨i, v, O, hi1, rfl, hOe, hO⟩ := hrel
    obtain ⟨A0, c0, rfl, -⟩ := hO.out.row.files
    have hMr := hMH.out.only hO.out.only (fun k hk => by have := hnM.out k hk; simp; omega)
    by_cases hil : i < N
    · obtain ⟨g, hg⟩ := hget.out i hil
      obtain ⟨A', c', he, hFA⟩ := hMr.files
      obtain ⟨a, hAe, ha, y0, y1, y2⟩ := hFA i g hg
      obtain rfl : AM = some a := by injection he with e1; rw [e1]; exact hAe
      have hix := run_ixF a i N cM hil
      have hilH := Lib.hid hil
      have dk : decide ((i : Int) < (N : Int)) = true := decide_eq_true (by omega)
      have dk2 : decide (i < N) = true := decide_eq_true hil
      have hmi := Lib.hid (hmn.out i g hg)
      have hli : O.length ≤ 1000000 := by rw [hOe.out]; exact hlm.out i
      obtain ⟨g1, g2, g3⟩ := hnorm.out g (List.mem_of_getElem? hg)
      have hwk1 := IntWalk.i64_in ((kn : Int) - 1) (by omega)
      have hOn : ∀ y, (Value.slice A0 O.length c0).ownBlock = some y → y < wr.heap.size := fun y hy => (World.ownsRow.lt hO.out.row y hy).2
      have hX1 := heap_alloc_new wr (.cells #[.string g.1, .string g.2.1, .int .i64 g.2.2] 39)
      have hO1 := hO.out.on (Y := wr.alloc (.cells #[.string g.1, .string g.2.1, .int .i64 g.2.2] 39)) box_below
      have hKw : KeepsAt (wr.alloc (.cells #[.string g.1, .string g.2.1, .int .i64 g.2.2] 39)) E K := hKH.out.on ((kbwH.out.trans (hO.out.only.below kbwH.out.size (fun k hk => by rw [List.mem_singleton.1 hk]; omega))).alloc (kbwH.out.trans (hO.out.only.below kbwH.out.size (fun k hk => by rw [List.mem_singleton.1 hk]; omega))).size _)
      have hszw := hO.out.only.size
      clear hg hFA hAe ha he hMr hil
      go_upto_region 9 with fail
      generalize (wr.alloc (.cells #[.string g.1, .string g.2.1, .int .i64 g.2.2] 39)) = X1 at hX1 hO1 hKw ⊢
      generalize wr.heap.size = gx at hX1 hOn hszw ⊢
      have hX1H := Lib.hid hX1
      have hO1H := Lib.hid hO1
      have hKwH := Lib.hid hKw
      have hgx1 := some_lt hX1
      clear y0 y1 y2 hix dk dk2 hX1 hO1 hKw
      go_loopw [9, 10] (fun s9 s10 wq => ∃ (j : Nat) (z : Int), j ≤ kn ∧ z = (j : Int) - 1 ∧ s10 = .int .i64 z ∧ s9 = .int .i64 (moreF (K.drop j) g) ∧ Hid (Below X1.heap.size X1 wq)) (fun _ s10 _ => (intOf s10 + 1).toNat)
      case atStart => exact ⟨kn, _, Nat.le_refl _, rfl, rfl, by rw [hm0.out], Lib.hid (Below.refl _ _)⟩
      case round =>
        obtain ⟨j, z, hj, hz, rfl, rfl, hV⟩ := hrel
        have hxv := (hV.out.block gx hgx1).trans hX1H.out
        obtain ⟨b0, b1, b2, b3, b4, b5⟩ := three hxv
        rcases j with _ | t
        · have hz1 : z = -1 := by omega
          subst hz1
          rw [hmK.out]
          have dz : decide ((0 : Int) ≤ -1) = false := rfl
          obtain ⟨ml, mu⟩ := more_le (K := K) (f := g) g2
          have hcr := Lib.hid (show crashF K g = (g.1, g.2.1.extract 0 (g.2.2 + moreF K g).toNat, g.2.2 + moreF K g) from rfl)
          obtain ⟨mo, hmo⟩ : ∃ mo, mo = moreF K g := ⟨_, rfl⟩
          rw [← hmo] at ml mu hcr ⊢
          have hws := IntWalk.i64_in (g.2.2 + mo) (by omega)
          obtain ⟨sm, hsm⟩ : ∃ sm, sm = g.2.2 + mo := ⟨_, rfl⟩
          rw [← hsm] at hws hcr
          have hsm0 : 0 ≤ sm := by omega
          have hsm1 : sm ≤ (g.2.1.size : Int) := by omega
          have hsum : g.2.2 + mo = sm := hsm.symm
          clear hz hmo hsm
          go_upto_region 13 with fail
          have hO2 := hO1H.out.on hV.out
          have hX2 : (wr.setCell ⟨gx, 2, none⟩ (.int .i64 sm)).heap[gx]? = some (.cells #[.string g.1, .string g.2.1, .int .i64 sm] 39 (0, 0)) := by simp [World.setCell, Array.getElem?_modify, hxv]
          have hno : (Value.slice A0 O.length c0).ownBlock ≠ some gx := fun ey => by have := hOn gx ey; omega
          have hO3 := hO2.poke hszw hno 2 (.int .i64 sm)
          go_upto_region 14 with fail
          clear b0 b1 b2 b3 b4 b5 hxv
          generalize (wr.setCell ⟨gx, 2, none⟩ (.int .i64 sm)) = V at hX2 hO3 ⊢
          obtain ⟨b0, b1, b2, b3, b4, b5⟩ := three hX2
          obtain ⟨D, hD⟩ : ∃ D, D = g.2.1.extract 0 sm.toNat := ⟨_, rfl⟩
          rw [← hD] at hcr
          have hX3 : (V.setCell ⟨gx, 1, none⟩ (.string D)).heap[gx]? = some (.cells #[.string g.1, .string D, .int .i64 sm] 39 (0, 0)) := by simp [World.setCell, Array.getElem?_modify, hX2]
          have hO4 := hO3.poke hszw hno 1 (.string D)
          have hDH := Lib.hid hD
          clear hD
          go_upto_region 15 with fail
          rw [← hDH.out]
          clear b0 b1 b2 b3 b4 b5 hX2 hO3 hO2
          generalize (V.setCell ⟨gx, 1, none⟩ (.string D)) = Y at hX3 hO4 ⊢
          obtain ⟨b0, b1, b2, -, -, -⟩ := three hX3
          obtain ⟨z0, z1, z2, z3⟩ := two hO4.blk
          have hO4H := Lib.hid hO4
          have hoxH := Lib.hid ((hO4.on (Y := Y.alloc (.cells #[.string g.1, .string D, .int .i64 sm] 39)) box_below).row)
          have hbY := hO4.only.size
          have hwk := wrap_small (x := (i : Int) + 1) (by have := hflM.out; have := hilH.out; omega)
          clear hX3 hO4 hO hO1H hX1H hKwH hV
          go_wp2_with (at_builtin; refine wpList_append_own_at _ rfl (.tmp 62) (.tmp 64) 22 rfl w5.heap.size 39 i0 _ 3 40 Try.underlying22 hi hz0 hz1 hz2 rfl (by decide) (.slice A0 O.length c0) O.length (O.flatMap fcs) rfl hoxH.out ⟨Y.heap.size, 0, none⟩ 1 1 [.string g.1, .string D, .int .i64 sm] rfl rfl (one_file Y _ _ _) (file_cells _ _ _) (by unfold maxLen; omega) (by omega) (by simp; omega) ?_)
          intro v' w7 hown7 hg7 _ hloc
          obtain ⟨gb, cap, rfl⟩ : ∃ gb cap, v' = .slice (some ⟨gb, 0, none⟩) (O.length + 1) cap := by
            rcases hown7.2 with ⟨_, h0⟩ | ⟨gb, cap, cur, hv, _⟩
            · omega
            · exact ⟨gb, cap, hv⟩
          obtain ⟨hb7, hO7⟩ := hO4H.out.more box_below hown7 hg7
          obtain ⟨t0, t1, t2, t3⟩ := two hb7
          have hO7H := Lib.hid hO7
          clear hown7 hg7 hb7 hO7 hloc
          go_wp2_with fail
          go_roundw
          case rel => exact ⟨i + 1, _, _, by have := hilH.out; omega, by go_num, Lib.hid (by rw [hmi.out, ← hOe.out, hcr.out]), hO7H⟩
          case measure => have := hilH.out; simp [intOf]; omega
        · have hz1 : z = (t : Int) := by omega
          subst hz1
          obtain ⟨p, hp⟩ := hgetK.out t (by omega)
          obtain ⟨a', rfl, ha', p0, p1⟩ := hKwH.out.on hV.out t p hp
          have hixp := run_ixP a' t kn e (by omega)
          have hmt := hmd.out t p g hp
          have dz : decide ((0 : Int) ≤ (t : Int)) = true := decide_eq_true (by omega)
          have hwt := IntWalk.i64_in ((t : Int) - 1) (by omega)
          have htH := Lib.hid hj
          clear hp hz hj
          by_cases hk : p.1 = g.1
          · have hq : (p.1.toList == g.1.toList) = true := by rw [hk]; simp
            rw [if_pos hk] at hmt
            have hmtH := Lib.hid hmt
            have hwz := IntWalk.i64_in ((g.2.1.size : Int) - g.2.2) (by omega)
            have hBt := Lib.hid (fun W => between_at p.2 ((g.2.1.size : Int) - g.2.2) W)
            clear hk hmt
            go_upto_region 12 with (go_quiet (fail))
            obtain ⟨V, hVe⟩ : ∃ V, V = wr.drewN nq := ⟨_, rfl⟩
            rw [← hVe]
            have hV2 : Hid (Below X1.heap.size X1 V) := Lib.hid (by rw [hVe]; exact below_drewN hV.out _)
            have p1' : V.cell? ⟨(a'.add (t * 2)).block, (a'.add (t * 2)).off + 1, none⟩ = some (.int .i64 p.2) := by rw [hVe]; exact p1
            obtain ⟨e0, e1, e2, -, -, -⟩ := three ((hV2.out.block gx hgx1).trans hX1H.out)
            clear hVe b0 b1 b2 b3 b4 b5 p0 p1 hxv hV
            go_quiet ((go_at_call 32; exact Calls.quiet_of_same (hBt.out _)))
            go_wp2_with fail
            go_roundw
            case rel => exact ⟨t, _, by have := htH.out; omega, rfl, rfl, by rw [hmtH.out], Lib.hid (below_drewN hV2.out _)⟩
            case measure => simp [intOf]
          · have hq : (p.1.toList == g.1.toList) = false := key_ne hk
            rw [if_neg hk] at hmt
            have hmtH := Lib.hid hmt
            clear hk hmt
            go_wp2_with fail
            go_quiet (fail)
            go_wp2_with fail
            go_roundw
            case rel => exact ⟨t, _, by have := htH.out; omega, rfl, rfl, by rw [hmtH.out], Lib.hid (below_drewN hV.out _)⟩
            case measure => simp [intOf]
    · have hin : N = i := by omega
      subst hin
      have dk : decide ((N : Int) < (N : Int)) = false := decide_eq_false (by omega)
      have dk2 : decide (N < N) = false := decide_eq_false (by omega)
      have hReH : Hid (R = O) := Lib.hid (by rw [hRH.out, hOe.out, htk.out])
      have k3r := hO.out.only.keep k3w.out (by simp)
      obtain ⟨r0, r1, r2, r3⟩ := two k3r
      obtain ⟨z0, z1, z2, z3⟩ := two hO.out.blk
      have hst := Lib.hid (store2 k3r (.slice A0 O.length c0) (.slice none 0 0))
      have hdn := Lib.hid (hO.out.done kbwH.out (by omega) (gr := w.heap.size + 1) (by omega) (by have := kbwH.out.size; omega) (.slice A0 O.length c0) (.slice none 0 0))
      clear hil hMr
      go_wp2_with fail
      obtain ⟨q0, q1, -, -⟩ := two hst.out
      refine bodyPost_ret (v := .agg #[.slice A0 O.length c0, .slice none 0 0]) (by simp [results, Try.results30, go_sem, q0, q1]) rfl ⟨⟨_, rfl, ?_⟩, hdn.out.2⟩
      rw [hReH.out]
      exact hdn.out.1
end Go.Proofs.Ythdgfchmglkpaaa
