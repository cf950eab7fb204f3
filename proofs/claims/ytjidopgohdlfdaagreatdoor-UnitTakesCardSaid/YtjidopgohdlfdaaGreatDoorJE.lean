/-
  The walk of the reference's Take behind the sum. Premise: the text is not longer than Go's own arithmetic bears.
-/
import Derived.Test.YtjidopgohdlfdaaGreatDoorJD

namespace Go.Proofs.YtjidopgohdlfdaaGreatDoor
open Go.RowKit Dec Pq S4 Un

theorem SOk.poke {W : World} {ok : Nat → Prop} {A : Option Addr} {ss : List ByteArray} (h : SOk W ok A ss) {p : Addr} {A0 : Option Addr} {n c : Nat} (hp : W.cell? p = some (.slice A0 n c)) (v : Value) : SOk (W.setCell p v) ok A ss := fun i x hx => by
  obtain ⟨a, h1, h2, h3, h4⟩ := h i x hx
  refine ⟨a, h1, h2, by simpa [World.setCell] using h3, ?_⟩
  rw [World.cell?_setCell_other _ _ _ _ (fun e => by rw [← e, hp] at h4; cases h4)]
  exact h4
/-- A unit whose commands are not empty is as it was, whatever is written where a nil row stood. -/
theorem CmdsOk.poke {W : World} {ok : Nat → Prop} {A : Option Addr} {u : UM} (h : CmdsOk W ok A u) (hu : ∀ ss ∈ u, 1 ≤ ss.length) {p : Addr} (hp : W.cell? p = some (.slice none 0 0)) (v : Value) : CmdsOk (W.setCell p v) ok A u := fun i ss hi => by
  obtain ⟨a, h1, h0, h2, Ai, ci, h3, h4⟩ := h i ss hi
  refine ⟨a, h1, h0, by simpa [World.setCell] using h2, Ai, ci, ?_, h4.poke hp v⟩
  have hl := hu ss (List.mem_of_getElem? hi)
  rw [World.cell?_setCell_other _ _ _ _ (fun e => by rw [← e, hp] at h3; injection h3 with h3; injection h3 with _ h5; omega)]
  exact h3
set_option warningAsError false in
set_option maxRecDepth 100000 in
set_option maxHeartbeats 4000000 in
theorem rtake_rest (s : ByteArray) (w : World) (h5 : 5 ≤ s.size) (h85 : s[0] = 85) (hlong : len4 s.data.toList ≤ 4194304) (hsh : len4 s.data.toList + 9 ≤ s.size) (hsl : s.size ≤ 1099511627776) (hq : sealL (s.data.toList.take (len4 s.data.toList + 5)) = s.data.toList.take (len4 s.data.toList + 9)) : Calls Tryz.prog 15 #[.string s] w fun e w' => TakeEnd w.heap.size (takeU s.data.toList) e w' ∧ Below w.heap.size w w' := by
  have hR : Hid (takeU s.data.toList = if mayU (reqsU (bodyAt s.data.toList)) = true ∧ loadU (reqsU (bodyAt s.data.toList)) = bodyAt s.data.toList then .inr (reqsU (bodyAt s.data.toList), len4 s.data.toList + 9) else .inl 5) := Lib.hid (by
    conv => lhs; unfold takeU
    rw [if_neg (fun e => by have := congrArg List.length e; rw [size_len, List.length_nil] at this; omega), if_neg (by rw [head_of (by omega), h85]; exact fun e => e rfl), if_neg (by rw [size_len]; omega), if_neg (by omega), if_neg (by rw [size_len]; omega), if_neg (fun e => e hq)])
  have hBd : Hid (bodyAt s.data.toList = (s.extract 5 (len4 s.data.toList + 5)).data.toList) := Lib.hid (by unfold bodyAt; simp [List.drop_take])
  have hne : s.toList ≠ [] := fun e => by rw [Lib.toList_data] at e; have := congrArg List.length e; rw [size_len, List.length_nil] at this; omega
  have k1 : (s.toList == ([] : List UInt8)) = false := by simpa using hne
  have k2 : ((s[0].toNat : Int) != 85) = false := by rw [h85]; rfl
  have k3 : ((s[0].toNat : Int) == 85) = true := by rw [h85]; rfl
  have d1 : decide ((s.size : Int) < 5) = false := decide_eq_false (by omega)
  have hN := Lib.hid (len4_at h5)
  have hNl := len4_lt h5
  obtain ⟨N, hNe⟩ : ∃ N, len4 s.data.toList = N := ⟨_, rfl⟩
  rw [hBd.out] at hR
  rw [hNe] at hN hNl hlong hsh hq hR
  have l1 := s[1].toNat_lt
  have l2 := s[2].toNat_lt
  have l3 := s[3].toNat_lt
  have l4 := s[4].toNat_lt
  obtain ⟨R, hRe⟩ : ∃ R, R = takeU s.data.toList := ⟨_, rfl⟩
  rw [← hRe]
  have hRR := Lib.hid (hRe.trans hR.out)
  clear hne h85 hR hRe hNe hBd
  go_enter Tryz.func15, Tryz.ntmps15
  go_wp2_with fail
  have hb0 := Lib.hid (one_box (w := w) (cs := #[.slice none 0 0]) (t := 24))
  have hz := Lib.hid (heap_alloc_new w (.cells #[.slice none 0 0] 24))
  generalize (w.alloc (.cells #[.slice none 0 0] 24)) = W at hb0 hz ⊢
  clear k1 k2 k3 d1
  go_loopw [5, 6] (fun n i wr => ∃ k : Nat, k ≤ 4 ∧ i = .int .i64 k ∧ n = .int .i64 (acc s[1].toNat s[2].toNat s[3].toNat s[4].toNat k) ∧ Hid (wr = W)) (fun _ i _ => (intOf i).toNat)
  case atStart => exact ⟨4, by omega, rfl, rfl, Lib.hid rfl⟩
  case round =>
    obtain ⟨k, hk, rfl, rfl, hW⟩ := hrel
    match k, hk with
    | 4, _ =>
      rw [show acc s[1].toNat s[2].toNat s[3].toNat s[4].toNat 4 = 0 from rfl]
      go_wp2_with fail
      refine ⟨⟨3, by omega, rfl, ?_, hW⟩, by simp [intOf]⟩
      rw [show acc s[1].toNat s[2].toNat s[3].toNat s[4].toNat 3 = s[4].toNat from rfl]
      all_goals go_num
    | 3, _ =>
      rw [show acc s[1].toNat s[2].toNat s[3].toNat s[4].toNat 3 = s[4].toNat from rfl]
      go_wp2_with fail
      refine ⟨⟨2, by omega, rfl, ?_, hW⟩, by simp [intOf]⟩
      rw [show acc s[1].toNat s[2].toNat s[3].toNat s[4].toNat 2 = s[4].toNat * 256 + s[3].toNat from rfl]
      go_num
    | 2, _ =>
      rw [show acc s[1].toNat s[2].toNat s[3].toNat s[4].toNat 2 = s[4].toNat * 256 + s[3].toNat from rfl]
      go_wp2_with fail
      refine ⟨⟨1, by omega, rfl, ?_, hW⟩, by simp [intOf]⟩
      rw [show acc s[1].toNat s[2].toNat s[3].toNat s[4].toNat 1 = (s[4].toNat * 256 + s[3].toNat) * 256 + s[2].toNat from rfl]
      go_num
    | 1, _ =>
      rw [show acc s[1].toNat s[2].toNat s[3].toNat s[4].toNat 1 = (s[4].toNat * 256 + s[3].toNat) * 256 + s[2].toNat from rfl]
      go_wp2_with fail
      refine ⟨⟨0, by omega, rfl, ?_, hW⟩, by simp [intOf]⟩
      rw [show acc s[1].toNat s[2].toNat s[3].toNat s[4].toNat 0 = ((s[4].toNat * 256 + s[3].toNat) * 256 + s[2].toNat) * 256 + s[1].toNat from rfl]
      go_num
    | 0, _ =>
      have ea : acc s[1].toNat s[2].toNat s[3].toNat s[4].toNat 0 = N := by
        rw [hN.out]
        unfold acc
        simp
        omega
      rw [ea]
      clear ea
      have hz1 : wr.heap[w.heap.size]? = some (.cells #[.slice none 0 0] 24 (0, 0)) := by rw [hW.out]; exact hz.out
      have hb1 : Hid (Below w.heap.size w wr) := Lib.hid (by rw [hW.out]; exact hb0.out)
      have c0 : wr.cell? ⟨w.heap.size, 0, none⟩ = some (.slice none 0 0) := Lib.cell_of_heap hz1 0
      have g0 := Lib.frozen_of_heap hz1 0
      have hzr := Lib.hid hz1
      clear hz1 hW
      have d1 : decide ((4194304 : Int) < (N : Int)) = false := decide_eq_false (by omega)
      have d2 : decide ((s.size : Int) < (N : Int) + 9) = false := decide_eq_false (by omega)
      have hpz : (s.extract 0 (N + 5)).size ≤ 1099511627776 := by simp; omega
      have hp : Hid (sealL (s.data.toList.take (N + 5)) = (C14.sealB (s.extract 0 (N + 5))).data.toList) := Lib.hid (by rw [← sealL_eq]; simp)
      have hr : Hid (s.data.toList.take (N + 9) = (s.extract 0 (N + 9)).data.toList) := Lib.hid (by simp)
      rw [hp.out, hr.out] at hq
      have q1 : ((C14.sealB (s.extract 0 (N + 5))).toList == (s.extract 0 (N + 9)).toList) = true := by
        rw [Lib.toList_data, Lib.toList_data]
        simpa using hq
      have q2 : ((C14.sealB (s.extract 0 (N + 5))).toList != (s.extract 0 (N + 9)).toList) = false := by
        rw [Lib.toList_data, Lib.toList_data]
        simpa using hq
      have hS : Hid (∀ X, Calls Tryz.prog 25 #[.string (s.extract 0 (N + 5))] X fun e w' => e = .returned (.string (C14.sealB (s.extract 0 (N + 5)))) ∧ Below X.heap.size X w') := Lib.hid (fun X => (C14.rseal_any (s.extract 0 (N + 5)) hpz X).mono (by rintro e w' ⟨h1, h2⟩; exact ⟨h1, h2.below (Nat.le_refl _) (fun k hk => by simp at hk)⟩))
      have hK0 := Lib.hid (Below.drew (Below.refl wr.heap.size wr))
      have hOn : Hid (∀ a c, Below a.heap.size a c → Below wr.heap.size wr a → Below wr.heap.size wr c) := Lib.hid fun a c k h => h.trans (k.mono h.size)
      clear hq hpz
      go_upto_region 16 with fail
      have b1 : (0 : Int) ≤ (N : Int) + 5 := by omega
      have b2 : (N : Int) + 5 ≤ (s.size : Int) := by omega
      have b3 : (0 : Int) ≤ (N : Int) + 9 := by omega
      have b4 : (N : Int) + 9 ≤ (s.size : Int) := by omega
      have t1 : ((N : Int) + 5).toNat = N + 5 := by omega
      have t2 : ((N : Int) + 9).toNat = N + 9 := by omega
      have v1 := IntWalk.i64_in ((N : Int) + 5) (by omega)
      have v2 := IntWalk.i64_in ((N : Int) + 9) (by omega)
      go_region_held3 (fun w' => Below wr.heap.size wr w')
          (first | exact hK0.out | exact hOn.out _ _ (by assumption) (by assumption))
          (first
          | (go_at_call 25; ((with_reducible refine (hS.out _).mono ?_); rintro e u1 ⟨rfl, b1⟩)))
      have hu : Below wr.heap.size wr u1 := by assumption
      have hzu := Lib.hid ((hu.block w.heap.size (by have := hb1.out.size; have := heap_lt hzr.out; omega)).trans hzr.out)
      have hbu : Hid (Below w.heap.size w u1) := Lib.hid (hb1.out.trans (hu.mono hb1.out.size))
      have hlu := Lib.hid (heap_lt hzu.out)
      clear c0 g0 hzr hb1 hu b1 hS hK0 hOn hp hr q1 q2
      have hAl := Lib.hid (fun X => rall_any (s.extract 5 (N + 5)) 65536 1048576 1 65536 1048576 1 X (Lib.hid (by decide)) (Lib.hid (by decide)) (Lib.hid (by decide)) (by decide) (by decide) (by decide) (by simp; omega))
      have b5 : (0 : Int) ≤ 5 := by omega
      have b6 : (5 : Int) ≤ (N : Int) + 5 := by omega
      go_upto_region 20 with (go_at_call 32; ((with_reducible refine (hAl.out _).mono ?_); rintro e u2 hal; obtain ⟨hb2, q, Aq, cq, r0, a1, n1, c1, i2, i3, bb4, i5, i6, hq0, hRq, rfl⟩ := all_two hal; clear hal))
      have hq1 : q.length ≤ N := by
        have h1 := feed_count (A := 65536) (B := 1048576) (L := 1) ((s.extract 5 (N + 5)).data.toList.length + 1) (Inp.none (s.extract 5 (N + 5)).data.toList) (Nat.lt_succ_self _)
        rw [← hq0, List.length_map] at h1
        have h2 : (Inp.none (s.extract 5 (N + 5)).data.toList).rest.length = (s.extract 5 (N + 5)).size := size_len _
        rw [h2] at h1
        simp at h1
        omega
      have hfw : Hid (∀ ss ∈ q.map (·.1), ss.length ≤ 140737488355328) := Lib.hid (fun ss hss => by
        obtain ⟨p, hp, rfl⟩ := List.mem_map.1 hss
        have h1 := feed_few (A := 65536) (B := 1048576) (L := 1) ((s.extract 5 (N + 5)).data.toList.length + 1) (Inp.none (s.extract 5 (N + 5)).data.toList) (Nat.lt_succ_self _) (fun h => absurd rfl h)
        rw [← hq0] at h1
        have h2 := (h1 _ (List.mem_map.2 ⟨p, hp, rfl⟩)).2
        have h3 : (rq p).1.length = p.1.length := by simp [rq, txt]
        omega)
      have huR := Lib.hid (uu_reqs hq0)
      have hzU : (u2.alloc (.cells #[.string r0, .slice a1 n1 c1, .int .i64 i2, .int .i64 i3, .bool bb4, .int .i64 i5, .int .i64 i6] 62)).heap[w.heap.size]? = some (.cells #[.slice none 0 0] 24 (0, 0)) := by
        have h1 := hlu.out
        have h2 := hb2.size
        rw [Below.heap_alloc _ _ _ (by omega)]
        exact (hb2.block w.heap.size h1).trans hzu.out
      have hbU : Below w.heap.size w (u2.alloc (.cells #[.string r0, .slice a1 n1 c1, .int .i64 i2, .int .i64 i3, .bool bb4, .int .i64 i5, .int .i64 i6] 62)) := by
        have h2 := hbu.out.trans (hb2.mono hbu.out.size)
        exact h2.alloc h2.size _
      have hRq' : Rqs u2 (fun b => w.heap.size ≤ b) Aq q := hRq.keep (fun _ _ _ => rfl) (Nat.le_refl _) (fun b hb _ => Nat.le_trans hbu.out.size hb)
      have hRU : Rqs (u2.alloc (.cells #[.string r0, .slice a1 n1 c1, .int .i64 i2, .int .i64 i3, .bool bb4, .int .i64 i5, .int .i64 i6] 62)) (fun b => w.heap.size ≤ b) Aq q := hRq'.on one_box
      have hsU : (u2.alloc (.cells #[.string r0, .slice a1 n1 c1, .int .i64 i2, .int .i64 i3, .bool bb4, .int .i64 i5, .int .i64 i6] 62)).heap.size = u2.heap.size + 1 := by simp
      generalize (u2.alloc (.cells #[.string r0, .slice a1 n1 c1, .int .i64 i2, .int .i64 i3, .bool bb4, .int .i64 i5, .int .i64 i6] 62)) = U at hzU hbU hRU hsU ⊢
      rw [← hsU]
      have hCS : Hid (CS U U.heap.size (.slice none 0 0) [] (U.alloc (.cells #[.slice none 0 0] 24))) := Lib.hid ⟨heap_alloc_new _ _, World.ownsRow_nil _ _ _ _, by simp [Value.ownBlock], one_box, Nat.le_refl _⟩
      have hzUH := Lib.hid hzU
      have hbUH := Lib.hid hbU
      have hRUH := Lib.hid hRU
      have hltU := Lib.hid (heap_lt hzU)
      clear hzU hbU hRU hsU hb2 hRq hRq' hq0 hzu hbu hlu hAl b5 b6 b1 b2 b3 b4
      generalize U.alloc (.cells #[.slice none 0 0] 24) = W3 at hCS ⊢
      obtain ⟨i0, hi, hz0, hz1', hz2'⟩ := info_parts cmd_info
      go_wp2_with fail
      go_loopw [10] (fun i wr => ∃ (A : Option Addr) (cc : Nat) (vs : List Value), i = .int .i64 (vs.length : Nat) ∧ vs.length ≤ q.length ∧ Hid (CS U U.heap.size (.slice A vs.length cc) vs wr) ∧ Hid (Vals U (fun b => w.heap.size ≤ b) q vs)) (fun i _ => q.length - (intOf i).toNat)
      case atStart => exact ⟨none, 0, [], rfl, Nat.zero_le _, hCS, Lib.hid (fun i p _ hi => by simp at hi)⟩
      case round =>
        clear hCS
        obtain ⟨A, cc, vs, rfl, hk, hM, hV⟩ := hrel
        by_cases hlt : vs.length < q.length
        · obtain ⟨p, hx⟩ : ∃ x, q[vs.length]? = some x := ⟨_, List.getElem?_eq_getElem hlt⟩
          obtain ⟨a, d0, d1, rfl, _, hab, hc0, hc1, A1, cap1, hd, hne, hs1⟩ := hRUH.out vs.length p hx
          obtain ⟨rfl, rfl⟩ : d0 = .slice A1 p.1.length cap1 ∧ d1 = .int .i64 p.2 := by simpa using hd
          have hw0 : wr.cell? (a.add (vs.length * 2)) = some (.slice A1 p.1.length cap1) := (hM.out.bel.cell (p := a.add (vs.length * 2)) (by rw [block_of_add]; exact hab)).trans hc0
          have hix := run_ixR a vs.length q.length cq hlt
          have j0 : wr.cell? ⟨U.heap.size, 0, none⟩ = some (.slice A vs.length cc) := Lib.cell_of_heap hM.out.blk 0
          have f0 := Lib.frozen_of_heap hM.out.blk 0
          have j1 : (wr.alloc (.cells #[.slice A1 p.1.length cap1] 49)).cell? ⟨U.heap.size, 0, none⟩ = some (.slice A vs.length cc) := (((Below.refl wr.heap.size wr).alloc (Nat.le_refl _) _).cell (p := ⟨U.heap.size, 0, none⟩) hM.out.lt).trans j0
          have hVn := Lib.hid (vals_next (Ai := A1) (ci := cap1) hV.out hx hs1)
          have hltH := Lib.hid hlt
          have hszw := hM.out.bel.size
          have dk : decide ((vs.length : Int) < (q.length : Int)) = true := decide_eq_true (by omega)
          clear hx hlt hd hne hs1 hc0 hc1
          go_upto_region 23 with fail
          go_region_law (refine step_append_lies _ rfl (.tmp 70) (.tmp 76) 22 rfl U.heap.size 49 i0 _ 1 24 Tryz.underlying22 hi hz0 hz1' hz2' rfl (by decide) (.slice A vs.length cc) vs.length vs (by simp [Act.eval]) (hM.out.own.alloc _) ⟨wr.heap.size, 0, none⟩ 1 1 [.slice A1 p.1.length cap1] (by simp [Act.eval]) rfl (one_cell wr _) (one_slice _ _ _) (by decide) (by unfold maxLen; omega) (by omega) (by simp; omega) _ rfl ?_; intro gb cap2 w7 hown hgr hat hlt7; have hM7 := hM.out.arg ((Below.refl _ _).alloc (Nat.le_refl _) _).drew hown hgr hat; have hM7H := Lib.hid hM7; have hB7 := hM.out.blk2 ((Below.refl _ _).alloc (Nat.le_refl _) _).drew hgr; have j7 := Lib.cell_of_heap hB7 0; have f7 := Lib.frozen_of_heap hB7 0; clear hown hgr hat hM7 hB7)
          all_goals go_wp2_with fail
          all_goals (
            have hl1 : (vs ++ [Value.slice A1 p.1.length cap1]).length = vs.length + 1 := by simp
            refine ⟨⟨some ⟨gb, 0, none⟩, cap2, vs ++ [Value.slice A1 p.1.length cap1], by rw [hl1]; go_num, by rw [hl1]; have := hltH.out; omega, Lib.hid (by rw [hl1]; exact hM7H.out), hVn⟩, ?_⟩
            have := hltH.out
            simp [intOf]
            omega)
        · have hlq : vs.length = q.length := by omega
          have hcm := Lib.hid (vals_cmds hM.out hV.out hlq (fun b hb => Nat.le_trans hbUH.out.size hb))
          have dk : decide ((vs.length : Int) < (q.length : Int)) = false := decide_eq_false (by omega)
          have dk2 : decide (vs.length < q.length) = false := decide_eq_false (by omega)
          have j0 : wr.cell? ⟨U.heap.size, 0, none⟩ = some (.slice A vs.length cc) := Lib.cell_of_heap hM.out.blk 0
          have f0 := Lib.frozen_of_heap hM.out.blk 0
          clear hlt
          have hlm : (q.map (·.1)).length = vs.length := by rw [List.length_map]; exact hlq.symm
          have hbw : Hid (Below w.heap.size w wr) := Lib.hid (hbUH.out.trans (hM.out.bel.mono hbUH.out.size))
          have hzw : Hid (wr.heap[w.heap.size]? = some (.cells #[.slice none 0 0] 24 (0, 0))) := Lib.hid ((hM.out.bel.block w.heap.size hltU.out).trans hzUH.out)
          have hfin : Hid (∀ e w', (mayB (q.map (·.1)) = true ∧ loadU (uu (q.map (·.1))) = (s.extract 5 (N + 5)).data.toList → TakeEnd w.heap.size (.inr (uu (q.map (·.1)), N + 9)) e w') → (¬ (mayB (q.map (·.1)) = true ∧ loadU (uu (q.map (·.1))) = (s.extract 5 (N + 5)).data.toList) → TakeEnd w.heap.size (.inl 5) e w') → TakeEnd w.heap.size R e w') := Lib.hid (fun e w' h1 h2 => by
            rw [hRR.out, ← huR.out, may_uu]
            split
            · rename_i h; exact h1 h
            · rename_i h; exact h2 h)
          generalize q.map (·.1) = m at *
          have hml : m.length ≤ 140737488355328 := by omega
          rw [hlq] at hlm j0
          have hlmH := Lib.hid hlm
          have hMy : Hid (∀ X, Below wr.heap.size wr X → Calls Tryz.prog 23 #[.agg #[.slice A q.length cc]] X fun e w' => e = .returned (.bool (mayB m)) ∧ Below X.heap.size X w') := Lib.hid (fun X hX => by rw [← hlm]; exact rmay_any (hcm.out.plain.on hX) hml hfw.out)
          have hK0 := Lib.hid (Below.drew (Below.refl wr.heap.size wr))
          have hOn : Hid (∀ a c, Below a.heap.size a c → Below wr.heap.size wr a → Below wr.heap.size wr c) := Lib.hid fun a c k h => h.trans (k.mono h.size)
          have hKJ : Hid (∀ X, Below wr.heap.size wr X → X.cell? ⟨U.heap.size, 0, none⟩ = some (.slice A q.length cc)) := Lib.hid (fun X hX => (hX.cell (p := ⟨U.heap.size, 0, none⟩) hM.out.lt).trans j0)
          have hltG := Lib.hid hM.out.lt
          clear hlm hlq hml
          have b2 : (N : Int) + 5 ≤ (s.size : Int) := by omega
          have b5 : (0 : Int) ≤ 5 := by omega
          have b6 : (5 : Int) ≤ (N : Int) + 5 := by omega
          have hsx : (s.extract 5 (N + 5)).size ≤ 4194304 := by simp; omega
          have hfu : Hid (∀ u, Below wr.heap.size wr u → u.heap[w.heap.size]? = some (.cells #[.slice none 0 0] 24 (0, 0)) ∧ Below w.heap.size w u) := Lib.hid (fun u hu => ⟨(hu.block w.heap.size (heap_lt hzw.out)).trans hzw.out, hbw.out.trans (hu.mono hbw.out.size)⟩)
          by_cases hmay : mayB m = true
          · have hme : Hid (∀ ss ∈ m, 1 ≤ ss.length) := Lib.hid (fun ss hss => by
              unfold mayB at hmay
              rw [Bool.and_eq_true, List.all_eq_true] at hmay
              have := hmay.2 ss hss
              unfold mayC at this
              rw [Bool.and_eq_true, Bool.and_eq_true] at this
              exact of_decide_eq_true this.1.1)
            have hLo := fun X (hX : Below wr.heap.size wr X) => rload_any (c := cc) (hcm.out.plain.on hX) hmay
            rw [hlmH.out] at hLo
            rw [hmay] at hMy hfin
            clear hmay
            by_cases hl : loadU (uu m) = (s.extract 5 (N + 5)).data.toList
            · have hLd : Hid (∀ X, Below wr.heap.size wr X → Calls Tryz.prog 24 #[.agg #[.slice A q.length cc]] X fun e w' => (∃ b : ByteArray, e = .returned (.string b) ∧ (b.toList == (s.extract 5 (N + 5)).toList) = true ∧ (b.toList != (s.extract 5 (N + 5)).toList) = false) ∧ Below X.heap.size X w') := Lib.hid (fun X hX => (hLo X hX).mono (by
                rintro e w' ⟨⟨b, rfl, _, h3⟩, h4⟩
                refine ⟨⟨b, rfl, ?_⟩, h4⟩
                rcases h3 with h3 | ⟨_, h3⟩
                · rw [Lib.toList_data, Lib.toList_data, h3, hl]
                  simp
                · rw [hl, size_len] at h3
                  omega))
              have hend : Hid (∀ e w', TakeEnd w.heap.size (.inr (uu m, N + 9)) e w' → TakeEnd w.heap.size R e w') := Lib.hid (fun e w' h => hfin.out e w' (fun _ => h) (fun h0 => absurd ⟨rfl, hl⟩ h0))
              clear hl hLo hsx hfin
              go_upto_region 24 with fail
              go_region_held3 (fun w' => Below wr.heap.size wr w' ∧ w'.cell? ⟨U.heap.size, 0, none⟩ = some (.slice A q.length cc))
                  (first | exact ⟨hK0.out, hKJ.out _ hK0.out⟩ | exact ⟨hOn.out _ _ (by assumption) (And.left (by assumption)), hKJ.out _ (hOn.out _ _ (by assumption) (And.left (by assumption)))⟩)
                  (first
                  | (go_at_call 23; ((with_reducible refine (hMy.out _ (And.left (by assumption))).mono ?_); rintro e u3 ⟨rfl, b3⟩))
                  | (go_at_call 24; ((with_reducible refine (hLd.out _ (And.left (by assumption))).mono ?_); rintro e u4 ⟨⟨b, rfl, hq1, hq2⟩, b4⟩)))
              have hS4 : Below wr.heap.size wr u4 ∧ u4.cell? ⟨U.heap.size, 0, none⟩ = some (.slice A q.length cc) := by assumption
              obtain ⟨hz4, hb4⟩ := hfu.out u4 hS4.1
              have hz4H := Lib.hid hz4
              have hb4H := Lib.hid hb4
              have hcm4 := Lib.hid (hcm.out.on hS4.1)
              have c1 : u4.cell? ⟨w.heap.size, 0, none⟩ = some (.slice none 0 0) := Lib.cell_of_heap hz4 0
              have g1 := Lib.frozen_of_heap hz4 0
              have c2 := hS4.2
              have w9 := IntWalk.i64_in ((N : Int) + 9) (by omega)
              clear hz4 hb4 hS4 b4
              go_wp2_with fail
              have e0 : (u4.setCell ⟨w.heap.size, 0, none⟩ (.slice A q.length cc)).cell? ⟨w.heap.size, 0, none⟩ = some (.slice A q.length cc) := Lib.cell_of_heap (set_one hz4H.out (.slice A q.length cc)) 0
              refine bodyPost_ret (v := .tuple #[.agg #[.slice A q.length cc], .int .i64 ((N : Int) + 9), .int .i64 0]) (by simp [results, Tryz.results15, go_sem, e0]) rfl ⟨?_, ?_⟩
              · refine hend.out _ _ ⟨m, A, cc, rfl, hcm4.out.poke hme.out c1 _, ?_⟩
                rw [hlmH.out]
                rfl
              · exact hb4H.out.setCell (p := ⟨w.heap.size, 0, none⟩) (Nat.le_refl _) _
            · have hLd : Hid (∀ X, Below wr.heap.size wr X → Calls Tryz.prog 24 #[.agg #[.slice A q.length cc]] X fun e w' => (∃ b : ByteArray, e = .returned (.string b) ∧ (b.toList == (s.extract 5 (N + 5)).toList) = false ∧ (b.toList != (s.extract 5 (N + 5)).toList) = true) ∧ Below X.heap.size X w') := Lib.hid (fun X hX => (hLo X hX).mono (by
                rintro e w' ⟨⟨b, rfl, _, h3⟩, h4⟩
                refine ⟨⟨b, rfl, ?_⟩, h4⟩
                have hne : b.data.toList ≠ (s.extract 5 (N + 5)).data.toList := by
                  rcases h3 with h3 | ⟨h3, _⟩
                  · rw [h3]; exact hl
                  · intro e
                    have := congrArg List.length e
                    rw [size_len, size_len] at this
                    omega
                rw [Lib.toList_data, Lib.toList_data]
                simpa using hne))
              have hend : Hid (∀ e w', TakeEnd w.heap.size (.inl 5) e w' → TakeEnd w.heap.size R e w') := Lib.hid (fun e w' h => hfin.out e w' (fun h0 => absurd h0.2 hl) (fun _ => h))
              clear hl hLo hsx hfin
              go_upto_region 24 with fail
              go_region_held3 (fun w' => Below wr.heap.size wr w' ∧ w'.cell? ⟨U.heap.size, 0, none⟩ = some (.slice A q.length cc))
                  (first | exact ⟨hK0.out, hKJ.out _ hK0.out⟩ | exact ⟨hOn.out _ _ (by assumption) (And.left (by assumption)), hKJ.out _ (hOn.out _ _ (by assumption) (And.left (by assumption)))⟩)
                  (first
                  | (go_at_call 23; ((with_reducible refine (hMy.out _ (And.left (by assumption))).mono ?_); rintro e u3 ⟨rfl, b3⟩))
                  | (go_at_call 24; ((with_reducible refine (hLd.out _ (And.left (by assumption))).mono ?_); rintro e u4 ⟨⟨b, rfl, hq1, hq2⟩, b4⟩)))
              have hS4 : Below wr.heap.size wr u4 ∧ u4.cell? ⟨U.heap.size, 0, none⟩ = some (.slice A q.length cc) := by assumption
              obtain ⟨hz4, hb4⟩ := hfu.out u4 hS4.1
              have hz4H := Lib.hid hz4
              have hb4H := Lib.hid hb4
              have c1 : u4.cell? ⟨w.heap.size, 0, none⟩ = some (.slice none 0 0) := Lib.cell_of_heap hz4 0
              have g1 := Lib.frozen_of_heap hz4 0
              clear hz4 hb4 hS4 b4
              go_wp2_with fail
              have e0 : (u4.setCell ⟨w.heap.size, 0, none⟩ (.slice none 0 0)).cell? ⟨w.heap.size, 0, none⟩ = some (.slice none 0 0) := Lib.cell_of_heap (set_one hz4H.out (.slice none 0 0)) 0
              refine bodyPost_ret (v := .tuple #[.agg #[.slice none 0 0], .int .i64 0, .int .i64 5]) (by simp [results, Tryz.results15, go_sem, e0]) rfl ⟨?_, ?_⟩
              · exact hend.out _ _ rfl
              · exact hb4H.out.setCell (p := ⟨w.heap.size, 0, none⟩) (Nat.le_refl _) _
          · have hm' : mayB m = false := by simpa using hmay
            rw [hm'] at hMy hfin
            clear hmay hm' hsx
            have hend : Hid (∀ e w', TakeEnd w.heap.size (.inl 5) e w' → TakeEnd w.heap.size R e w') := Lib.hid (fun e w' h => hfin.out e w' (fun h0 => by cases h0.1) (fun _ => h))
            clear hfin
            go_upto_region 24 with fail
            first
              | go_region_held3 (fun w' => Below wr.heap.size wr w' ∧ w'.cell? ⟨U.heap.size, 0, none⟩ = some (.slice A q.length cc))
                  (first | exact ⟨hK0.out, hKJ.out _ hK0.out⟩ | exact ⟨hOn.out _ _ (by assumption) (And.left (by assumption)), hKJ.out _ (hOn.out _ _ (by assumption) (And.left (by assumption)))⟩ | assumption)
                  (first
                  | (go_at_call 23; ((with_reducible refine (hMy.out _ (And.left (by assumption))).mono ?_); rintro e u3 ⟨rfl, b3⟩)))
              | fail
            all_goals (
              have hS4 : Below wr.heap.size wr u3 ∧ u3.cell? ⟨U.heap.size, 0, none⟩ = some (.slice A q.length cc) := by assumption
              obtain ⟨hz4, hb4⟩ := hfu.out u3 hS4.1
              have hz4H := Lib.hid hz4
              have hb4H := Lib.hid hb4
              have c1 : u3.cell? ⟨w.heap.size, 0, none⟩ = some (.slice none 0 0) := Lib.cell_of_heap hz4 0
              have g1 := Lib.frozen_of_heap hz4 0
              clear hz4 hb4 hS4 b3
              go_wp2_with fail
              have e0 : (u3.setCell ⟨w.heap.size, 0, none⟩ (.slice none 0 0)).cell? ⟨w.heap.size, 0, none⟩ = some (.slice none 0 0) := Lib.cell_of_heap (set_one hz4H.out (.slice none 0 0)) 0
              refine bodyPost_ret (v := .tuple #[.agg #[.slice none 0 0], .int .i64 0, .int .i64 5]) (by simp [results, Tryz.results15, go_sem, e0]) rfl ⟨?_, ?_⟩
              · exact hend.out _ _ rfl
              · exact hb4H.out.setCell (p := ⟨w.heap.size, 0, none⟩) (Nat.le_refl _) _)
theorem size_zero {s : ByteArray} (h : s.size = 0) : s = ⟨#[]⟩ := by
  obtain ⟨⟨l⟩⟩ := s
  cases l with
  | nil => rfl
  | cons a t => simp [ByteArray.size] at h
/-- The document's Take, whatever bytes. -/
theorem rtake15_any (s : ByteArray) (w : World) (hs : s.size ≤ 1099511627776) : Calls Tryz.prog 15 #[.string s] w fun e w' => TakeEnd w.heap.size (takeU s.data.toList) e w' ∧ Below w.heap.size w w' := by
  by_cases h0 : s.size = 0
  · obtain rfl := size_zero h0
    exact rtake_none w
  by_cases h85 : s[0]'(by omega) = 85
  case neg => exact rtake_form s w (by omega) h85
  by_cases h5 : s.size < 5
  · exact rtake_few s w (by omega) h85 h5
  by_cases h4 : 4194304 < len4 s.data.toList
  · exact rtake_long s w (by omega) h85 h4
  by_cases h9 : s.size < len4 s.data.toList + 9
  · exact rtake_short s w (by omega) h85 (by omega) h9
  by_cases hq : sealL (s.data.toList.take (len4 s.data.toList + 5)) = s.data.toList.take (len4 s.data.toList + 9)
  · exact rtake_rest s w (by omega) h85 (by omega) (by omega) hs hq
  · exact rtake_sum s w (by omega) h85 (by omega) (by omega) hs hq
end Go.Proofs.YtjidopgohdlfdaaGreatDoor

