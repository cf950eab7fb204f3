/-
  The walk of the reference's reader of a list, given that of a reply. A premise: the text is shorter than 4294967281 bytes.
-/
import Derived.Test.YtogbjhpkbdmllaaDoorRY
namespace Go.Proofs.YtogbjhpkbdmllaaDoor
open Go.RowKit Rp Dec

theorem laid_three {W : World} {b : Nat} {c0 c1 c2 c3 v : Value} (h : W.heap[b]? = some (.cells #[c0, c1, c2, c3] 24 (0, 0))) :
    (W.setCell ⟨b, 3, none⟩ v).heap[b]? = some (.cells #[c0, c1, c2, v] 24 (0, 0)) := by
  simp [World.setCell, Array.getElem?_modify, h]
theorem Row.beside {W : World} {g k : Nat} {v u : Value} {j : Nat} {ys : List (Rep k)} (h : Row W (g + 1) k v ys) : Row (W.setCell ⟨g, j, none⟩ u) (g + 1) k v ys := by
  obtain ⟨css, h1, h2, h3, h4⟩ := h
  have hne : ∀ b, v.ownBlock = some b → b ≠ g := fun b e => by have := (h1.lt b e).1; omega
  have hg : W.grownBy (W.setCell ⟨g, j, none⟩ u) (some g) := ⟨rfl, rfl, rfl, by simp, fun i _ hi => Below.heap_setCell _ _ _ _ (fun e => hi (by rw [e]))⟩
  refine ⟨css, h1.kept (row := some g) hg (Or.inr fun e => hne g e rfl), h2, h3, fun i y hy => ?_⟩
  obtain ⟨cs, hc, hr⟩ := h4 i y hy
  exact ⟨cs, hc, hr.keep (fun p hp _ => World.cell?_setCell_other _ _ _ _ (fun e => by have := hp.1; rw [← e] at this; simp at this; omega)) (by simp) (fun b hb _ => hb)⟩
theorem four_facts {W : World} {b : Nat} {c0 c1 c2 c3 : Value} (h : W.heap[b]? = some (.cells #[c0, c1, c2, c3] 24 (0, 0))) :
    W.cell? ⟨b, 0, none⟩ = some c0 ∧ W.cell? ⟨b, 1, none⟩ = some c1 ∧ W.cell? ⟨b, 2, none⟩ = some c2 ∧ W.cell? ⟨b, 3, none⟩ = some c3 ∧ W.frozen? ⟨b, 3, none⟩ = false ∧ b < W.heap.size :=
  ⟨Lib.cell_of_heap h 0, Lib.cell_of_heap h 1, Lib.cell_of_heap h 2, Lib.cell_of_heap h 3, Lib.frozen_of_heap h 3, (Array.getElem?_eq_some_iff.1 h).1⟩

set_option maxRecDepth 100000 in
set_option maxHeartbeats 4000000 in
theorem rlist_any (k within : Nat) (hk : within + k = 8) (ih : ∀ (s : ByteArray) (w : World), s.size < 4294967281 → k ≠ 0 → Calls Tryd.prog 27 #[.string s, .int .i64 ((within : Int) + 1)] w (TakeEnd k (takeF k s.data.toList) w))
    (s : ByteArray) (w : World) (hs : s.size < 4294967281) :
    Calls Tryd.prog 43 #[.string s, .int .i64 within] w (SubEnd (k + 1) (listN (k == 0) (takeF k) s.data.toList : Sum Int (RNode (Rep k) × Nat)) w) := by
  have hnew := Lib.hid (heap_alloc_new w (.cells #[.int .i64 0, .int .i64 0, .string ⟨#[]⟩, .slice none 0 0] 24))
  by_cases hk0 : k = 0
  · have hR : Hid ((listN (k == 0) (takeF k) s.data.toList : Sum Int (RNode (Rep k) × Nat)) = .inl 7) := Lib.hid (by unfold listN; rw [if_pos (by simpa using hk0)])
    obtain rfl : within = 8 := by omega
    clear ih hk hk0
    go_enter Tryd.func43, Tryd.ntmps43
    go_wp2_with fail
    refine bodyPost_ret (v := .tuple #[.agg #[.int .i64 0, .int .i64 0, .string ⟨#[]⟩, .slice none 0 0], .int .i64 (0), .int .i64 (7)]) (by simp [results, Tryd.results43, go_sem]) rfl ?_
    exact sub_no hR.out ((Below.refl _ _).alloc (Nat.le_refl _) _)
  · have hw8 : within < 8 := by omega
    have ih' := fun s w hs => ih s w hs hk0
    have hfl : (k == 0) = false := by simpa using hk0
    cases hD : decGo (-1) 65536 7 [] s.data.toList with
    | inl x =>
      have hx := header_no hs (by decide) (by decide) hD
      have hR : Hid ((listN (k == 0) (takeF k) s.data.toList : Sum Int (RNode (Rep k) × Nat)) = .inl x) := Lib.hid (by unfold listN; rw [hfl, if_neg (by decide), hD])
      have hne : (x != 0) = true := by rcases dec_err _ _ _ hD with e | e | e <;> rw [e] <;> decide
      clear hD hfl ih ih' hk0
      go_enter Tryd.func43, Tryd.ntmps43
      go_wp2_with (go_at_call 55; ((with_reducible refine (hx _).mono ?_); rintro e w' ⟨rfl, hb⟩; obtain ⟨c0, c1, c2, c3, f0, f1, f2, f3⟩ := cells4 hb hnew.out (by simp)))
      have hl := laid4 (v0 := .int .i64 7) (v1 := .int .i64 0) (v2 := .string ⟨#[]⟩) (v3 := .slice none 0 0) ((hb.block w.heap.size (by simp)).trans hnew.out)
      have hB := Lib.hid (ret_below hb (v0 := .int .i64 7) (v1 := .int .i64 0) (v2 := .string ⟨#[]⟩) (v3 := .slice none 0 0))
      generalize ((((w'.setCell ⟨w.heap.size, 0, none⟩ (.int .i64 7)).setCell ⟨w.heap.size, 1, none⟩ (.int .i64 0)).setCell ⟨w.heap.size, 2, none⟩ (.string ⟨#[]⟩)).setCell ⟨w.heap.size, 3, none⟩ (.slice none 0 0)) = w2 at hl hB ⊢
      obtain ⟨d0, d1, d2, d3⟩ := read4 hl
      refine bodyPost_ret (v := .tuple #[.agg #[.int .i64 7, .int .i64 0, .string ⟨#[]⟩, .slice none 0 0], .int .i64 (0), .int .i64 (x)]) (by simp [results, Tryd.results43, go_sem, d0, d1, d2, d3]) rfl ?_
      exact sub_no hR.out hB.out
    | inr q =>
      obtain ⟨n, j⟩ := q
      have hx := header_yes hs (by decide) (by decide) hD
      have hG : (listN (k == 0) (takeF k) s.data.toList : Sum Int (RNode (Rep k) × Nat)) = subsN (takeF k) n j (s.data.toList.drop j) := by unfold listN; rw [hfl, if_neg (by decide), hD]
      obtain ⟨hj, _, hlo, hhi, _⟩ := dec_bounds hD
      clear hD hfl ih hk0
      by_cases hn1 : n = -1
      · subst hn1
        have hR : Hid ((listN (k == 0) (takeF k) s.data.toList : Sum Int (RNode (Rep k) × Nat)) = .inr (⟨7, 0, [], []⟩, j)) := Lib.hid (by rw [hG]; unfold subsN; rw [if_pos rfl])
        clear hG ih'
        go_enter Tryd.func43, Tryd.ntmps43
        go_wp2_with (go_at_call 55; ((with_reducible refine (hx _).mono ?_); rintro e w' ⟨rfl, hb⟩; obtain ⟨c0, c1, c2, c3, f0, f1, f2, f3⟩ := cells4 hb hnew.out (by simp)))
        have hl := laid4 (v0 := .int .i64 7) (v1 := .int .i64 0) (v2 := .string ⟨#[]⟩) (v3 := .slice none 0 0) ((hb.block w.heap.size (by simp)).trans hnew.out)
        have hB := Lib.hid (ret_below hb (v0 := .int .i64 7) (v1 := .int .i64 0) (v2 := .string ⟨#[]⟩) (v3 := .slice none 0 0))
        generalize ((((w'.setCell ⟨w.heap.size, 0, none⟩ (.int .i64 7)).setCell ⟨w.heap.size, 1, none⟩ (.int .i64 0)).setCell ⟨w.heap.size, 2, none⟩ (.string ⟨#[]⟩)).setCell ⟨w.heap.size, 3, none⟩ (.slice none 0 0)) = w2 at hl hB ⊢
        obtain ⟨d0, d1, d2, d3⟩ := read4 hl
        refine bodyPost_ret (v := .tuple #[.agg #[.int .i64 7, .int .i64 0, .string ⟨#[]⟩, .slice none 0 0], .int .i64 (j), .int .i64 (0)]) (by simp [results, Tryd.results43, go_sem, d0, d1, d2, d3]) rfl ?_
        exact TakeEnd.sub (take_leaf hR.out rfl hB.out rfl (by unfold inI64; omega) (by unfold inI64; omega) (Nat.zero_le _))
      · obtain ⟨cnt, rfl⟩ : ∃ m : Nat, n = (m : Int) := ⟨n.toNat, by omega⟩
        obtain ⟨T, hT⟩ : ∃ T, listGo (takeF k) cnt (s.data.toList.drop j) = T := ⟨_, rfl⟩
        have hG2 : Hid ((listN (k == 0) (takeF k) s.data.toList : Sum Int (RNode (Rep k) × Nat)) = listAns j T) := Lib.hid (by
          rw [hG]; unfold subsN; rw [if_neg hn1, Int.toNat_natCast, ← hT]; rfl)
        have hTH := Lib.hid hT
        clear hG hn1 hT
        obtain ⟨i0, hi, hz0, hz1, hz2⟩ := info_parts reply_info
        go_enter Tryd.func43, Tryd.ntmps43
        go_wp2_with (go_at_call 55; ((with_reducible refine (hx _).mono ?_); rintro e w' ⟨rfl, hb⟩; obtain ⟨c0, c1, c2, c3, f0, f1, f2, f3⟩ := cells4 hb hnew.out (by simp)))
        clear hx
        have hb0 : Below w'.heap.size w' (w'.alloc (.cells #[.int .i64 6, .int .i64 0, .string ⟨#[]⟩, .slice none 0 0] 24)) := (Below.refl _ _).alloc (Nat.le_refl _) _
        have hbS : w.heap.size + 1 ≤ w'.heap.size := by have := hb.size; simpa using this
        have hbH : Hid (Below (w.heap.size + 1) (w.alloc (.cells #[.int .i64 0, .int .i64 0, .string ⟨#[]⟩, .slice none 0 0] 24)) w') := Lib.hid (hb.mono (by simp))
        have hn0 := Lib.hid (heap_alloc_new w' (.cells #[.int .i64 6, .int .i64 0, .string ⟨#[]⟩, .slice none 0 0] 24))
        clear hb c0 c1 c2 c3 f0 f1 f2 f3
        go_loopw [8, 11] (fun sz i wr => ∃ (c m : Nat) (ys : List (Rep k)) (v : Value), i = .int .i64 c ∧ c ≤ cnt ∧ ys.length = c ∧ j + m ≤ s.size ∧ sz = .int .i64 ((j : Int) + m) ∧
            Hid (addL ys m (listGo (takeF k) (cnt - c) (s.data.toList.drop (j + m))) = T) ∧ wr.heap[w'.heap.size]? = some (.cells #[.int .i64 6, .int .i64 0, .string ⟨#[]⟩, v] 24 (0, 0)) ∧ Row wr (w'.heap.size + 1) k v ys ∧ Below w'.heap.size w' wr) (fun _ i _ => cnt - (intOf i).toNat)
        case atStart => exact ⟨0, 0, [], .slice none 0 0, rfl, by omega, rfl, by omega, by go_num, Lib.hid (by rw [addL_nil]; exact hTH.out), hn0.out, Row.none_ _ _ _, hb0⟩
        case round =>
          clear hb0 hTH hn0
          obtain ⟨c, m, ys, v, rfl, hc, hlen, hm, rfl, hTH, hg, hRow, hbl⟩ := hrel
          have hbA := hbH.out.trans (hbl.mono hbS)
          obtain ⟨g0, g1, g2, g3, g4, hgl⟩ := four_facts hg
          by_cases hlt : c < cnt
          · have hcz : Hid (cnt - c = (cnt - (c + 1)) + 1) := Lib.hid (by omega)
            have hsz : (s.extract (j + m) s.size).size = s.size - (j + m) := by simp
            have hcall := ih' (s.extract (j + m) s.size) wr (by omega)
            rw [tail_data] at hcall
            clear hsz
            cases hf : takeF k (s.data.toList.drop (j + m)) with
            | inl x =>
              have hx0 : (x != 0) = true := by simpa using takeF_err _ _ _ hf
              have hE : Hid (T = .inl x) := Lib.hid (by rw [← hTH.out, hcz.out, addL_err hf])
              rw [hf] at hcall
              clear hf ih'
              go_wp2_with (go_at_call 27; ((with_reducible refine hcall.mono ?_); rintro e w1 ⟨hb1, rfl⟩; have hbw := hbA.trans (hb1.mono (Nat.le_trans hbS hbl.size)); have hzz : w.heap.size < w1.heap.size := (by have := hbw.size; simp at this; omega); obtain ⟨c0, c1, c2, c3, f0, f1, f2, f3⟩ := cells4 hbw hnew.out (Nat.lt_succ_self _)))
              have hl := laid4 (v0 := .int .i64 0) (v1 := .int .i64 0) (v2 := .string ⟨#[]⟩) (v3 := .slice none 0 0) ((hbw.block w.heap.size (Nat.lt_succ_self _)).trans hnew.out)
              have hB := Lib.hid (ret_below' hbw (v0 := .int .i64 0) (v1 := .int .i64 0) (v2 := .string ⟨#[]⟩) (v3 := .slice none 0 0))
              generalize ((((w1.setCell ⟨w.heap.size, 0, none⟩ (.int .i64 0)).setCell ⟨w.heap.size, 1, none⟩ (.int .i64 0)).setCell ⟨w.heap.size, 2, none⟩ (.string ⟨#[]⟩)).setCell ⟨w.heap.size, 3, none⟩ (.slice none 0 0)) = w2 at hl hB ⊢
              have hl2 := (Lib.alloc_old w2 (.cells #[.int .i64 0, .int .i64 0, .string ⟨#[]⟩, .slice none 0 0] 24) _ (Array.getElem?_eq_some_iff.1 hl).1).trans hl
              have hB2 := Lib.hid (hB.out.alloc hB.out.size (.cells #[.int .i64 0, .int .i64 0, .string ⟨#[]⟩, .slice none 0 0] 24))
              clear hl
              generalize w2.alloc (.cells #[.int .i64 0, .int .i64 0, .string ⟨#[]⟩, .slice none 0 0] 24) = w3 at hl2 hB2 ⊢
              obtain ⟨d0, d1, d2, d3⟩ := read4 hl2
              refine bodyPost_ret (v := .tuple #[.agg #[.int .i64 0, .int .i64 0, .string ⟨#[]⟩, .slice none 0 0], .int .i64 0, .int .i64 x]) (by simp [results, Tryd.results43, go_sem, d0, d1, d2, d3]) rfl ?_
              exact sub_no (by rw [hG2.out, hE.out]; rfl) hB2.out
            | inr q =>
              obtain ⟨y, n⟩ := q
              have hle : n ≤ s.size - (j + m) := by
                have := takeF_le (w := within + 1) (by omega) hf
                rw [List.length_drop] at this
                have e : s.data.toList.length = s.size := by simp
                omega
              have hN : Hid (addL (ys ++ [y]) (m + n) (listGo (takeF k) (cnt - (c + 1)) (s.data.toList.drop (j + (m + n)))) = T) := Lib.hid (by
                rw [← hTH.out, hcz.out, addL_step hf, List.drop_drop, show j + m + n = j + (m + n) by omega])
              rw [hf] at hcall
              clear hf ih'
              have hcall2 : Calls Tryd.prog 27 #[.string (s.extract (j + m) s.size), .int .i64 ((within : Int) + 1)] wr fun e w1 => ∃ kd nm b A len cap, e = .returned (.tuple #[.agg #[.int .i64 kd, .int .i64 nm, .string b, .slice A len cap], .int .i64 n, .int .i64 0]) ∧ Below wr.heap.size wr w1 ∧
                  RAt w1 (fun b => wr.heap.size ≤ b) k y [.int .i64 kd, .int .i64 nm, .string b, .slice A len cap] := hcall.mono fun e w1 h => by
                obtain ⟨hb1, cs, he, hr⟩ := h
                obtain ⟨kd, nm, b, A, len, cap, rfl⟩ := hr.form (by omega)
                exact ⟨kd, nm, b, A, len, cap, he, hb1, hr⟩
              clear hcall
              have hlen' : ys.length ≤ 65536 := by omega
              have hlenH := Lib.hid hlen
              clear hlen
              have hgH := Lib.hid hg
              clear hg
              obtain ⟨A0, cap0, hv, _⟩ := hRow.sub
              subst hv
              go_upto_region 13 with (go_at_call 27; ((with_reducible refine hcall2.mono ?_); rintro e w1 ⟨kd, nm, b, A, len, cap, rfl, hb1, hr⟩))
              have hs1 := hb1.size
              have hRow1 := (hRow.below hb1).below ((Below.refl _ _).alloc (Nat.le_refl _) (.cells #[.int .i64 kd, .int .i64 nm, .string b, .slice A len cap] 24))
              have hF := fresh_ok hRow hgl hr ((Below.refl _ _).alloc (Nat.le_refl _) (.cells #[.int .i64 kd, .int .i64 nm, .string b, .slice A len cap] 24))
              have hbw2 := (hbl.trans (hb1.mono hbl.size)).alloc (Nat.le_trans hbl.size hb1.size) (.cells #[.int .i64 kd, .int .i64 nm, .string b, .slice A len cap] 24)
              have hg4 := (Lib.alloc_old w1 (.cells #[.int .i64 kd, .int .i64 nm, .string b, .slice A len cap] 24) w'.heap.size (by omega)).trans ((hb1.block w'.heap.size hgl).trans hgH.out)
              have hbox := heap_alloc_new w1 (.cells #[.int .i64 kd, .int .i64 nm, .string b, .slice A len cap] 24)
              have hz4 : w'.heap.size < (w1.alloc (.cells #[.int .i64 kd, .int .i64 nm, .string b, .slice A len cap] 24)).heap.size := by simp; omega
              generalize w1.alloc (.cells #[.int .i64 kd, .int .i64 nm, .string b, .slice A len cap] 24) = w4 at hRow1 hF hbw2 hbox hg4 hz4 ⊢
              have hc3 := Lib.cell_of_heap hg4 3
              obtain ⟨css, r1, r2, r3, r4⟩ := hRow1
              go_step
              go_step
              go_step
              go_step
              go_step
              go_step
              go_step
              refine wpList_load_row rfl 24 (.tmp 12) rfl w1.heap.size rfl 24 #[.int .i64 kd, .int .i64 nm, .string b, .slice A len cap] (0, 0) _ hbox Tryd.underlying24 rfl (by kernel_rfl) ?_
              refine wpList_reply (.tmp 55) rfl rfl (d := some 56) rfl #[.int .i64 kd, .int .i64 nm, .string b, .slice A len cap] rfl rfl ?_
              refine wpList_append_own_at _ rfl (.tmp 54) (.tmp 56) 22 rfl (w'.heap.size + 1) 24 i0 _ 4 56 Tryd.underlying22 hi hz0 hz1 hz2 rfl (by decide) (.slice A0 ys.length cap0) ys.length css.flatten rfl (r1.alloc _) ⟨w4.heap.size, 0, none⟩ 1 1 [.int .i64 kd, .int .i64 nm, .string b, .slice A len cap] rfl rfl (new_cells _ [.int .i64 kd, .int .i64 nm, .string b, .slice A len cap]) hF.len.2 (by unfold maxLen; omega) (by omega) (by simp; omega) ?_
              intro v' w5 hown' hgrow _ hloc
              have hRowN := Row.push r2 r3 r4 hF hown' hgrow hloc
              obtain ⟨A9, cap9, hv9, _⟩ := hRowN.sub
              rw [List.length_append, List.length_singleton] at hv9
              subst hv9
              have hbN := (hbw2.alloc hbw2.size (.cells #[.int .i64 kd, .int .i64 nm, .string b, .slice A len cap] 24)).grown hgrow (by have := hbw2.size; simp at this ⊢; omega) (fun k hk => by have := (r1.lt k hk).1; omega)
              have hg5 := ((hgrow.block w'.heap.size (by simp; omega) (fun e => by have := (r1.lt _ e.symm).1; omega)).trans (Lib.alloc_old w4 (.cells #[.int .i64 kd, .int .i64 nm, .string b, .slice A len cap] 24) w'.heap.size hz4)).trans hg4
              have hg6 := Lib.hid (laid_three hg5 (v := .slice A9 (ys.length + 1) cap9))
              have hR6 := Lib.hid (Row.beside hRowN (j := 3) (u := .slice A9 (ys.length + 1) cap9))
              have hB6 := Lib.hid (hbN.setCell (p := ⟨w'.heap.size, 3, none⟩) (Nat.le_refl _) (.slice A9 (ys.length + 1) cap9))
              have hc5 := Lib.cell_of_heap hg5 3
              have hf5 := Lib.frozen_of_heap hg5 3
              have hz5 := (Array.getElem?_eq_some_iff.1 hg5).1
              clear hown' hgrow hloc r1 r2 r3 r4 hF hRow hbox hg4 hg5 hc3 hRowN hbN hbw2 hbl hbA
              go_wp2_with fail
              go_roundw
              case rel => exact ⟨c + 1, m + n, ys ++ [y], _, by go_num, by omega, by have := hlenH.out; simp; omega, by omega, congrArg (Value.int .i64) (by omega), hN, hg6.out, hR6.out, hB6.out⟩
              case measure => simp [intOf]; omega
          · have hE : Hid (T = .inr (ys, m)) := Lib.hid (by rw [← hTH.out, show cnt - c = 0 by omega, addL_end])
            have hlen' : ys.length ≤ 65536 := by omega
            obtain ⟨A, cap, hv, hcap, hsub⟩ := hRow.sub
            subst hv
            clear hlen ih'
            have hzz : w.heap.size < wr.heap.size := by omega
            have hsub2 := hsub.keep (ok' := fun b => w.heap.size + 1 ≤ b) (g := RAt wr (fun b => w.heap.size + 1 ≤ b) k) (fun _ _ _ => rfl) (Nat.le_refl _) (fun b hb _ => by omega) (fun y cs hy => hy.weaken (fun b hb _ => by omega))
            clear hsub hg
            obtain ⟨c0, c1, c2, c3, f0, f1, f2, f3⟩ := cells4 hbA hnew.out (Nat.lt_succ_self _)
            go_wp2_with fail
            have hl := laid4 (v0 := .int .i64 6) (v1 := .int .i64 0) (v2 := .string ⟨#[]⟩) (v3 := .slice A ys.length cap) ((hbA.block w.heap.size (Nat.lt_succ_self _)).trans hnew.out)
            have hB := Lib.hid (ret_below' hbA (v0 := .int .i64 6) (v1 := .int .i64 0) (v2 := .string ⟨#[]⟩) (v3 := .slice A ys.length cap))
            have hS := Lib.hid (sub_after hsub2 (W := ((((wr.setCell ⟨w.heap.size, 0, none⟩ (.int .i64 6)).setCell ⟨w.heap.size, 1, none⟩ (.int .i64 0)).setCell ⟨w.heap.size, 2, none⟩ (.string ⟨#[]⟩)).setCell ⟨w.heap.size, 3, none⟩ (.slice A ys.length cap))) (by simp) (fun p hp => put_other p hp))
            generalize ((((wr.setCell ⟨w.heap.size, 0, none⟩ (.int .i64 6)).setCell ⟨w.heap.size, 1, none⟩ (.int .i64 0)).setCell ⟨w.heap.size, 2, none⟩ (.string ⟨#[]⟩)).setCell ⟨w.heap.size, 3, none⟩ (.slice A ys.length cap)) = w2 at hl hB hS ⊢
            obtain ⟨d0, d1, d2, d3⟩ := read4 hl
            refine bodyPost_ret (v := .tuple #[.agg #[.int .i64 6, .int .i64 0, .string ⟨#[]⟩, .slice A ys.length cap], .int .i64 ((j : Int) + m), .int .i64 0]) (by simp [results, Tryd.results43, go_sem, d0, d1, d2, d3]) rfl ?_
            exact TakeEnd.sub (take_list (by rw [hG2.out, hE.out]; rfl) (by omega) hB.out (by omega) hS.out)

end Go.Proofs.YtogbjhpkbdmllaaDoor
