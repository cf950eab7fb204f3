/-
  The walk of the document's Drop. A table's shape.
-/
import Derived.Test.YtdldgiicblmknaaDoorZG
import Derived.Deep.RegionHeld3
import Derived.Deep.QuietTactic
import Derived.BigQuiet

namespace Go.Proofs.YtdldgiicblmknaaDoor
open Go.RowKit

theorem cut_out {c : List ByteArray} (hnd : c.Nodup) {j : Nat} {key : ByteArray} (h1 : c[j]? = some key) : c.take j ++ c.drop (j + 1) = outB c key := by
  obtain ⟨hlt, he⟩ := List.getElem?_eq_some_iff.1 h1
  have hc : c = c.take j ++ key :: c.drop (j + 1) := by
    have := List.take_append_drop j c
    rw [List.drop_eq_getElem_cons hlt, he] at this
    exact this.symm
  have hn := hnd
  rw [hc] at hn
  rw [List.nodup_append] at hn
  obtain ⟨_, hn2, hn3⟩ := hn
  rw [List.nodup_cons] at hn2
  have hk1 : ∀ x ∈ c.take j, (x.toList == key.toList) = false := fun x hx => by
    cases hh : (x.toList == key.toList) with
    | false => rfl
    | true => exact absurd (bytes_eq hh) (hn3 x hx key (List.mem_cons_self ..))
  have hk2 : ∀ x ∈ c.drop (j + 1), (x.toList == key.toList) = false := fun x hx => by
    cases hh : (x.toList == key.toList) with
    | false => rfl
    | true => have := bytes_eq hh; subst this; exact absurd hx hn2.1
  have hr : outB c key = outB (c.take j ++ key :: c.drop (j + 1)) key := by rw [← hc]
  rw [hr]
  unfold outB
  rw [List.filter_append, List.filter_cons]
  have hkk : (key.toList == key.toList) = true := by simp
  rw [hkk]
  simp only [Bool.not_true, Bool.false_eq_true, if_false]
  congr 1
  · rw [List.filter_eq_self.2]; intro x hx; rw [hk1 x hx]; rfl
  · rw [List.filter_eq_self.2]; intro x hx; rw [hk2 x hx]; rfl
theorem kok_out {t : KT} (h : KOk t) (i : Nat) (hi : i < t.old.length) (key : ByteArray) : KOk { t with old := t.old.set i (outB (t.old.getD i []) key) } := by
  have hm : t.old.getD i [] ∈ t.old := by rw [List.getD_eq_getElem?_getD, List.getElem?_eq_getElem hi]; exact List.getElem_mem hi
  refine ⟨h.seed, by simpa using h.s0, by simpa using h.s1, ⟨fun c hcm x hx => ?_, h.ks.2⟩, ?_⟩
  · rcases List.mem_or_eq_of_mem_set hcm with h1 | h1
    · exact h.ks.1 c h1 x hx
    · subst h1
      exact h.ks.1 _ hm x (outB_mem.1 hx).1
  · have h1 := flat_set_len t.old i hi (outB (t.old.getD i []) key)
    have h2 := outB_len (t.old.getD i []) key
    have := h.ct
    show (t.old.set i (outB (t.old.getD i []) key)).flatten.length + t.new.flatten.length ≤ 1000000
    omega
variable {B T : Nat} {t : KT} {vo vn : Value} {w : World}

set_option warningAsError false in
set_option maxHeartbeats 40000000 in
theorem drop_ref (h : RAt B T t vo vn w) (hk : KOk t) (hks : KOk (stepK t)) (hnd : (∀ c ∈ (stepK t).old, c.Nodup) ∧ ∀ c ∈ (stepK t).new, c.Nodup) (key : ByteArray) (hs : key.size ≤ 1000) :
    Calls Tryd.prog 28 #[.pointer (some ⟨T, 0, none⟩), .string key] w fun e w' => ∃ b : Bool, e = .returned (.bool b) ∧ ∃ vo' vn', RAt B T (dropK t key) vo' vn' w' ∧ RO B w w' := by
  have hst := Lib.hid (step_ref h hk)
  unfold dropK
  clear h hk
  generalize hsd : stepK t = s at *
  clear hsd
  obtain ⟨k0, hk2, hk16, hl0⟩ := hks.s0
  have hpo : plO s key < s.old.length := Nat.mod_lt _ (by rw [hl0]; exact pw_pos k0)
  have hmo : s.old.getD (plO s key) [] ∈ s.old := by rw [List.getD_eq_getElem?_getD, List.getElem?_eq_getElem hpo]; exact List.getElem_mem hpo
  go_enter Tryd.func28, Tryd.ntmps28
  go_upto_region 2 with (go_at_call 29; ((with_reducible refine (hst.out).mono ?_); rintro r w1 ⟨rfl, vo1, vn1, hR, hO⟩))
  obtain ⟨c0, c1, c2, c3, cf⟩ := hR.cells
  obtain ⟨go, capo, u, curo, rfl, hgo0, hgo1, hcuro, hcello, hch⟩ := hR.old.cell hpo
  obtain ⟨An, cpn, rfl⟩ := hR.new.len
  obtain ⟨Au, cpu, rfl⟩ := hch.len
  have hpl := Lib.hid (rkey_place T s.seed key (some ⟨go, 0, none⟩) s.old.length capo k0 hl0 hk16 hks.seed hs w1 c0)
  have hct := hks.ct
  have hcl : (s.old.getD (plO s key) []).length ≤ 1000000 := by
    have := mem_flat_len hmo
    omega
  have hin := Lib.hid (rin_any hch key hcl)
  have hRH := Lib.hid hR
  have hOH := Lib.hid hO
  have hchH := Lib.hid hch
  have hksH := Lib.hid hks
  have hko := Lib.hid (kok_out hks (plO s key) hpo key)
  have hndo := Lib.hid (hnd.1 _ hmo)
  have hndn := Lib.hid hnd.2
  have hp1 : Hid (drop1 s key = if hasB (s.old.getD (plO s key) []) key = true ∨ (0 ≤ s.moved ∧ hasB (s.new.getD (plN s key) []) key = true) then
    (if s.moved < 0 ∧ 4 < s.old.length ∧ 8 * cntK (if hasB (s.old.getD (plO s key) []) key = true then { s with old := s.old.set (plO s key) (outB (s.old.getD (plO s key) []) key) } else if 0 ≤ s.moved ∧ hasB (s.new.getD (plN s key) []) key = true then { s with new := s.new.set (plN s key) (outB (s.new.getD (plN s key) []) key) } else s) < s.old.length then { (if hasB (s.old.getD (plO s key) []) key = true then { s with old := s.old.set (plO s key) (outB (s.old.getD (plO s key) []) key) } else if 0 ≤ s.moved ∧ hasB (s.new.getD (plN s key) []) key = true then { s with new := s.new.set (plN s key) (outB (s.new.getD (plN s key) []) key) } else s) with new := List.replicate (s.old.length / 2) [], moved := 0 } else (if hasB (s.old.getD (plO s key) []) key = true then { s with old := s.old.set (plO s key) (outB (s.old.getD (plO s key) []) key) } else if 0 ≤ s.moved ∧ hasB (s.new.getD (plN s key) []) key = true then { s with new := s.new.set (plN s key) (outB (s.new.getD (plN s key) []) key) } else s))
    else s) := Lib.hid rfl
  rw [show num s.seed key % s.old.length = plO s key from rfl] at hpl
  have hl0H := Lib.hid hl0
  have hlo := pw_le hk16
  rw [← hl0] at hlo
  have hfzo : w1.frozen? ⟨go, plO s key, none⟩ = false := by simp [World.frozen?, hcuro]
  clear hR hO hch hks hst hl0 hct hmo hnd
  generalize hci : s.old.getD (plO s key) [] = ci at *
  generalize hpi : plO s key = pi at *
  generalize hol : s.old.length = ol at *
  have hix := run_ix go pi ol capo hpo
  have hpiH := Lib.hid hpi
  have holH := Lib.hid hol
  have hciH := Lib.hid hci
  have hpoH := Lib.hid hpo
  clear hpo hpi hol hci
  go_upto_region 4 with (first
    | (go_at_call 50; ((with_reducible refine (hpl.out).mono ?_); rintro r w2 ⟨rfl, rfl⟩))
    | (go_at_call 51; ((with_reducible refine (hin.out).mono ?_); rintro r w2 ⟨ri, rfl, hri, rfl⟩)))
  rcases inR_has hri with ⟨j, rfl, hj1, hj2, hj3⟩ | ⟨rfl, hj3⟩
  · have hd : decide ((0 : Int) ≤ (j : Int)) = true := by simp
    have hd2 : decide ((j : Int) < 0) = false := by simp
    have hjl : j < ci.length := (List.getElem?_eq_some_iff.1 hj1).1
    have hwt : Hid (∀ W, W = w1.drew → Calls Tryd.prog 54 #[.slice Au ci.length cpu, .int .i64 j] W fun e w' => ∃ (A' : Option Addr) (n' c' : Nat), e = .returned (.slice A' n' c') ∧ Ch B w' (.slice A' n' c') (outB ci key) ∧ Below w1.heap.size w1 w') := Lib.hid (by
      rintro W rfl
      refine (without_ref (hchH.out.same (rsame_drewN w1 1)) j hjl hcl).mono ?_
      rintro e w' ⟨u', rfl, hu, hb⟩
      rw [cut_out hndo.out hj1] at hu
      obtain ⟨A', c', rfl⟩ := hu.len
      obtain ⟨ys, y1, y2⟩ := hu
      refine ⟨A', _, c', rfl, ⟨ys, ?_, y2⟩, ((Below.refl w1.heap.size w1).drew).trans hb⟩
      obtain ⟨q1, q2 | ⟨g', cap', cur', e1, q3, q4⟩⟩ := y1
      · exact ⟨q1, Or.inl q2⟩
      · exact ⟨q1, Or.inr ⟨g', cap', cur', e1, Nat.le_trans hRH.out.pos q3, q4⟩⟩)
    rw [if_pos (Or.inl hj3)] at hp1
    simp only [hj3, if_true] at hp1
    clear hri hj1 hj2 hjl hcuro
    go_upto_region 5 with fail
    go_region_law (go_simp; go_at_call 54; ((with_reducible refine (hwt.out _ rfl).mono ?_); rintro r w2 ⟨A', n', c', rfl, hu, hb2⟩; obtain ⟨_, f1, _, _, _⟩ := (hRH.out.after hb2).cells; have fc := (hb2.cell (p := ⟨go, pi, none⟩) hgo1).trans hcello; have fz := (hb2.frozen (p := ⟨go, pi, none⟩) hgo1).trans hfzo; have huH := Lib.hid hu; have hb2H := Lib.hid hb2; clear hu hb2))
    all_goals
      have hR3 := Lib.hid ((hRH.out.after hb2H.out).setO (g := go) rfl pi huH.out)
      have hO3 := Lib.hid ((hOH.out.trans (ro_below hb2H.out hRH.out.pos)).trans (ro_row (hRH.out.after hb2H.out).old (g := go) rfl pi (.slice A' n' c')))
      clear c0 c1 c2 c3 cf hcello hfzo f1 fc fz huH hb2H hix
      generalize w2.setCell ⟨go, pi, none⟩ (.slice A' n' c') = W2 at *
      have hR4 : Hid (RAt B T { s with old := s.old.set pi (outB ci key) } (.slice (some ⟨go, 0, none⟩) ol capo) (.slice An s.new.length cpn) W2) := hR3
      have hk2H : Hid (KOk { s with old := s.old.set pi (outB ci key) }) := hko
      obtain ⟨e0, e1, e2, e3, ef⟩ := hR4.out.cells
      by_cases hm : s.moved < 0
      · have hm2 : s.moved = -1 := by
          rcases hksH.out.s1 with ⟨h1, _⟩ | ⟨h1, _⟩
          · exact h1
          · omega
        have hdm : decide (s.moved < 0) = true := by simpa using hm
        rw [hm2] at e3
        have hsl : (s.old.set pi (outB ci key)).length = ol := by rw [List.length_set, holH.out]
        have hlen : Hid (∀ W, Below W2.heap.size W2 W → Calls Tryd.prog 53 #[.pointer (some ⟨T, 0, none⟩)] W fun e w' => e = .returned (.int .i64 (cntK { s with old := s.old.set pi (outB ci key) } : Nat)) ∧ Below W2.heap.size W2 w') := Lib.hid fun W hb => by
          refine (len_ref (hR4.out.after hb) hk2H.out).mono ?_
          rintro e w' ⟨rfl, hb'⟩
          exact ⟨rfl, onB hb hb' hb.size⟩
        have hsiz : Hid (∀ W, Below W2.heap.size W2 W → Calls Tryd.prog 35 #[.pointer (some ⟨T, 0, none⟩)] W fun e w' => e = .returned (.int .i64 (k0 : Nat)) ∧ W = w') := Lib.hid fun W hb => size_ref (hR4.out.after hb) k0 hk16 (by show (s.old.set pi (outB ci key)).length = _; rw [hsl]; exact hl0H.out)
        have hcb : cntK { s with old := s.old.set pi (outB ci key) } ≤ 1000000 := hk2H.out.ct
        have hol2 : ((ol : Int) / 2) = ((ol / 2 : Nat) : Int) := by omega
        have hol3 : (ol : Int).tdiv 2 = ((ol / 2 : Nat) : Int) := by rw [Int.tdiv_eq_ediv_of_nonneg (by omega)]; exact hol2
        have hmk : ∀ w, (Instr.makeSlice 29 (.int .i64 ((ol / 2 : Nat) : Int)) (.int .i64 ((ol / 2 : Nat) : Int))).run Tryd.prog w = .ok (.slice (some ⟨w.heap.size, 0, none⟩) (ol / 2) (ol / 2)) (w.alloc (rowObj (ol / 2))) := fun w => run_rows (ol / 2) (by omega) w
        have h65 : 4 < ol ↔ 2 < k0 := by
          rw [hl0H.out]
          constructor
          · intro hh
            rcases Nat.lt_or_ge 2 k0 with h1 | h1
            · exact h1
            · have : k0 = 2 := by omega
              subst this
              exact absurd hh (by decide)
          · intro hh; exact Nat.lt_of_le_of_lt (by decide : 4 ≤ pw 2) (pw_lt hh)
        have h65H := Lib.hid h65
        have hp2 : Hid (drop1 s key = if 4 < ol ∧ 8 * cntK { s with old := s.old.set pi (outB ci key) } < ol then { s with old := s.old.set pi (outB ci key), new := List.replicate (ol / 2) [], moved := 0 } else { s with old := s.old.set pi (outB ci key) }) := Lib.hid (by
          rw [hp1.out]
          by_cases hq : 4 < ol ∧ 8 * cntK { s with old := s.old.set pi (outB ci key) } < ol
          · rw [if_pos ⟨hm, hq⟩, if_pos hq]
          · rw [if_neg (fun hh => hq hh.2), if_neg hq])
        have hmH := Lib.hid hm
        clear hp1 h65 hsl e0 e2 hm hdm
        generalize ol / 2 = oh at *
        generalize cntK { s with old := s.old.set pi (outB ci key) } = N at *
        have hoh : oh ≤ 131072 := by omega
        clear hol2
        have hw8 : IntKind.i64.wrap ((8 : Int) * (N : Int)) = (8 : Int) * (N : Int) := IntWalk.i64_in _ (by omega)
        by_cases hs1 : 2 < k0
        · have hb1 : decide ((2 : Int) < (k0 : Int)) = true := by simp; omega
          by_cases hs2 : 8 * N < ol
          · have hb2 : decide ((8 : Int) * (N : Int) < (ol : Int)) = true := by simp; omega
            have hp3 := Lib.hid (hp2.out.trans (if_pos ⟨h65H.out.2 hs1, hs2⟩))
            clear hp2
            have hbd0 : Below W2.heap.size W2 W2.drew := (Below.refl _ _).drew
            have hbdr : Below W2.heap.size W2 W2 := Below.refl _ _
            go_upto_region 13 with fail
            first
            | go_region_held3 (fun w' => Below W2.heap.size W2 w' ∧ w'.cell? ⟨T, 1, none⟩ = some (.slice (some ⟨go, 0, none⟩) ol capo) ∧ w'.cell? ⟨T, 3, none⟩ = some (.int .i64 (-1)))
                (first | exact ⟨hbd0, e1, e3⟩ | exact ⟨hbdr, e1, e3⟩ | assumption | (refine ⟨?_, ?_, ?_⟩ <;> assumption))
                (first
                | (go_at_call 53; ((with_reducible refine (hlen.out _ (by assumption)).mono ?_); rintro r w5 ⟨rfl, hb5⟩; obtain ⟨_, f1, _, f3, _⟩ := (hR4.out.after hb5).cells; simp only [hm2] at f3))
                | (go_at_call 35; ((with_reducible refine (hsiz.out _ (by assumption)).mono ?_); rintro r w6 ⟨rfl, rfl⟩)))
            | fail
            all_goals
              obtain ⟨_, _, f2, f3', ff⟩ := (hR4.out.after hb5).cells
              have hT5 := some_lt (hR4.out.after hb5).head
              have ff2 := ff 2
              have ff3 := ff 3
              clear ff
              have hR5 := hR4.out.after hb5
              have hR6 := hR5.after ((Below.refl w5.heap.size w5).alloc (Nat.le_refl _) (rowObj oh))
              have hsp : ∀ k, (Value.slice (some ⟨go, 0, none⟩) ol capo).ownBlock = some k → (Value.slice (some ⟨w5.heap.size, 0, none⟩) oh oh).ownBlock ≠ some k := fun k hk hh => by have h1 := (hR5.old.block hk).2.1; have h2 : w5.heap.size = k := (by simpa [Value.ownBlock] using hh); omega
              have hR7 := Lib.hid ((hR6.head2 (Rw.made w5 hR5.pos oh hoh) hsp).head3 0)
              have hO7 := Lib.hid (((hO3.out.trans (ro_below hb5 hR4.out.pos)).alloc hR5.pos (rowObj oh)).trans ((ro_head hR6 2 (.slice (some ⟨w5.heap.size, 0, none⟩) oh oh)).trans (ro_head (hR6.head2 (Rw.made w5 hR5.pos oh hoh) hsp) 3 (.int .i64 0))))
              rw [alloc_set w5 _ ⟨T, 2, none⟩ _ hT5, alloc_set (w5.setCell ⟨T, 2, none⟩ _) _ ⟨T, 3, none⟩ _ (by simpa [World.setCell] using hT5)] at hR7 hO7
              clear hR5 hR6 hsp
              go_wp2_with fail
              go_ret
              first
                | exact ⟨true, rfl, _, _, by rw [hp3.out]; exact hR7.out, hO7.out⟩
                | (rw [hp3.out]; exact ⟨Or.inr rfl, ⟨_, _, hR7.out⟩, hO7.out⟩)
          · have hb2 : decide ((8 : Int) * (N : Int) < (ol : Int)) = false := by simp; omega
            have hp3 := Lib.hid (hp2.out.trans (if_neg (fun hh => hs2 hh.2)))
            clear hp2
            have hbd0 : Below W2.heap.size W2 W2.drew := (Below.refl _ _).drew
            have hbdr : Below W2.heap.size W2 W2 := Below.refl _ _
            go_upto_region 13 with fail
            first
            | go_region_held3 (fun w' => Below W2.heap.size W2 w' ∧ w'.cell? ⟨T, 1, none⟩ = some (.slice (some ⟨go, 0, none⟩) ol capo) ∧ w'.cell? ⟨T, 3, none⟩ = some (.int .i64 (-1)))
                (first | exact ⟨hbd0, e1, e3⟩ | exact ⟨hbdr, e1, e3⟩ | assumption | (refine ⟨?_, ?_, ?_⟩ <;> assumption))
                (first
                | (go_at_call 53; ((with_reducible refine (hlen.out _ (by assumption)).mono ?_); rintro r w5 ⟨rfl, hb5⟩; obtain ⟨_, f1, _, f3, _⟩ := (hR4.out.after hb5).cells; simp only [hm2] at f3))
                | (go_at_call 35; ((with_reducible refine (hsiz.out _ (by assumption)).mono ?_); rintro r w6 ⟨rfl, rfl⟩)))
            | fail
            all_goals
              have hR7 := Lib.hid (hR4.out.after hb5)
              have hO7 := Lib.hid (hO3.out.trans (ro_below hb5 hR4.out.pos))
              go_wp2_with fail
              go_ret
              first
                | exact ⟨true, rfl, _, _, by rw [hp3.out]; exact hR7.out, hO7.out⟩
                | (rw [hp3.out]; exact ⟨Or.inr rfl, ⟨_, _, hR7.out⟩, hO7.out⟩)
        · have hb1 : decide ((2 : Int) < (k0 : Int)) = false := by simp; omega
          have hp3 := Lib.hid (hp2.out.trans (if_neg (fun hh => hs1 (h65H.out.1 hh.1))))
          have hsq : Hid (∀ n, Calls Tryd.prog 35 #[.pointer (some ⟨T, 0, none⟩)] (W2.drewN n) fun e w' => e = .returned (.int .i64 (k0 : Nat)) ∧ w' = W2.drewN n) := Lib.hid fun n => by
            refine (size_ref (hR4.out.drewN n) k0 hk16 (by show (s.old.set pi (outB ci key)).length = _; rw [List.length_set, holH.out]; exact hl0H.out)).mono ?_
            rintro e w' ⟨rfl, rfl⟩
            exact ⟨rfl, rfl⟩
          clear hp2 hw8 hlen hsiz
          go_upto_region 13 with fail
          go_quiet ((go_at_call 35; exact Calls.quiet_of_same (hsq.out _)))
          all_goals
            have hR7 := Lib.hid (hR4.out.drewN nq)
            have hO7 := Lib.hid (hO3.out.drewN nq)
            go_wp2_with fail
            go_ret
            first
              | exact ⟨true, rfl, _, _, by rw [hp3.out]; exact hR7.out, hO7.out⟩
              | (rw [hp3.out]; exact ⟨Or.inr rfl, ⟨_, _, hR7.out⟩, hO7.out⟩)
      · have hdm : decide (s.moved < 0) = false := by simpa using hm
        have hp3 : Hid (drop1 s key = { s with old := s.old.set pi (outB ci key) }) := Lib.hid (by rw [hp1.out, if_neg (fun hh => hm hh.1)])
        clear hp1
        go_upto_region 13 with fail
        first
          | go_region
          | fail
        all_goals
          have hR7 := Lib.hid (hR4.out.drewN 1)
          have hO7 := Lib.hid (hO3.out.drewN 1)
          go_wp2_with fail
          go_ret
          first
            | exact ⟨true, rfl, _, _, by rw [hp3.out]; exact hR7.out, hO7.out⟩
            | (rw [hp3.out]; exact ⟨Or.inr rfl, ⟨_, _, hR7.out⟩, hO7.out⟩)
  · have hdm1 : decide ((0 : Int) ≤ -1) = false := by decide
    have hj3' : ¬ hasB ci key = true := by rw [hj3]; decide
    rcases hksH.out.s1 with ⟨hm, hnn⟩ | ⟨hm0, hm1, k1, h2k1, h16k1, hl1⟩
    · have hq1 : decide ((0 : Int) ≤ s.moved) = false := by simp; omega
      have hp3 : Hid (drop1 s key = s) := Lib.hid (by rw [hp1.out, if_neg (fun hh => hh.elim hj3' (fun h2 => by omega))])
      clear hp1 hri hcuro hix
      go_wp2_with fail
      go_ret
      first
        | exact ⟨false, rfl, _, _, by rw [hp3.out]; exact hRH.out, hOH.out⟩
        | (rw [hp3.out]; exact ⟨Or.inl rfl, ⟨_, _, hRH.out⟩, hOH.out⟩)
        | (rw [hp3.out]; exact ⟨⟨_, _, hRH.out⟩, hOH.out⟩)
    · have hq1 : decide ((0 : Int) ≤ s.moved) = true := by simpa using hm0
      have hpn : plN s key < s.new.length := Nat.mod_lt _ (by rw [hl1]; exact pw_pos k1)
      obtain ⟨gn, capn, un, curn, heqn, hgn0, hgn1, hcurn, hcelln, hchn⟩ := hRH.out.new.cell hpn
      obtain ⟨Aun, cpun, rfl⟩ := hchn.len
      cases heqn
      have hmn : s.new.getD (plN s key) [] ∈ s.new := by rw [List.getD_eq_getElem?_getD, List.getElem?_eq_getElem hpn]; exact List.getElem_mem hpn
      have hpl2 := Lib.hid (rkey_place T s.seed key (some ⟨gn, 0, none⟩) s.new.length cpn k1 hl1 h16k1 hksH.out.seed hs w1 c0)
      rw [show num s.seed key % s.new.length = plN s key from rfl] at hpl2
      have hcl2 : (s.new.getD (plN s key) []).length ≤ 1000000 := by
        have := mem_flat_len hmn
        have := hksH.out.ct
        omega
      have hin2 := Lib.hid (rin_any hchn key hcl2)
      have hchnH := Lib.hid hchn
      have hndn2 := Lib.hid (hndn.out _ hmn)
      have hfzn : w1.frozen? ⟨gn, plN s key, none⟩ = false := by simp [World.frozen?, hcurn]
      rw [if_neg hj3'] at hp1
      simp only [hj3, Bool.false_eq_true, false_or] at hp1
      have hmneg : ¬ s.moved < 0 := by omega
      clear hri hcuro hchn hl1 hmn
      generalize hcn2 : s.new.getD (plN s key) [] = cn at *
      generalize hpn2 : plN s key = pn at *
      have hixn := run_ix gn pn s.new.length cpn hpn
      have hx1 := Lib.hid hcn2
      have hx2 := Lib.hid hpn2
      have hpnH := Lib.hid hpn
      clear hcn2 hpn2 hpn hix
      go_upto_region 9 with (first
        | (go_at_call 50; ((with_reducible refine (hpl2.out).mono ?_); rintro r w2 ⟨rfl, rfl⟩))
        | (go_at_call 51; ((with_reducible refine (hin2.out).mono ?_); rintro r w2 ⟨rj, rfl, hrj, rfl⟩)))
      rcases inR_has hrj with ⟨j, rfl, hj1, hj2, hj4⟩ | ⟨rfl, hj4⟩
      · have hd : decide ((0 : Int) ≤ (j : Int)) = true := by simp
        have hd2 : decide ((j : Int) < 0) = false := by simp
        have hjl : j < cn.length := (List.getElem?_eq_some_iff.1 hj1).1
        have hwt : Hid (∀ W, W = w1.drew → Calls Tryd.prog 54 #[.slice Aun cn.length cpun, .int .i64 j] W fun e w' => ∃ (A' : Option Addr) (n' c' : Nat), e = .returned (.slice A' n' c') ∧ Ch B w' (.slice A' n' c') (outB cn key) ∧ Below w1.heap.size w1 w') := Lib.hid (by
          rintro W rfl
          refine (without_ref (hchnH.out.same (rsame_drewN w1 1)) j hjl hcl2).mono ?_
          rintro e w' ⟨u', rfl, hu, hb⟩
          rw [cut_out hndn2.out hj1] at hu
          obtain ⟨A', c', rfl⟩ := hu.len
          obtain ⟨ys, y1, y2⟩ := hu
          refine ⟨A', _, c', rfl, ⟨ys, ?_, y2⟩, ((Below.refl w1.heap.size w1).drew).trans hb⟩
          obtain ⟨q1, q2 | ⟨g', cap', cur', e1, q3, q4⟩⟩ := y1
          · exact ⟨q1, Or.inl q2⟩
          · exact ⟨q1, Or.inr ⟨g', cap', cur', e1, Nat.le_trans hRH.out.pos q3, q4⟩⟩)
        have hp3 : Hid (drop1 s key = { s with new := s.new.set pn (outB cn key) }) := Lib.hid (by
          rw [hp1.out, if_pos ⟨hm0, hj4⟩, if_neg (fun hh => by have h1 := hh.1; omega), if_pos ⟨hm0, hj4⟩])
        clear hp1 hrj hj1 hj2 hjl hcurn
        go_upto_region 10 with fail
        go_region_law (go_simp; go_at_call 54; ((with_reducible refine (hwt.out _ rfl).mono ?_); rintro r w2 ⟨A', n', c', rfl, hu, hb2⟩; obtain ⟨_, f1, f2, _, _⟩ := (hRH.out.after hb2).cells; have fc := (hb2.cell (p := ⟨gn, pn, none⟩) hgn1).trans hcelln; have fz := (hb2.frozen (p := ⟨gn, pn, none⟩) hgn1).trans hfzn; have huH := Lib.hid hu; have hb2H := Lib.hid hb2; clear hu hb2))
        all_goals
          have hR3 := Lib.hid ((hRH.out.after hb2H.out).setN (g := gn) rfl pn huH.out)
          have hO3 := Lib.hid ((hOH.out.trans (ro_below hb2H.out hRH.out.pos)).trans (ro_row (hRH.out.after hb2H.out).new (g := gn) rfl pn (.slice A' n' c')))
          clear c0 c1 c2 c3 cf hcello hfzo f1 f2 fc fz huH hb2H hcelln hfzn hixn
          generalize w2.setCell ⟨gn, pn, none⟩ (.slice A' n' c') = W2 at *
          have hR4 : Hid (RAt B T { s with new := s.new.set pn (outB cn key) } (.slice (some ⟨go, 0, none⟩) ol capo) (.slice (some ⟨gn, 0, none⟩) s.new.length cpn) W2) := hR3
          obtain ⟨e0, e1, e2, e3, ef⟩ := hR4.out.cells
          have hdm : decide (s.moved < 0) = false := by simpa using hmneg
          go_upto_region 13 with fail
          first
            | go_region
            | fail
          all_goals
            have hR7 := Lib.hid (hR4.out.drewN 1)
            have hO7 := Lib.hid (hO3.out.drewN 1)
            go_wp2_with fail
            go_ret
            first
              | exact ⟨true, rfl, _, _, by rw [hp3.out]; exact hR7.out, hO7.out⟩
              | (rw [hp3.out]; exact ⟨Or.inr rfl, ⟨_, _, hR7.out⟩, hO7.out⟩)
      · have hp3 : Hid (drop1 s key = s) := Lib.hid (by rw [hp1.out, if_neg (fun hh => by have h2 := hh.2; rw [hj4] at h2; cases h2)])
        clear hp1 hrj hcurn
        go_wp2_with fail
        go_ret
        first
          | exact ⟨false, rfl, _, _, by rw [hp3.out]; exact hRH.out, hOH.out⟩
          | (rw [hp3.out]; exact ⟨Or.inl rfl, ⟨_, _, hRH.out⟩, hOH.out⟩)
          | (rw [hp3.out]; exact ⟨⟨_, _, hRH.out⟩, hOH.out⟩)

end Go.Proofs.YtdldgiicblmknaaDoor

