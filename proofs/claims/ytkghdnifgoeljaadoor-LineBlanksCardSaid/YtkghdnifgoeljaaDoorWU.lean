/-
  The walk of the law of blanks. A premise: the library's variable ErrSyntax holds an error, or none.
-/
import Derived.Test.YtkghdnifgoeljaaDoorWT
import Derived.Laws.AppendOwnNone
import Derived.Deep.CutRange
import Derived.Deep.CutBlock
namespace Go.Proofs.YtkghdnifgoeljaaDoor
open Go.RowKit Ln

theorem strV_one (l : List ByteArray) : ∀ u ∈ strV l, u.oneCell' = true := by
  intro u hu
  simp only [strV, List.mem_map] at hu
  obtain ⟨x, _, rfl⟩ := hu
  rfl
/-- What an append of a row of texts makes, be the row nil or not. -/
theorem run_texts {W : World} {B : Nat} {v : Value} {n : Nat} {xs : List Value} {A : Option Addr} {c : Nat} {sl : List ByteArray} (ty : TypeId) (hown : W.ownsRow B 9 1 v n xs) (hr : RR W A sl) (hc : A = none → c = 0) (hlen : n + sl.length ≤ 65536) (hB : B ≤ W.heap.size) :
    ∃ v' w', (Builtin.append_ #[24, 24] ty #[v, .slice A sl.length c]).run Tryd.prog W = .ok v' w' ∧ w'.ownsRow B 9 1 v' (n + sl.length) (xs ++ strV sl) ∧ W.grownBy w' v.ownBlock := by
  obtain ⟨i0, hi, hz0, hz1, hz2⟩ := info_parts str_info
  cases A with
  | some ad =>
    obtain ⟨v', w', h1, h2, h3, _⟩ := run_append_own (P := Tryd.prog) W B 24 ty 9 i0 (.string ⟨#[]⟩) 1 16 Tryd.underlying24 hi hz0 hz1 hz2 rfl (by decide) v n xs hown ad sl.length c (strV sl) (by simp [strV])
      (fun j u hu => by
        simp only [strV, List.getElem?_map, Option.map_eq_some_iff] at hu
        obtain ⟨x, hx, rfl⟩ := hu
        obtain ⟨a, ha, hc⟩ := hr j x hx
        cases ha
        exact hc) (strV_one sl) (by unfold maxLen; omega) (by omega) hB
    exact ⟨v', w', h1, h2, h3⟩
  | none =>
    have hs : sl = [] := by
      cases sl with
      | nil => rfl
      | cons x sl =>
        obtain ⟨a, ha, _⟩ := hr 0 x rfl
        cases ha
    subst hs
    obtain rfl := hc rfl
    exact ⟨v, W, run_append_owned_none (P := Tryd.prog) (w := W) B 24 ty 9 i0 1 Tryd.underlying24 hi v n xs hown, by simpa [strV] using hown, World.grownBy.refl _ _⟩
theorem wp_texts {W : World} {o : Oper} {a : Act} {K : Act → World → Prop} {Q : Exit → Act → World → Prop} (s x : Operand) (ho : o.op = .call { callee := .builtin .append, args := #[s, x], argTypes := #[24, 24] })
    {B : Nat} {v : Value} {n : Nat} {xs : List Value} {A : Option Addr} {c : Nat} {sl : List ByteArray} (hs : a.eval s = v) (hx : a.eval x = .slice A sl.length c) (hown : W.ownsRow B 9 1 v n xs) (hr : RR W A sl) (hc : A = none → c = 0) (hlen : n + sl.length ≤ 65536) (hB : B ≤ W.heap.size)
    (h : ∀ v' w', w'.ownsRow B 9 1 v' (n + sl.length) (xs ++ strV sl) → W.grownBy w' v.ownBlock → K (a.put o.dst v') w') : o.wp Tryd.prog a W K Q := by
  obtain ⟨v', w', hrun, h2, h3⟩ := run_texts o.type hown hr hc hlen hB
  unfold Oper.wp execOp
  simp only [ho, resolve, invoke, builtin, Sem.run_bind, Sem.run_pure, Result.andThen_ok, List.map_toArray, List.map_cons, List.map_nil, hs, hx, hrun]
  exact h v' w' h2 h3
theorem wpList_texts {W : World} {ops : Array Oper} {rest : List Oper} {o : Oper} {a : Act} {Q : Exit → Act → World → Prop} (hw : Region.wanted o (yielded ops a.tmps) = true) (s x : Operand) (ho : o.op = .call { callee := .builtin .append, args := #[s, x], argTypes := #[24, 24] })
    {B : Nat} {v : Value} {n : Nat} {xs : List Value} {A : Option Addr} {c : Nat} {sl : List ByteArray} (hs : a.eval s = v) (hx : a.eval x = .slice A sl.length c) (hown : W.ownsRow B 9 1 v n xs) (hr : RR W A sl) (hc : A = none → c = 0) (hlen : n + sl.length ≤ 65536) (hB : B ≤ W.heap.size)
    (h : ∀ v' w', w'.ownsRow B 9 1 v' (n + sl.length) (xs ++ strV sl) → W.grownBy w' v.ownBlock → wpList Tryd.prog ops Q rest (a.put o.dst v') w') : wpList Tryd.prog ops Q (o :: rest) a W :=
  wpList_step fun K hK => by
    rw [if_pos hw]
    exact wp_texts s x ho hs hx hown hr hc hlen hB fun v' w' h1 h2 => hK _ _ (h v' w' h1 h2)
theorem split_row (s : ByteArray) (l : List ByteArray) (w : World) (hs : s.size ≤ 65536) (hE : ErrAt w) (h : spl s.data.toList = some (txt l)) :
    Calls Tryd.prog 9 #[.string s] w fun e w' => ∃ A cap, e = .returned (.tuple #[.slice A l.length cap, .bool true]) ∧ SB w' w'.heap.size A l ∧ Below w.heap.size w w' ∧ (A = none → cap = 0) := by
  refine (split_any s w hs hE).mono fun e w' hh => ?_
  rw [h] at hh
  obtain ⟨ss, v, h1, rfl, h3⟩ := hh
  obtain rfl := txt_inj h1
  obtain ⟨A, cap, rfl, h4⟩ := h3.open
  refine ⟨A, cap, rfl, h4, h3.bel, ?_⟩
  rintro rfl
  rcases h3.own.2 with ⟨h5, _⟩ | ⟨g, cap', cur, h5, _⟩
  · injection h5
  · injection h5 with h6; cases h6
/-- A gap: blanks, one at least. -/
def Gap (g : ByteArray) : Prop := (∀ c ∈ g.data.toList, gapC c = true) ∧ g.data.toList ≠ []
theorem gap_one : Gap ⟨#[32]⟩ := ⟨by intro c hc; simp at hc; subst hc; rfl, by simp⟩
theorem gap_more {g : ByteArray} (h : Gap g) : Gap (g ++ ⟨#[9, 32]⟩) := by
  refine ⟨fun c hc => ?_, ?_⟩
  · rw [ByteArray.data_append, Array.toList_append] at hc
    rcases List.mem_append.1 hc with h1 | h1
    · exact h.1 c h1
    · simp at h1; rcases h1 with rfl | rfl <;> rfl
  · rw [ByteArray.data_append, Array.toList_append]; simp
theorem spl_gap {g s : ByteArray} (h : Gap g) : spl (g ++ s ++ g).data.toList = spl s.data.toList := by
  simp only [ByteArray.data_append, Array.toList_append]
  exact spl_blanks _ _ _ h.1 h.1
theorem spl_both {g s t : ByteArray} {a c : List ByteArray} (h : Gap g) (hs : spl s.data.toList = some (txt a)) (ht : spl t.data.toList = some (txt c)) : spl (s ++ g ++ t).data.toList = some (txt (a ++ c)) := by
  simp only [ByteArray.data_append, Array.toList_append]
  rw [spl_two _ _ _ h.2 h.1 hs ht]
  simp [txt]

theorem own_open {W : World} {B n : Nat} {v : Value} {ss : List ByteArray} (h : W.ownsRow B 9 1 v n (strV ss)) (hn : n = ss.length) : ∃ A cap, v = .slice A n cap ∧ RR W A ss := by
  subst hn
  rcases h.2 with ⟨rfl, h0⟩ | ⟨g, cap, cur, rfl, h1, h3, h4, h5, h6, h7⟩
  · have hs : ss = [] := List.eq_nil_of_length_eq_zero h0
    subst hs
    exact ⟨none, 0, rfl, fun i x hx => by cases hx⟩
  · exact ⟨_, cap, rfl, fun i x hx => ⟨_, rfl, h.cells (g := g) rfl i (.string x) (by simp [strV, hx])⟩⟩
/-- What the first append leaves. -/
structure Apps (w0 : World) (n : Nat) (ss : List ByteArray) (v : Value) (W : World) : Prop where
  own : W.ownsRow w0.heap.size 9 1 v n (strV ss)
  bel : Below w0.heap.size w0 W
theorem Apps.zero (w : World) : Apps w 0 [] (.slice (some ⟨w.heap.size, 0, none⟩) 0 0) (w.alloc (.cells #[] 9)) :=
  ⟨World.ownsRow_made w #[] 0 (Nat.le_refl _) (by decide) rfl, (Below.refl _ _).alloc (Nat.le_refl _) _⟩
theorem Apps.next {w0 W w2 : World} {n : Nat} {ss sl : List ByteArray} {v v' : Value} (h : Apps w0 n ss v W) (hown : w2.ownsRow w0.heap.size 9 1 v' (n + sl.length) (strV ss ++ strV sl)) (hg : W.grownBy w2 v.ownBlock) : Apps w0 (n + sl.length) (ss ++ sl) v' w2 := by
  refine ⟨?_, h.bel.grown hg h.bel.size fun k hk => (h.own.lt k hk).1⟩
  have e : strV (ss ++ sl) = strV ss ++ strV sl := by simp [strV]
  rw [e]
  exact hown
theorem far_second (s t : ByteArray) (w : World) (F : Bool) (hF : Hid (farL [t] = F)) : Calls Tryd.prog 7 #[.slice (some ⟨w.heap.size + 1, 0, none⟩) 1 1] ((w.alloc (.cells #[.string s] 9)).alloc (.cells #[.string t] 9)) fun e w' => e = .returned (.bool F) ∧ (w.alloc (.cells #[.string s] 9)).alloc (.cells #[.string t] 9) = w' := by
  have h := far_one t (w.alloc (.cells #[.string s] 9)) F hF
  have e : (w.alloc (.cells #[.string s] 9)).heap.size = w.heap.size + 1 := by simp
  rwa [e] at h
set_option maxRecDepth 100000 in
set_option maxHeartbeats 4000000 in
theorem blanks_any (s t : ByteArray) (n : Int) (w : World) (hE : ErrAt w) :
    Calls Tryd.prog 6 #[.string s, .string t, .int .i64 n] w fun e w' => e = .returned (.bool true) ∧ Below w.heap.size w w' := by
  have hEH := Lib.hid hE
  clear hE
  have hb1 : Below w.heap.size w (w.alloc (.cells #[.string s] 9)) := (Below.refl _ _).alloc (Nat.le_refl _) _
  have hb2 : Below w.heap.size w ((w.alloc (.cells #[.string s] 9)).alloc (.cells #[.string t] 9)) := hb1.alloc (by simp) _
  cases hF : farL [s] with
  | true =>
    have hFH := Lib.hid hF
    have hE1 := Lib.hid (hEH.out.on hb1)
    clear hF
    go_enter Tryd.func6, Tryd.ntmps6
    go_wp2_with (first
      | (go_at_call 7; ((with_reducible refine (far_one s _ true hFH).mono ?_); rintro e w' ⟨rfl, rfl⟩))
      | (go_at_call 8; ((with_reducible refine (alive_any _ hE1).mono ?_); rintro e w1 ⟨rfl, hbb⟩)))
    go_ret
    exact ⟨rfl, onB hb1 hbb⟩
  | false =>
    have hFH := Lib.hid hF
    have hs := far_one_size hF
    cases hG : farL [t] with
    | true =>
      have hGH := Lib.hid hG
      have hE1 := Lib.hid (hEH.out.on hb2)
      clear hF hG
      go_enter Tryd.func6, Tryd.ntmps6
      go_wp2_with (first
        | (go_at_call 7; ((with_reducible refine (far_one s _ false hFH).mono ?_); rintro e w' ⟨rfl, rfl⟩))
        | (go_at_call 7; ((with_reducible refine (far_second s t _ true hGH).mono ?_); rintro e w' ⟨rfl, rfl⟩))
        | (go_at_call 8; ((with_reducible refine (alive_any _ hE1).mono ?_); rintro e w1 ⟨rfl, hbb⟩)))
      go_ret
      exact ⟨rfl, onB hb2 hbb⟩
    | false =>
      have hGH := Lib.hid hG
      have ht := far_one_size hG
      clear hF hG
      go_enter Tryd.func6, Tryd.ntmps6
      go_wp2_with (first
        | (go_at_call 7; ((with_reducible refine (far_one s _ false hFH).mono ?_); rintro e w' ⟨rfl, rfl⟩))
        | (go_at_call 7; ((with_reducible refine (far_second s t _ false hGH).mono ?_); rintro e w' ⟨rfl, rfl⟩)))
      have hX0 : 0 ≤ wrap64 ((IntKind.u64.wrap n).tmod 5) := by
        have h1 : 0 ≤ IntKind.u64.wrap n := by rw [IntKind.wrap_u64]; omega
        rw [Int.tmod_eq_emod_of_nonneg h1]
        unfold wrap64
        omega
      have hX4 : wrap64 ((IntKind.u64.wrap n).tmod 5) ≤ 4 := by
        have h1 : 0 ≤ IntKind.u64.wrap n := by rw [IntKind.wrap_u64]; omega
        rw [Int.tmod_eq_emod_of_nonneg h1]
        unfold wrap64
        omega
      generalize wrap64 ((IntKind.u64.wrap n).tmod 5) = X at hX0 hX4 ⊢
      clear hb1
      generalize (w.alloc (.cells #[.string s] 9)).alloc (.cells #[.string t] 9) = W0 at hb2 ⊢
      have hE0 := Lib.hid (hEH.out.on hb2)
      go_loop [7, 29] (fun gv i => ∃ (k : Nat) (g : ByteArray), i = .int .i64 k ∧ gv = .string g ∧ (k : Int) ≤ X ∧ g.size ≤ 2 * k + 1 ∧ Hid (Gap g)) (fun _ i => X.toNat - (intOf i).toNat)
      case atStart => exact ⟨0, ⟨#[32]⟩, rfl, rfl, hX0, by decide, Lib.hid gap_one⟩
      case round =>
        obtain ⟨k, g, rfl, rfl, hk, hgs, hgap⟩ := hrel
        by_cases hlt : (k : Int) < X
        · have hg2 := Lib.hid (gap_more hgap.out)
          have hz : (g ++ ⟨#[9, 32]⟩ : ByteArray).size ≤ 2 * (k + 1) + 1 := by rw [ByteArray.size_append]; show _ + 2 ≤ _; omega
          go_wp2_with fail
          go_round
          case rel => exact ⟨k + 1, _, by go_num, rfl, by omega, hz, hg2⟩
          case measure => simp [intOf]; omega
        · have hgs9 : g.size ≤ 9 := by omega
          clear hgs hk
          have hz1 : (g ++ s ++ g).size ≤ 65536 := by rw [ByteArray.size_append, ByteArray.size_append]; omega
          have hz2 : (s ++ g ++ t).size ≤ 65536 := by rw [ByteArray.size_append, ByteArray.size_append]; omega
          have hsg := spl_gap (s := s) hgap.out
          cases hsp : spl s.data.toList with
          | none =>
            have hN1 := Lib.hid (fun W hE' => split_no s W (by omega) hE' hsp)
            have hN2 := Lib.hid (fun W hE' => split_no (g ++ s ++ g) W hz1 hE' (by rw [hsg, hsp]))
            have hSm : Hid (∀ W, Calls Tryd.prog 11 #[.slice none 0 0, .slice none 0 0] W fun e w' => e = .returned (.bool true) ∧ ∃ n, w' = W.drewN n) :=
              Lib.hid fun W => same_any none none 0 0 [] W (by decide) (fun i x hx => by cases hx) (fun i x hx => by cases hx)
            have hT : Hid (∀ W, ErrAt W → Calls Tryd.prog 9 #[.string t] W fun e w' => (∃ v b, e = .returned (.tuple #[v, .bool b])) ∧ Below W.heap.size W w') := Lib.hid (fun W hE' => (split_any t W (by omega) hE').mono fun e w' hh => by
              cases hc : spl t.data.toList with
              | none => rw [hc] at hh; exact ⟨⟨_, _, hh.1⟩, hh.2⟩
              | some l => rw [hc] at hh; obtain ⟨ss, v, _, h2, h3⟩ := hh; exact ⟨⟨_, _, h2⟩, h3.bel⟩)
            clear hsg hsp
            go_wp2_with (first
              | (go_at_call 9; ((with_reducible refine (hN1.out _ hE0.out).mono ?_); rintro e w1 ⟨rfl, hb1⟩; have hW1 := onB hb2 hb1))
              | (go_at_call 9; ((with_reducible refine (hN2.out _ (hEH.out.on hW1)).mono ?_); rintro e w2 ⟨rfl, hbb2⟩; have hW2 := onB hW1 hbb2))
              | (go_at_call 11; ((with_reducible refine (hSm.out _).mono ?_); rintro e w3 ⟨rfl, m, rfl⟩; have hW3 := below_drewN hW2 m))
              | (go_at_call 9; ((with_reducible refine (hT.out _ (hEH.out.on hW3)).mono ?_); rintro e w4 ⟨⟨v4, b4, rfl⟩, hb4⟩; have hW4 := onB hW3 hb4))
              | (go_at_call 8; ((with_reducible refine (alive_any _ (Lib.hid (hEH.out.on hW4))).mono ?_); rintro e w5 ⟨rfl, hb5⟩)))
            go_ret
            exact ⟨rfl, onB hW4 hb5⟩
          | some l =>
            have hlen := spl_len hsp
            have hsl : s.data.toList.length = s.size := by simp
            have hY1 := Lib.hid (fun W hE' => split_row s (mkT l) W (by omega) hE' (by rw [hsp, txt_mk]))
            have hY2 := Lib.hid (fun W hE' => split_yes (g ++ s ++ g) (mkT l) W hz1 hE' (by rw [hsg, hsp, txt_mk]))
            have hlt2 : total (mkT l) + (mkT l).length ≤ 4000 := by
              rw [← total_tot, txt_mk]; omega
            have hsp2 : spl s.data.toList = some (txt (mkT l)) := by rw [hsp, txt_mk]
            generalize mkT l = sl at hY1 hY2 hlt2 hsp2
            have hsll : sl.length ≤ 140737488355328 := by omega
            clear hsp hlen hsl hsg
            cases htp : spl t.data.toList with
            | none =>
              have hT := Lib.hid (fun W hE' => split_no t W (by omega) hE' htp)
              clear htp hsp2
              go_wp2_with (first
                | (go_at_call 9; ((with_reducible refine (hY1.out _ hE0.out).mono ?_); rintro e w1 ⟨A1, cap1, rfl, hR1, hb1, _⟩; have hW1 := onB hb2 hb1))
                | (go_at_call 9; ((with_reducible refine (hY2.out _ (hEH.out.on hW1)).mono ?_); rintro e w2 ⟨A2, cap2, rfl, hR2, hbb2⟩; have hW2 := onB hW1 hbb2; have hR12 := hR1.on hbb2))
                | (go_at_call 11; ((with_reducible refine (same_any A1 A2 cap1 cap2 sl _ hsll hR12.rr hR2.rr).mono ?_); rintro e w3 ⟨rfl, m, rfl⟩; have hW3 := below_drewN hW2 m))
                | (go_at_call 9; ((with_reducible refine (hT.out _ (hEH.out.on hW3)).mono ?_); rintro e w4 ⟨rfl, hb4⟩; have hW4 := onB hW3 hb4))
                | (go_at_call 8; ((with_reducible refine (alive_any _ (Lib.hid (hEH.out.on hW4))).mono ?_); rintro e w5 ⟨rfl, hb5⟩)))
              go_ret
              exact ⟨rfl, onB hW4 hb5⟩
            | some l2 =>
              have hlen := spl_len htp
              have htl : t.data.toList.length = t.size := by simp
              have hV := Lib.hid (fun W hE' => split_row t (mkT l2) W (by omega) hE' (by rw [htp, txt_mk]))
              have hlt3 : total (mkT l2) + (mkT l2).length ≤ 4000 := by
                rw [← total_tot, txt_mk]; omega
              have hVV := Lib.hid (fun W hE' => split_yes (s ++ g ++ t) (sl ++ mkT l2) W hz2 hE' (spl_both hgap.out hsp2 (by rw [htp, txt_mk])))
              generalize mkT l2 = tl at hV hlt3 hVV
              have hls : sl.length ≤ 4000 := by omega
              have hlts : tl.length ≤ 4000 := by omega
              have hVW : Hid (∀ W, ErrAt W → Calls Tryd.prog 9 #[.string (s ++ g ++ t)] W fun e w' => ∃ A cap, e = .returned (.tuple #[.slice A (sl.length + tl.length) cap, .bool true]) ∧ SB w' w'.heap.size A (sl ++ tl) ∧ Below W.heap.size W w') := Lib.hid (fun W hE' => (hVV.out W hE').mono fun e w' ⟨A, cap, h1, h2⟩ => ⟨A, cap, by rw [h1, List.length_append], h2⟩)
              have hSm : Hid (∀ (A A' : Option Addr) (c c' : Nat) (W : World), RR W A (sl ++ tl) → RR W A' (sl ++ tl) → Calls Tryd.prog 11 #[.slice A (sl.length + tl.length) c, .slice A' (sl.length + tl.length) c'] W fun e w' => e = .returned (.bool true) ∧ ∃ n, w' = W.drewN n) := Lib.hid (fun A A' c c' W h1 h2 => by
                have := same_any A A' c c' (sl ++ tl) W (by rw [List.length_append]; omega) h1 h2
                rwa [List.length_append] at this)
              clear htp hsp2 hlen htl hlt2 hlt3 hz1 hz2 hVV
              go_wp2_with (first
                | (go_at_call 9; ((with_reducible refine (hY1.out _ hE0.out).mono ?_); rintro e w1 ⟨A1, cap1, rfl, hR1, hb1, hn1⟩; have hW1 := onB hb2 hb1; have hn1H := Lib.hid hn1; clear hn1))
                | (go_at_call 9; ((with_reducible refine (hY2.out _ (hEH.out.on hW1)).mono ?_); rintro e w2 ⟨A2, cap2, rfl, hR2, hbb2⟩; have hW2 := onB hW1 hbb2; have hR12 := hR1.on hbb2))
                | (go_at_call 11; ((with_reducible refine (same_any A1 A2 cap1 cap2 sl _ hsll hR12.rr hR2.rr).mono ?_); rintro e w3 ⟨rfl, m, rfl⟩; have hW3 := below_drewN hW2 m; have hR13 := hR12.on (below_drewN (Below.refl _ _) m)))
                | (go_at_call 9; ((with_reducible refine (hV.out _ (hEH.out.on hW3)).mono ?_); rintro e w4 ⟨A4, cap4, rfl, hR4, hb4, hn4⟩; have hW4 := onB hW3 hb4; have hn4H := Lib.hid hn4; clear hn4; have hR14 := hR13.on hb4))
                | (go_at_call 9; ((with_reducible refine (hVW.out _ (hEH.out.on hW4)).mono ?_); rintro e w5 ⟨A5, cap5, rfl, hR5, hb5⟩; have hW5 := onB hW4 hb5; have hR15 := hR14.on hb5; have hR45 := hR4.on hb5))
                | (at_builtin; refine wpList_texts (by rfl) (.tmp 81) (.tmp 82) rfl rfl rfl (Apps.zero w5).own ((hR15.on (Apps.zero w5).bel).rr) hn1H.out (by omega) (Apps.zero w5).bel.size ?_))
              intro v6 w6 hown6 hg6
              have hA6 : Apps w5 sl.length sl v6 w6 := ⟨by simpa [strV] using hown6, (Apps.zero w5).bel.grown hg6 (Apps.zero w5).bel.size fun k hk => ((Apps.zero w5).own.lt k hk).1⟩
              have hR46 := hR45.on hA6.bel
              have hR56 := hR5.on hA6.bel
              have hW6 := onB hW5 hA6.bel
              clear hown6 hg6
              go_wp2_with (at_builtin; refine wpList_texts (by rfl) (.tmp 83) (.tmp 84) rfl rfl rfl hA6.own hR46.rr hn4H.out (by omega) hA6.bel.size ?_)
              intro v7 w7 hown7 hg7
              have hA7 := hA6.next hown7 hg7
              have hR57 := (hR5.on hA7.bel).rr
              have hW7 := onB hW5 hA7.bel
              obtain ⟨A7, cap7, rfl, hR7⟩ := own_open hA7.own (by rw [List.length_append])
              clear hown7 hg7
              go_wp2_with (first
                | (go_at_call 11; ((with_reducible refine (hSm.out A5 A7 cap5 cap7 w7 hR57 hR7).mono ?_); rintro e w8 ⟨rfl, m8, rfl⟩; have hW8 := below_drewN hW7 m8))
                | (go_at_call 8; ((with_reducible refine (alive_any _ (Lib.hid (hEH.out.on hW8))).mono ?_); rintro e w9 ⟨rfl, hb9⟩)))
              go_ret
              exact ⟨rfl, onB hW8 hb9⟩
end Go.Proofs.YtkghdnifgoeljaaDoor
