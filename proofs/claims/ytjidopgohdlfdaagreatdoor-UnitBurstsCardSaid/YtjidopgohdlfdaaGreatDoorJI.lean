/-
  The walk of the reference's reader of a line that is a request. Premises: lengths are small; the limits are such as the document's.
-/
import Derived.Test.YtjidopgohdlfdaaGreatDoorJC
import Derived.Test.YtjidopgohdlfdaaGreatDoorLK

namespace Go.Proofs.YtjidopgohdlfdaaGreatDoor
open Go.RowKit Dec Pq S4

theorem own_fin {w W1 X : World} {u : Value} {ss : List ByteArray} {b : Nat} {o0 o1 o2 o3 o4 o5 o6 : Value} (hown : X.ownsRow W1.heap.size 9 1 u ss.length (strV ss)) (hbel : Below W1.heap.size W1 X) (hr : W1.heap[b]? = some (.cells #[o0, o1, o2, o3, o4, o5, o6] 62 (0, 0))) (hbW : Below w.heap.size w W1) (hb : w.heap.size ≤ b) (v0 v1 v2 v3 v4 v5 v6 : Value) :
    (((((((X.setCell ⟨b, 0, none⟩ v0).setCell ⟨b, 1, none⟩ v1).setCell ⟨b, 2, none⟩ v2).setCell ⟨b, 3, none⟩ v3).setCell ⟨b, 4, none⟩ v4).setCell ⟨b, 5, none⟩ v5).setCell ⟨b, 6, none⟩ v6).heap[b]? = some (.cells #[v0, v1, v2, v3, v4, v5, v6] 62 (0, 0)) ∧
    Below w.heap.size w (((((((X.setCell ⟨b, 0, none⟩ v0).setCell ⟨b, 1, none⟩ v1).setCell ⟨b, 2, none⟩ v2).setCell ⟨b, 3, none⟩ v3).setCell ⟨b, 4, none⟩ v4).setCell ⟨b, 5, none⟩ v5).setCell ⟨b, 6, none⟩ v6) ∧
    (((((((X.setCell ⟨b, 0, none⟩ v0).setCell ⟨b, 1, none⟩ v1).setCell ⟨b, 2, none⟩ v2).setCell ⟨b, 3, none⟩ v3).setCell ⟨b, 4, none⟩ v4).setCell ⟨b, 5, none⟩ v5).setCell ⟨b, 6, none⟩ v6).ownsRow w.heap.size 9 1 u ss.length (strV ss) := by
  have hlt := heap_lt hr
  have hX := (hbel.block b hlt).trans hr
  obtain ⟨k1, k2, k3, k4⟩ := store7 hX v0 v1 v2 v3 v4 v5 v6
  have kb := k4 0 X (Nat.zero_le _) (Below.refl 0 X)
  refine ⟨k1, k4 _ _ hb (hbW.trans (hbel.mono hbW.size)), own_base (hown.kept (row := some b) ⟨kb.os, kb.tape, kb.output, kb.size, fun i _ hi => k2 i (fun e => hi (by rw [e]))⟩ (Or.inr fun e => by have := (hown.lt _ e).1; omega)) hbW.size⟩
section
variable {A B L : Nat}
theorem line_step {s : List UInt8} (hh : s ≠ []) (h42 : s.head? ≠ some 42) : stepF A B L (Inp.none s) = (match oneF A B L s with | .inl e => .inl e | .inr (l, k) => .inr (goneL s l k)) := by
  cases s with
  | nil => exact absurd rfl hh
  | cons c t =>
    unfold stepF Inp.none
    rw [if_pos rfl]
    show startF A B L (c :: t) = _
    rw [startF, if_neg (by simpa using h42)]
    cases oneF A B L (c :: t) with
    | inl e => rfl
    | inr p => rfl
theorem line_bad {s : List UInt8} {e : Int} (hh : s ≠ []) (h42 : s.head? ≠ some 42) (h : oneF A B L s = .inl e) : stepF A B L (Inp.none s) = .inl e := by rw [line_step hh h42, h]
theorem line_ok {s : List UInt8} {l : List (List UInt8)} {k : Nat} (hh : s ≠ []) (h42 : s.head? ≠ some 42) (h : oneF A B L s = .inr (l, k)) : feedF A B L (Inp.none s) = afterM A B L s l 0 k := by
  have h1 : stepF A B L (Inp.none s) = .inr (goneL s l k) := by rw [line_step hh h42, h]
  unfold goneL at h1
  rw [feed_next h1]
  unfold afterM
  rw [if_pos rfl]
  cases l with
  | nil => rfl
  | cons a l => rfl
theorem oneF_line {s : List UInt8} {e : Int} (h : lineGo L [] s = .inl e) : oneF A B L s = .inl e := by unfold oneF; rw [h]
theorem oneF_quote {s q : List UInt8} (h : lineGo L [] s = .inr q) (h2 : Ln.spl (strip q) = none) : oneF A B L s = .inl 16 := by unfold oneF; rw [h]; simp only []; rw [h2]
theorem oneF_many {s q : List UInt8} {l : List (List UInt8)} (h : lineGo L [] s = .inr q) (h2 : Ln.spl (strip q) = some l) (h3 : A < l.length) : oneF A B L s = .inl 7 := by unfold oneF; rw [h]; simp only []; rw [h2]; simp only []; rw [if_pos h3]
theorem oneF_long {s q : List UInt8} {l : List (List UInt8)} (h : lineGo L [] s = .inr q) (h2 : Ln.spl (strip q) = some l) (h3 : ¬ A < l.length) (h4 : ∃ a ∈ l, B < a.length) : oneF A B L s = .inl 6 := by
  unfold oneF; rw [h]; simp only []; rw [h2]; simp only []; rw [if_neg h3, if_pos (by simpa using h4)]
theorem oneF_ok {s q : List UInt8} {l : List (List UInt8)} (h : lineGo L [] s = .inr q) (h2 : Ln.spl (strip q) = some l) (h3 : ¬ A < l.length) (h4 : ∀ a ∈ l, a.length ≤ B) : oneF A B L s = .inr (l, q.length + 1) := by
  unfold oneF; rw [h]; simp only []; rw [h2]; simp only []; rw [if_neg h3, if_neg (by simpa using h4)]
end
theorem strip_13 (t : List UInt8) : strip (t ++ [13]) = t := by unfold strip; simp
theorem strip_not {t : List UInt8} (h : t.getLast? ≠ some 13) : strip t = t := by unfold strip; rw [if_neg h]
theorem last_at (s : ByteArray) (k : Nat) (h : k < s.size) : s.data.toList.take (k + 1) = s.data.toList.take k ++ [s[k]] := by
  rw [List.take_succ_eq_append_getElem (by simpa using h)]; rfl
set_option maxRecDepth 100000 in
set_option maxHeartbeats 8000000 in
theorem rone_any (s : ByteArray) (A B L : Nat) (w : World) (hs : s.size ≤ 1000000000) (hh0 : s.data.toList ≠ []) (h42 : s.data.toList.head? ≠ some 42) (hA : A ≤ 65536) (_hB : B ≤ 1048576) (hL : L ≤ 65536) :
    Calls Tryz.prog 47 #[.string s, .agg #[.int .i64 A, .int .i64 B, .int .i64 L]] w (OneEnd A B L s w) := by
  have n3 := heap_alloc_new w (.cells #[.int .i64 A, .int .i64 B, .int .i64 L] 67)
  have n4 := heap_alloc_new (w.alloc (.cells #[.int .i64 A, .int .i64 B, .int .i64 L] 67)) (.cells #[.string ⟨#[]⟩, .slice none 0 0, .int .i64 0, .int .i64 0, .bool false, .int .i64 0, .int .i64 0] 62)
  have n3' := (Lib.alloc_old (w.alloc (.cells #[.int .i64 A, .int .i64 B, .int .i64 L] 67)) (.cells #[.string ⟨#[]⟩, .slice none 0 0, .int .i64 0, .int .i64 0, .bool false, .int .i64 0, .int .i64 0] 62) w.heap.size (by simp)).trans n3
  simp only [World.size_alloc] at n4
  have hWs : ((w.alloc (.cells #[.int .i64 A, .int .i64 B, .int .i64 L] 67)).alloc (.cells #[.string ⟨#[]⟩, .slice none 0 0, .int .i64 0, .int .i64 0, .bool false, .int .i64 0, .int .i64 0] 62)).heap.size = w.heap.size + 2 := by simp
  have hWb : Below w.heap.size w ((w.alloc (.cells #[.int .i64 A, .int .i64 B, .int .i64 L] 67)).alloc (.cells #[.string ⟨#[]⟩, .slice none 0 0, .int .i64 0, .int .i64 0, .bool false, .int .i64 0, .int .i64 0] 62)) := ((Below.refl _ _).alloc (Nat.le_refl _) _).alloc (by simp) _
  clear n3
  obtain ⟨RL, hRL⟩ : ∃ R, lineGo L [] s.data.toList = R := ⟨_, rfl⟩
  have hRL0 : Hid (lineGo L (s.data.toList.take 0) (s.data.toList.drop 0) = RL) := Lib.hid (by rw [List.take_zero, List.drop_zero]; exact hRL)
  have hRLH := Lib.hid hRL
  have hhH := Lib.hid hh0
  have h42H := Lib.hid h42
  clear hRL hh0 h42
  go_enter Tryz.func47, Tryz.ntmps47
  go_upto_region 1 with fail
  generalize ((w.alloc (.cells #[.int .i64 A, .int .i64 B, .int .i64 L] 67)).alloc (.cells #[.string ⟨#[]⟩, .slice none 0 0, .int .i64 0, .int .i64 0, .bool false, .int .i64 0, .int .i64 0] 62)) = W1 at n3' n4 hWs hWb ⊢
  have n3H := Lib.hid n3'
  have n4H := Lib.hid n4
  have hWbH := Lib.hid hWb
  obtain ⟨l0, l1, l2⟩ := lim_facts n3'
  obtain ⟨r0, r1, r2, r3, r4, r5, r6, q0, q1, q2, q3, q4, q5, q6⟩ := in_facts n4
  have hlt0 : w.heap.size < W1.heap.size := by omega
  have hlt1 : w.heap.size + 1 < W1.heap.size := by omega
  clear n3' n4 hWs hWb
  go_wp2_with fail
  go_loop [6] (fun i => ∃ k : Nat, i = .int .i64 k ∧ k ≤ s.size ∧ k ≤ L + 1 ∧ Hid (lineGo L (s.data.toList.take k) (s.data.toList.drop k) = RL)) (fun i => s.size - (intOf i).toNat)
  case atStart => exact ⟨0, rfl, by omega, by omega, hRL0⟩
  case round =>
    clear hRL0
    obtain ⟨k, rfl, hk, hkL, hgo⟩ := hrel
    have htl : (s.data.toList.take k).length = k := by rw [List.length_take, size_len]; omega
    by_cases hin : k < s.size ∧ k ≤ L
    · obtain ⟨hk1, hk2⟩ := hin
      have hcons := str_cons s k hk1
      by_cases h10 : s[k] = 10
      · have hq : ((s[k].toNat : Int) != 10) = false := by rw [h10]; rfl
        have hRq : Hid (lineGo L [] s.data.toList = .inr (s.data.toList.take k)) := Lib.hid (by rw [hRLH.out, ← hgo.out, hcons, lineGo, if_neg (by omega), if_pos h10])
        clear hgo hcons h10 hRLH
        rcases k with _ | k'
        · have hRq0 : Hid (lineGo L [] s.data.toList = .inr (s.data.toList.take 0)) := hRq
          have hTd0 : Hid ((s.extract 0 0).data.toList = strip (s.data.toList.take 0)) := Lib.hid (by simp [strip])
          have hTd0' : Hid (ByteArray.empty.data.toList = strip (s.data.toList.take 0)) := Lib.hid (by simp [strip])
          clear hRq
          have hRq := hRq0
          go_upto_region 8 with fail
          obtain ⟨T, hTe⟩ : ∃ T, T = ByteArray.empty := ⟨_, rfl⟩
          have hTz : T.size ≤ 65536 := by rw [hTe]; exact Nat.zero_le _
          have hTd : Hid (T.data.toList = strip (s.data.toList.take 0)) := by rw [hTe]; exact hTd0'
          first
            | rw [← hTe]
            | skip
          clear hTe hTd0 hTd0'
          have hSp := Lib.hid (rsplit_any T W1 (by omega))
          rw [hTd.out] at hSp
          cases hsp : Ln.spl (strip (s.data.toList.take 0)) with
          | none =>
            rw [hsp] at hSp
            have hst := Lib.hid (line_bad (B := B) (A := A) hhH.out h42H.out (oneF_quote hRq.out hsp))
            clear hsp
            go_upto_region 9 with (go_at_call 64; ((with_reducible refine hSp.out.mono ?_); rintro e w2 ⟨rfl, hb2⟩))
            clear r0 r1 r2 r3 r4 r5 r6 q0 q1 q2 q3 q4 q5 q6 l0 l1 l2
            obtain ⟨l0, l1, l2⟩ := lim_facts ((hb2.block w.heap.size hlt0).trans n3H.out)
            obtain ⟨r0, r1, r2, r3, r4, r5, r6, q0, q1, q2, q3, q4, q5, q6⟩ := in_facts ((hb2.block (w.heap.size + 1) hlt1).trans n4H.out)
            go_wp2_with fail
            obtain ⟨k1, k2, k3⟩ := own_fin (w := w) (X := w2) (u := .slice none 0 0) (ss := []) (World.ownsRow_nil _ _ _ _) hb2 n4H.out hWbH.out (Nat.le_add_right _ _) (.string ⟨#[]⟩) (.slice none 0 0) (.int .i64 0) (.int .i64 0) (.bool false) (.int .i64 0) (.int .i64 0)
            clear r0 r1 r2 r3 r4 r5 r6 q0 q1 q2 q3 q4 q5 q6 l0 l1 l2
            generalize (((((((w2.setCell ⟨w.heap.size + 1, 0, none⟩ (.string ⟨#[]⟩)).setCell ⟨w.heap.size + 1, 1, none⟩ (.slice none 0 0)).setCell ⟨w.heap.size + 1, 2, none⟩ (.int .i64 0)).setCell ⟨w.heap.size + 1, 3, none⟩ (.int .i64 0)).setCell ⟨w.heap.size + 1, 4, none⟩ (.bool false)).setCell ⟨w.heap.size + 1, 5, none⟩ (.int .i64 0)).setCell ⟨w.heap.size + 1, 6, none⟩ (.int .i64 0)) = w9 at k1 k2 k3 ⊢
            obtain ⟨d0, d1, d2, d3, d4, d5, d6, _⟩ := in_facts k1
            refine bodyPost_ret (v := .tuple #[.agg #[.string ⟨#[]⟩, .slice none 0 0, .int .i64 0, .int .i64 0, .bool false, .int .i64 0, .int .i64 0], .int .i64 16]) (by simp [results, Tryz.results47, go_sem, d0, d1, d2, d3, d4, d5, d6]) rfl ⟨k2, ?_⟩
            exact Or.inl ⟨16, ⟨#[]⟩, none, 0, 0, 0, 0, 0, false, by decide, by decide, feed_dead hst.out (by decide), rfl⟩
          | some l =>
            rw [hsp] at hSp
            have hspH := Lib.hid hsp
            clear hsp
            go_upto_region 9 with (go_at_call 64; ((with_reducible refine hSp.out.mono ?_); rintro e w2 ⟨ss, v, hss, rfl, htx⟩; obtain ⟨a, cap, rfl, _, hsok⟩ := own_sok htx.own; have hssH := Lib.hid hss; have htxH := Lib.hid htx; have hsokH := Lib.hid hsok; clear hss htx hsok))
            have hb2 := htxH.out.bel
            have hsl : ss.length = l.length := by rw [← hssH.out]; simp [txt]
            clear r0 r1 r2 r3 r4 r5 r6 q0 q1 q2 q3 q4 q5 q6 l0 l1 l2
            obtain ⟨l0, l1, l2⟩ := lim_facts ((hb2.block w.heap.size hlt0).trans n3H.out)
            obtain ⟨r0, r1, r2, r3, r4, r5, r6, q0, q1, q2, q3, q4, q5, q6⟩ := in_facts ((hb2.block (w.heap.size + 1) hlt1).trans n4H.out)
            by_cases hAl : A < ss.length
            · have hst := Lib.hid (line_bad (B := B) (A := A) hhH.out h42H.out (oneF_many hRq.out hspH.out (by omega)))
              clear hsl
              go_wp2_with fail
              obtain ⟨k1, k2, k3⟩ := own_fin (w := w) (X := w2) (u := .slice none 0 0) (ss := []) (World.ownsRow_nil _ _ _ _) hb2 n4H.out hWbH.out (Nat.le_add_right _ _) (.string ⟨#[]⟩) (.slice none 0 0) (.int .i64 0) (.int .i64 0) (.bool false) (.int .i64 0) (.int .i64 0)
              clear r0 r1 r2 r3 r4 r5 r6 q0 q1 q2 q3 q4 q5 q6 l0 l1 l2
              generalize (((((((w2.setCell ⟨w.heap.size + 1, 0, none⟩ (.string ⟨#[]⟩)).setCell ⟨w.heap.size + 1, 1, none⟩ (.slice none 0 0)).setCell ⟨w.heap.size + 1, 2, none⟩ (.int .i64 0)).setCell ⟨w.heap.size + 1, 3, none⟩ (.int .i64 0)).setCell ⟨w.heap.size + 1, 4, none⟩ (.bool false)).setCell ⟨w.heap.size + 1, 5, none⟩ (.int .i64 0)).setCell ⟨w.heap.size + 1, 6, none⟩ (.int .i64 0)) = w9 at k1 k2 k3 ⊢
              obtain ⟨d0, d1, d2, d3, d4, d5, d6, _⟩ := in_facts k1
              refine bodyPost_ret (v := .tuple #[.agg #[.string ⟨#[]⟩, .slice none 0 0, .int .i64 0, .int .i64 0, .bool false, .int .i64 0, .int .i64 0], .int .i64 7]) (by simp [results, Tryz.results47, go_sem, d0, d1, d2, d3, d4, d5, d6]) rfl ⟨k2, ?_⟩
              exact Or.inl ⟨7, ⟨#[]⟩, none, 0, 0, 0, 0, 0, false, by decide, by decide, feed_dead hst.out (by decide), rfl⟩
            · have hAl2 : ¬ A < l.length := by omega
              have hW0 : Hid (∃ m, w2 = w2.drewN m) := Lib.hid ⟨0, rfl⟩
              have hT0 : Hid (∀ x ∈ ss.take 0, x.size ≤ B) := Lib.hid (fun x hx => by simp at hx)
              have hlh := Lib.hid hsl
              clear hsl hb2
              go_wp2_with fail
              go_loopw [10] (fun i wr => ∃ j : Nat, i = .int .i64 j ∧ j ≤ ss.length ∧ Hid (∀ x ∈ ss.take j, x.size ≤ B) ∧ Hid (∃ m, wr = w2.drewN m)) (fun i _ => ss.length - (intOf i).toNat)
              case atStart => exact ⟨0, rfl, by omega, hT0, hW0⟩
              case round =>
                clear hT0 hW0
                obtain ⟨j, rfl, hj, hT, hW⟩ := hrel
                have hbr : Below W1.heap.size W1 wr := by obtain ⟨m, hm⟩ := hW.out; rw [hm]; exact below_drewN htxH.out.bel m
                have hor : wr.ownsRow W1.heap.size 9 1 (.slice a ss.length cap) ss.length (strV ss) := by obtain ⟨m, hm⟩ := hW.out; rw [hm]; exact htxH.out.own
                clear r0 r1 r2 r3 r4 r5 r6 q0 q1 q2 q3 q4 q5 q6 l0 l1 l2
                obtain ⟨l0, l1, l2⟩ := lim_facts ((hbr.block w.heap.size hlt0).trans n3H.out)
                obtain ⟨r0, r1, r2, r3, r4, r5, r6, q0, q1, q2, q3, q4, q5, q6⟩ := in_facts ((hbr.block (w.heap.size + 1) hlt1).trans n4H.out)
                have hbrH := Lib.hid hbr
                have horH := Lib.hid hor
                clear hbr hor
                by_cases hjl : j < ss.length
                · obtain ⟨x, hx⟩ : ∃ x, ss[j]? = some x := ⟨_, List.getElem?_eq_getElem hjl⟩
                  obtain ⟨ad, rfl, _, _, hc⟩ := hsokH.out j x hx
                  have hcw : wr.cell? (ad.add j) = some (.string x) := by obtain ⟨m, hm⟩ := hW.out; rw [hm]; exact hc
                  by_cases hxB : B < x.size
                  · have hst := Lib.hid (line_bad (B := B) (A := A) hhH.out h42H.out (oneF_long hRq.out hspH.out hAl2 ⟨x.data.toList, by rw [← hssH.out]; simp only [txt, List.mem_map]; exact ⟨x, List.mem_of_getElem? hx, rfl⟩, by rw [size_len]; exact hxB⟩))
                    clear hc hx
                    go_wp2_with fail
                    go_quiet (fail)
                    go_wp2_with fail
                    all_goals first
                      | (exfalso; omega)
                      | (
                        obtain ⟨k1, k2, k3⟩ := own_fin (w := w) (X := (wr.drewN nq)) (u := .slice none 0 0) (ss := []) (World.ownsRow_nil _ _ _ _) (below_drewN hbrH.out nq) n4H.out hWbH.out (Nat.le_add_right _ _) (.string ⟨#[]⟩) (.slice none 0 0) (.int .i64 0) (.int .i64 0) (.bool false) (.int .i64 0) (.int .i64 0)
                        clear r0 r1 r2 r3 r4 r5 r6 q0 q1 q2 q3 q4 q5 q6 l0 l1 l2
                        generalize ((((((((wr.drewN nq).setCell ⟨w.heap.size + 1, 0, none⟩ (.string ⟨#[]⟩)).setCell ⟨w.heap.size + 1, 1, none⟩ (.slice none 0 0)).setCell ⟨w.heap.size + 1, 2, none⟩ (.int .i64 0)).setCell ⟨w.heap.size + 1, 3, none⟩ (.int .i64 0)).setCell ⟨w.heap.size + 1, 4, none⟩ (.bool false)).setCell ⟨w.heap.size + 1, 5, none⟩ (.int .i64 0)).setCell ⟨w.heap.size + 1, 6, none⟩ (.int .i64 0)) = w9 at k1 k2 k3 ⊢
                        obtain ⟨d0, d1, d2, d3, d4, d5, d6, _⟩ := in_facts k1
                        refine bodyPost_ret (v := .tuple #[.agg #[.string ⟨#[]⟩, .slice none 0 0, .int .i64 0, .int .i64 0, .bool false, .int .i64 0, .int .i64 0], .int .i64 6]) (by simp [results, Tryz.results47, go_sem, d0, d1, d2, d3, d4, d5, d6]) rfl ⟨k2, ?_⟩
                        exact Or.inl ⟨6, ⟨#[]⟩, none, 0, 0, 0, 0, 0, false, by decide, by decide, feed_dead hst.out (by decide), rfl⟩)
                  · have hT2 : Hid (∀ y ∈ ss.take (j + 1), y.size ≤ B) := Lib.hid (by
                      intro y hy
                      rw [List.take_add_one, hx] at hy
                      rcases List.mem_append.1 hy with h | h
                      · exact hT.out y h
                      · simp at h; subst h; omega)
                    clear hc hx
                    go_wp2_with fail
                    go_quiet (fail)
                    go_wp2_with fail
                    all_goals first
                      | (exfalso; omega)
                      | (go_roundw
                         case rel => exact ⟨j + 1, by go_num, by omega, hT2, Lib.hid (drewN_trans hW.out _)⟩
                         case measure => simp [intOf]; omega)
                · have hok := Lib.hid (line_ok (B := B) (A := A) hhH.out h42H.out (oneF_ok hRq.out hspH.out hAl2 (by
                    intro y hy
                    rw [← hssH.out] at hy
                    simp only [txt, List.mem_map] at hy
                    obtain ⟨x, hx, rfl⟩ := hy
                    rw [size_len]
                    exact hT.out x (by rw [List.take_of_length_le (by omega)]; exact hx))))
                  go_wp2_with fail
                  obtain ⟨k1, k2, k3⟩ := own_fin (w := w) (X := wr) horH.out hbrH.out n4H.out hWbH.out (Nat.le_add_right _ _) (.string ⟨#[]⟩) (.slice a ss.length cap) (.int .i64 0) (.int .i64 1) (.bool false) (.int .i64 0) (.int .i64 0)
                  clear r0 r1 r2 r3 r4 r5 r6 q0 q1 q2 q3 q4 q5 q6 l0 l1 l2
                  generalize (((((((wr.setCell ⟨w.heap.size + 1, 0, none⟩ (.string ⟨#[]⟩)).setCell ⟨w.heap.size + 1, 1, none⟩ (.slice a ss.length cap)).setCell ⟨w.heap.size + 1, 2, none⟩ (.int .i64 0)).setCell ⟨w.heap.size + 1, 3, none⟩ (.int .i64 1)).setCell ⟨w.heap.size + 1, 4, none⟩ (.bool false)).setCell ⟨w.heap.size + 1, 5, none⟩ (.int .i64 0)).setCell ⟨w.heap.size + 1, 6, none⟩ (.int .i64 0)) = w9 at k1 k2 k3 ⊢
                  obtain ⟨d0, d1, d2, d3, d4, d5, d6, _⟩ := in_facts k1
                  refine bodyPost_ret (v := .tuple #[.agg #[.string ⟨#[]⟩, .slice a ss.length cap, .int .i64 0, .int .i64 1, .bool false, .int .i64 0, .int .i64 0], .int .i64 0]) (by simp [results, Tryz.results47, go_sem, d0, d1, d2, d3, d4, d5, d6]) rfl ⟨k2, ?_⟩
                  exact Or.inr (Or.inr ⟨ss, a, cap, 0 + 1, by omega, by omega, by omega, by rw [hok.out, hssH.out, htl], k3, rfl⟩)
        · have hkk : k' < s.size := by omega
          have hlast := last_at s k' hkk
          have hxz : k' < (s.extract 0 (k' + 1)).size := by simp; omega
          have hxe : (s.extract 0 (k' + 1))[k']'hxz = s[k'] := by simp [ByteArray.getElem_extract]
          by_cases h13 : s[k'] = 13
          · have hq13 : ((((s.extract 0 (k' + 1))[k']'hxz).toNat : Int) == 13) = true := by rw [hxe, h13]; rfl
            have hst2 : strip (s.data.toList.take (k' + 1)) = s.data.toList.take k' := by rw [hlast, h13]; exact strip_13 _
            have hTd : Hid (((s.extract 0 (k' + 1)).extract 0 k').data.toList = strip (s.data.toList.take (k' + 1))) := Lib.hid (by rw [hst2]; simp)
            have hTz : ((s.extract 0 (k' + 1)).extract 0 k').size ≤ 65536 := by simp; omega
            clear hlast hxe h13 hst2
            go_upto_region 8 with fail
            generalize (s.extract 0 (k' + 1)).extract 0 k' = T at hTd hTz ⊢
            have hSp := Lib.hid (rsplit_any T W1 (by omega))
            rw [hTd.out] at hSp
            cases hsp : Ln.spl (strip (s.data.toList.take (k' + 1))) with
            | none =>
              rw [hsp] at hSp
              have hst := Lib.hid (line_bad (B := B) (A := A) hhH.out h42H.out (oneF_quote hRq.out hsp))
              clear hsp
              go_upto_region 9 with (go_at_call 64; ((with_reducible refine hSp.out.mono ?_); rintro e w2 ⟨rfl, hb2⟩))
              clear r0 r1 r2 r3 r4 r5 r6 q0 q1 q2 q3 q4 q5 q6 l0 l1 l2
              obtain ⟨l0, l1, l2⟩ := lim_facts ((hb2.block w.heap.size hlt0).trans n3H.out)
              obtain ⟨r0, r1, r2, r3, r4, r5, r6, q0, q1, q2, q3, q4, q5, q6⟩ := in_facts ((hb2.block (w.heap.size + 1) hlt1).trans n4H.out)
              go_wp2_with fail
              obtain ⟨k1, k2, k3⟩ := own_fin (w := w) (X := w2) (u := .slice none 0 0) (ss := []) (World.ownsRow_nil _ _ _ _) hb2 n4H.out hWbH.out (Nat.le_add_right _ _) (.string ⟨#[]⟩) (.slice none 0 0) (.int .i64 0) (.int .i64 0) (.bool false) (.int .i64 0) (.int .i64 0)
              clear r0 r1 r2 r3 r4 r5 r6 q0 q1 q2 q3 q4 q5 q6 l0 l1 l2
              generalize (((((((w2.setCell ⟨w.heap.size + 1, 0, none⟩ (.string ⟨#[]⟩)).setCell ⟨w.heap.size + 1, 1, none⟩ (.slice none 0 0)).setCell ⟨w.heap.size + 1, 2, none⟩ (.int .i64 0)).setCell ⟨w.heap.size + 1, 3, none⟩ (.int .i64 0)).setCell ⟨w.heap.size + 1, 4, none⟩ (.bool false)).setCell ⟨w.heap.size + 1, 5, none⟩ (.int .i64 0)).setCell ⟨w.heap.size + 1, 6, none⟩ (.int .i64 0)) = w9 at k1 k2 k3 ⊢
              obtain ⟨d0, d1, d2, d3, d4, d5, d6, _⟩ := in_facts k1
              refine bodyPost_ret (v := .tuple #[.agg #[.string ⟨#[]⟩, .slice none 0 0, .int .i64 0, .int .i64 0, .bool false, .int .i64 0, .int .i64 0], .int .i64 16]) (by simp [results, Tryz.results47, go_sem, d0, d1, d2, d3, d4, d5, d6]) rfl ⟨k2, ?_⟩
              exact Or.inl ⟨16, ⟨#[]⟩, none, 0, 0, 0, 0, 0, false, by decide, by decide, feed_dead hst.out (by decide), rfl⟩
            | some l =>
              rw [hsp] at hSp
              have hspH := Lib.hid hsp
              clear hsp
              go_upto_region 9 with (go_at_call 64; ((with_reducible refine hSp.out.mono ?_); rintro e w2 ⟨ss, v, hss, rfl, htx⟩; obtain ⟨a, cap, rfl, _, hsok⟩ := own_sok htx.own; have hssH := Lib.hid hss; have htxH := Lib.hid htx; have hsokH := Lib.hid hsok; clear hss htx hsok))
              have hb2 := htxH.out.bel
              have hsl : ss.length = l.length := by rw [← hssH.out]; simp [txt]
              clear r0 r1 r2 r3 r4 r5 r6 q0 q1 q2 q3 q4 q5 q6 l0 l1 l2
              obtain ⟨l0, l1, l2⟩ := lim_facts ((hb2.block w.heap.size hlt0).trans n3H.out)
              obtain ⟨r0, r1, r2, r3, r4, r5, r6, q0, q1, q2, q3, q4, q5, q6⟩ := in_facts ((hb2.block (w.heap.size + 1) hlt1).trans n4H.out)
              by_cases hAl : A < ss.length
              · have hst := Lib.hid (line_bad (B := B) (A := A) hhH.out h42H.out (oneF_many hRq.out hspH.out (by omega)))
                clear hsl
                go_wp2_with fail
                obtain ⟨k1, k2, k3⟩ := own_fin (w := w) (X := w2) (u := .slice none 0 0) (ss := []) (World.ownsRow_nil _ _ _ _) hb2 n4H.out hWbH.out (Nat.le_add_right _ _) (.string ⟨#[]⟩) (.slice none 0 0) (.int .i64 0) (.int .i64 0) (.bool false) (.int .i64 0) (.int .i64 0)
                clear r0 r1 r2 r3 r4 r5 r6 q0 q1 q2 q3 q4 q5 q6 l0 l1 l2
                generalize (((((((w2.setCell ⟨w.heap.size + 1, 0, none⟩ (.string ⟨#[]⟩)).setCell ⟨w.heap.size + 1, 1, none⟩ (.slice none 0 0)).setCell ⟨w.heap.size + 1, 2, none⟩ (.int .i64 0)).setCell ⟨w.heap.size + 1, 3, none⟩ (.int .i64 0)).setCell ⟨w.heap.size + 1, 4, none⟩ (.bool false)).setCell ⟨w.heap.size + 1, 5, none⟩ (.int .i64 0)).setCell ⟨w.heap.size + 1, 6, none⟩ (.int .i64 0)) = w9 at k1 k2 k3 ⊢
                obtain ⟨d0, d1, d2, d3, d4, d5, d6, _⟩ := in_facts k1
                refine bodyPost_ret (v := .tuple #[.agg #[.string ⟨#[]⟩, .slice none 0 0, .int .i64 0, .int .i64 0, .bool false, .int .i64 0, .int .i64 0], .int .i64 7]) (by simp [results, Tryz.results47, go_sem, d0, d1, d2, d3, d4, d5, d6]) rfl ⟨k2, ?_⟩
                exact Or.inl ⟨7, ⟨#[]⟩, none, 0, 0, 0, 0, 0, false, by decide, by decide, feed_dead hst.out (by decide), rfl⟩
              · have hAl2 : ¬ A < l.length := by omega
                have hW0 : Hid (∃ m, w2 = w2.drewN m) := Lib.hid ⟨0, rfl⟩
                have hT0 : Hid (∀ x ∈ ss.take 0, x.size ≤ B) := Lib.hid (fun x hx => by simp at hx)
                have hlh := Lib.hid hsl
                clear hsl hb2
                go_wp2_with fail
                go_loopw [10] (fun i wr => ∃ j : Nat, i = .int .i64 j ∧ j ≤ ss.length ∧ Hid (∀ x ∈ ss.take j, x.size ≤ B) ∧ Hid (∃ m, wr = w2.drewN m)) (fun i _ => ss.length - (intOf i).toNat)
                case atStart => exact ⟨0, rfl, by omega, hT0, hW0⟩
                case round =>
                  clear hT0 hW0
                  obtain ⟨j, rfl, hj, hT, hW⟩ := hrel
                  have hbr : Below W1.heap.size W1 wr := by obtain ⟨m, hm⟩ := hW.out; rw [hm]; exact below_drewN htxH.out.bel m
                  have hor : wr.ownsRow W1.heap.size 9 1 (.slice a ss.length cap) ss.length (strV ss) := by obtain ⟨m, hm⟩ := hW.out; rw [hm]; exact htxH.out.own
                  clear r0 r1 r2 r3 r4 r5 r6 q0 q1 q2 q3 q4 q5 q6 l0 l1 l2
                  obtain ⟨l0, l1, l2⟩ := lim_facts ((hbr.block w.heap.size hlt0).trans n3H.out)
                  obtain ⟨r0, r1, r2, r3, r4, r5, r6, q0, q1, q2, q3, q4, q5, q6⟩ := in_facts ((hbr.block (w.heap.size + 1) hlt1).trans n4H.out)
                  have hbrH := Lib.hid hbr
                  have horH := Lib.hid hor
                  clear hbr hor
                  by_cases hjl : j < ss.length
                  · obtain ⟨x, hx⟩ : ∃ x, ss[j]? = some x := ⟨_, List.getElem?_eq_getElem hjl⟩
                    obtain ⟨ad, rfl, _, _, hc⟩ := hsokH.out j x hx
                    have hcw : wr.cell? (ad.add j) = some (.string x) := by obtain ⟨m, hm⟩ := hW.out; rw [hm]; exact hc
                    by_cases hxB : B < x.size
                    · have hst := Lib.hid (line_bad (B := B) (A := A) hhH.out h42H.out (oneF_long hRq.out hspH.out hAl2 ⟨x.data.toList, by rw [← hssH.out]; simp only [txt, List.mem_map]; exact ⟨x, List.mem_of_getElem? hx, rfl⟩, by rw [size_len]; exact hxB⟩))
                      clear hc hx
                      go_wp2_with fail
                      go_quiet (fail)
                      go_wp2_with fail
                      all_goals first
                        | (exfalso; omega)
                        | (
                          obtain ⟨k1, k2, k3⟩ := own_fin (w := w) (X := (wr.drewN nq)) (u := .slice none 0 0) (ss := []) (World.ownsRow_nil _ _ _ _) (below_drewN hbrH.out nq) n4H.out hWbH.out (Nat.le_add_right _ _) (.string ⟨#[]⟩) (.slice none 0 0) (.int .i64 0) (.int .i64 0) (.bool false) (.int .i64 0) (.int .i64 0)
                          clear r0 r1 r2 r3 r4 r5 r6 q0 q1 q2 q3 q4 q5 q6 l0 l1 l2
                          generalize ((((((((wr.drewN nq).setCell ⟨w.heap.size + 1, 0, none⟩ (.string ⟨#[]⟩)).setCell ⟨w.heap.size + 1, 1, none⟩ (.slice none 0 0)).setCell ⟨w.heap.size + 1, 2, none⟩ (.int .i64 0)).setCell ⟨w.heap.size + 1, 3, none⟩ (.int .i64 0)).setCell ⟨w.heap.size + 1, 4, none⟩ (.bool false)).setCell ⟨w.heap.size + 1, 5, none⟩ (.int .i64 0)).setCell ⟨w.heap.size + 1, 6, none⟩ (.int .i64 0)) = w9 at k1 k2 k3 ⊢
                          obtain ⟨d0, d1, d2, d3, d4, d5, d6, _⟩ := in_facts k1
                          refine bodyPost_ret (v := .tuple #[.agg #[.string ⟨#[]⟩, .slice none 0 0, .int .i64 0, .int .i64 0, .bool false, .int .i64 0, .int .i64 0], .int .i64 6]) (by simp [results, Tryz.results47, go_sem, d0, d1, d2, d3, d4, d5, d6]) rfl ⟨k2, ?_⟩
                          exact Or.inl ⟨6, ⟨#[]⟩, none, 0, 0, 0, 0, 0, false, by decide, by decide, feed_dead hst.out (by decide), rfl⟩)
                    · have hT2 : Hid (∀ y ∈ ss.take (j + 1), y.size ≤ B) := Lib.hid (by
                        intro y hy
                        rw [List.take_add_one, hx] at hy
                        rcases List.mem_append.1 hy with h | h
                        · exact hT.out y h
                        · simp at h; subst h; omega)
                      clear hc hx
                      go_wp2_with fail
                      go_quiet (fail)
                      go_wp2_with fail
                      all_goals first
                        | (exfalso; omega)
                        | (go_roundw
                           case rel => exact ⟨j + 1, by go_num, by omega, hT2, Lib.hid (drewN_trans hW.out _)⟩
                           case measure => simp [intOf]; omega)
                  · have hok := Lib.hid (line_ok (B := B) (A := A) hhH.out h42H.out (oneF_ok hRq.out hspH.out hAl2 (by
                      intro y hy
                      rw [← hssH.out] at hy
                      simp only [txt, List.mem_map] at hy
                      obtain ⟨x, hx, rfl⟩ := hy
                      rw [size_len]
                      exact hT.out x (by rw [List.take_of_length_le (by omega)]; exact hx))))
                    go_wp2_with fail
                    obtain ⟨k1, k2, k3⟩ := own_fin (w := w) (X := wr) horH.out hbrH.out n4H.out hWbH.out (Nat.le_add_right _ _) (.string ⟨#[]⟩) (.slice a ss.length cap) (.int .i64 0) (.int .i64 ((k' : Int) + 1 + 1)) (.bool false) (.int .i64 0) (.int .i64 0)
                    clear r0 r1 r2 r3 r4 r5 r6 q0 q1 q2 q3 q4 q5 q6 l0 l1 l2
                    generalize (((((((wr.setCell ⟨w.heap.size + 1, 0, none⟩ (.string ⟨#[]⟩)).setCell ⟨w.heap.size + 1, 1, none⟩ (.slice a ss.length cap)).setCell ⟨w.heap.size + 1, 2, none⟩ (.int .i64 0)).setCell ⟨w.heap.size + 1, 3, none⟩ (.int .i64 ((k' : Int) + 1 + 1))).setCell ⟨w.heap.size + 1, 4, none⟩ (.bool false)).setCell ⟨w.heap.size + 1, 5, none⟩ (.int .i64 0)).setCell ⟨w.heap.size + 1, 6, none⟩ (.int .i64 0)) = w9 at k1 k2 k3 ⊢
                    obtain ⟨d0, d1, d2, d3, d4, d5, d6, _⟩ := in_facts k1
                    refine bodyPost_ret (v := .tuple #[.agg #[.string ⟨#[]⟩, .slice a ss.length cap, .int .i64 0, .int .i64 ((k' : Int) + 1 + 1), .bool false, .int .i64 0, .int .i64 0], .int .i64 0]) (by simp [results, Tryz.results47, go_sem, d0, d1, d2, d3, d4, d5, d6]) rfl ⟨k2, ?_⟩
                    exact Or.inr (Or.inr ⟨ss, a, cap, (k' + 1) + 1, by omega, by omega, by omega, by rw [hok.out, hssH.out, htl], k3, rfl⟩)
          · have hq13 : ((((s.extract 0 (k' + 1))[k']'hxz).toNat : Int) == 13) = false := by
              rw [hxe]
              exact beq_eq_false_iff_ne.2 fun e => h13 (UInt8.toNat_inj.1 (by have : (13 : UInt8).toNat = 13 := rfl; omega))
            have hst2 : strip (s.data.toList.take (k' + 1)) = s.data.toList.take (k' + 1) := by
              refine strip_not ?_
              rw [hlast]
              simpa using h13
            have hTd : Hid ((s.extract 0 (k' + 1)).data.toList = strip (s.data.toList.take (k' + 1))) := Lib.hid (by rw [hst2]; simp)
            have hTz : (s.extract 0 (k' + 1)).size ≤ 65536 := by simp; omega
            clear hlast hxe h13 hst2
            go_upto_region 8 with fail
            generalize hv : (s.extract 0 (k' + 1))[k']'hxz = bv at hq13 ⊢
            clear hv hq13 hxz
            generalize s.extract 0 (k' + 1) = T at hTd hTz ⊢
            have hSp := Lib.hid (rsplit_any T W1 (by omega))
            rw [hTd.out] at hSp
            cases hsp : Ln.spl (strip (s.data.toList.take (k' + 1))) with
            | none =>
              rw [hsp] at hSp
              have hst := Lib.hid (line_bad (B := B) (A := A) hhH.out h42H.out (oneF_quote hRq.out hsp))
              clear hsp
              go_upto_region 9 with (go_at_call 64; ((with_reducible refine hSp.out.mono ?_); rintro e w2 ⟨rfl, hb2⟩))
              clear r0 r1 r2 r3 r4 r5 r6 q0 q1 q2 q3 q4 q5 q6 l0 l1 l2
              obtain ⟨l0, l1, l2⟩ := lim_facts ((hb2.block w.heap.size hlt0).trans n3H.out)
              obtain ⟨r0, r1, r2, r3, r4, r5, r6, q0, q1, q2, q3, q4, q5, q6⟩ := in_facts ((hb2.block (w.heap.size + 1) hlt1).trans n4H.out)
              go_wp2_with fail
              obtain ⟨k1, k2, k3⟩ := own_fin (w := w) (X := w2) (u := .slice none 0 0) (ss := []) (World.ownsRow_nil _ _ _ _) hb2 n4H.out hWbH.out (Nat.le_add_right _ _) (.string ⟨#[]⟩) (.slice none 0 0) (.int .i64 0) (.int .i64 0) (.bool false) (.int .i64 0) (.int .i64 0)
              clear r0 r1 r2 r3 r4 r5 r6 q0 q1 q2 q3 q4 q5 q6 l0 l1 l2
              generalize (((((((w2.setCell ⟨w.heap.size + 1, 0, none⟩ (.string ⟨#[]⟩)).setCell ⟨w.heap.size + 1, 1, none⟩ (.slice none 0 0)).setCell ⟨w.heap.size + 1, 2, none⟩ (.int .i64 0)).setCell ⟨w.heap.size + 1, 3, none⟩ (.int .i64 0)).setCell ⟨w.heap.size + 1, 4, none⟩ (.bool false)).setCell ⟨w.heap.size + 1, 5, none⟩ (.int .i64 0)).setCell ⟨w.heap.size + 1, 6, none⟩ (.int .i64 0)) = w9 at k1 k2 k3 ⊢
              obtain ⟨d0, d1, d2, d3, d4, d5, d6, _⟩ := in_facts k1
              refine bodyPost_ret (v := .tuple #[.agg #[.string ⟨#[]⟩, .slice none 0 0, .int .i64 0, .int .i64 0, .bool false, .int .i64 0, .int .i64 0], .int .i64 16]) (by simp [results, Tryz.results47, go_sem, d0, d1, d2, d3, d4, d5, d6]) rfl ⟨k2, ?_⟩
              exact Or.inl ⟨16, ⟨#[]⟩, none, 0, 0, 0, 0, 0, false, by decide, by decide, feed_dead hst.out (by decide), rfl⟩
            | some l =>
              rw [hsp] at hSp
              have hspH := Lib.hid hsp
              clear hsp
              go_upto_region 9 with (go_at_call 64; ((with_reducible refine hSp.out.mono ?_); rintro e w2 ⟨ss, v, hss, rfl, htx⟩; obtain ⟨a, cap, rfl, _, hsok⟩ := own_sok htx.own; have hssH := Lib.hid hss; have htxH := Lib.hid htx; have hsokH := Lib.hid hsok; clear hss htx hsok))
              have hb2 := htxH.out.bel
              have hsl : ss.length = l.length := by rw [← hssH.out]; simp [txt]
              clear r0 r1 r2 r3 r4 r5 r6 q0 q1 q2 q3 q4 q5 q6 l0 l1 l2
              obtain ⟨l0, l1, l2⟩ := lim_facts ((hb2.block w.heap.size hlt0).trans n3H.out)
              obtain ⟨r0, r1, r2, r3, r4, r5, r6, q0, q1, q2, q3, q4, q5, q6⟩ := in_facts ((hb2.block (w.heap.size + 1) hlt1).trans n4H.out)
              by_cases hAl : A < ss.length
              · have hst := Lib.hid (line_bad (B := B) (A := A) hhH.out h42H.out (oneF_many hRq.out hspH.out (by omega)))
                clear hsl
                go_wp2_with fail
                obtain ⟨k1, k2, k3⟩ := own_fin (w := w) (X := w2) (u := .slice none 0 0) (ss := []) (World.ownsRow_nil _ _ _ _) hb2 n4H.out hWbH.out (Nat.le_add_right _ _) (.string ⟨#[]⟩) (.slice none 0 0) (.int .i64 0) (.int .i64 0) (.bool false) (.int .i64 0) (.int .i64 0)
                clear r0 r1 r2 r3 r4 r5 r6 q0 q1 q2 q3 q4 q5 q6 l0 l1 l2
                generalize (((((((w2.setCell ⟨w.heap.size + 1, 0, none⟩ (.string ⟨#[]⟩)).setCell ⟨w.heap.size + 1, 1, none⟩ (.slice none 0 0)).setCell ⟨w.heap.size + 1, 2, none⟩ (.int .i64 0)).setCell ⟨w.heap.size + 1, 3, none⟩ (.int .i64 0)).setCell ⟨w.heap.size + 1, 4, none⟩ (.bool false)).setCell ⟨w.heap.size + 1, 5, none⟩ (.int .i64 0)).setCell ⟨w.heap.size + 1, 6, none⟩ (.int .i64 0)) = w9 at k1 k2 k3 ⊢
                obtain ⟨d0, d1, d2, d3, d4, d5, d6, _⟩ := in_facts k1
                refine bodyPost_ret (v := .tuple #[.agg #[.string ⟨#[]⟩, .slice none 0 0, .int .i64 0, .int .i64 0, .bool false, .int .i64 0, .int .i64 0], .int .i64 7]) (by simp [results, Tryz.results47, go_sem, d0, d1, d2, d3, d4, d5, d6]) rfl ⟨k2, ?_⟩
                exact Or.inl ⟨7, ⟨#[]⟩, none, 0, 0, 0, 0, 0, false, by decide, by decide, feed_dead hst.out (by decide), rfl⟩
              · have hAl2 : ¬ A < l.length := by omega
                have hW0 : Hid (∃ m, w2 = w2.drewN m) := Lib.hid ⟨0, rfl⟩
                have hT0 : Hid (∀ x ∈ ss.take 0, x.size ≤ B) := Lib.hid (fun x hx => by simp at hx)
                have hlh := Lib.hid hsl
                clear hsl hb2
                go_wp2_with fail
                go_loopw [10] (fun i wr => ∃ j : Nat, i = .int .i64 j ∧ j ≤ ss.length ∧ Hid (∀ x ∈ ss.take j, x.size ≤ B) ∧ Hid (∃ m, wr = w2.drewN m)) (fun i _ => ss.length - (intOf i).toNat)
                case atStart => exact ⟨0, rfl, by omega, hT0, hW0⟩
                case round =>
                  clear hT0 hW0
                  obtain ⟨j, rfl, hj, hT, hW⟩ := hrel
                  have hbr : Below W1.heap.size W1 wr := by obtain ⟨m, hm⟩ := hW.out; rw [hm]; exact below_drewN htxH.out.bel m
                  have hor : wr.ownsRow W1.heap.size 9 1 (.slice a ss.length cap) ss.length (strV ss) := by obtain ⟨m, hm⟩ := hW.out; rw [hm]; exact htxH.out.own
                  clear r0 r1 r2 r3 r4 r5 r6 q0 q1 q2 q3 q4 q5 q6 l0 l1 l2
                  obtain ⟨l0, l1, l2⟩ := lim_facts ((hbr.block w.heap.size hlt0).trans n3H.out)
                  obtain ⟨r0, r1, r2, r3, r4, r5, r6, q0, q1, q2, q3, q4, q5, q6⟩ := in_facts ((hbr.block (w.heap.size + 1) hlt1).trans n4H.out)
                  have hbrH := Lib.hid hbr
                  have horH := Lib.hid hor
                  clear hbr hor
                  by_cases hjl : j < ss.length
                  · obtain ⟨x, hx⟩ : ∃ x, ss[j]? = some x := ⟨_, List.getElem?_eq_getElem hjl⟩
                    obtain ⟨ad, rfl, _, _, hc⟩ := hsokH.out j x hx
                    have hcw : wr.cell? (ad.add j) = some (.string x) := by obtain ⟨m, hm⟩ := hW.out; rw [hm]; exact hc
                    by_cases hxB : B < x.size
                    · have hst := Lib.hid (line_bad (B := B) (A := A) hhH.out h42H.out (oneF_long hRq.out hspH.out hAl2 ⟨x.data.toList, by rw [← hssH.out]; simp only [txt, List.mem_map]; exact ⟨x, List.mem_of_getElem? hx, rfl⟩, by rw [size_len]; exact hxB⟩))
                      clear hc hx
                      go_wp2_with fail
                      go_quiet (fail)
                      go_wp2_with fail
                      all_goals first
                        | (exfalso; omega)
                        | (
                          obtain ⟨k1, k2, k3⟩ := own_fin (w := w) (X := (wr.drewN nq)) (u := .slice none 0 0) (ss := []) (World.ownsRow_nil _ _ _ _) (below_drewN hbrH.out nq) n4H.out hWbH.out (Nat.le_add_right _ _) (.string ⟨#[]⟩) (.slice none 0 0) (.int .i64 0) (.int .i64 0) (.bool false) (.int .i64 0) (.int .i64 0)
                          clear r0 r1 r2 r3 r4 r5 r6 q0 q1 q2 q3 q4 q5 q6 l0 l1 l2
                          generalize ((((((((wr.drewN nq).setCell ⟨w.heap.size + 1, 0, none⟩ (.string ⟨#[]⟩)).setCell ⟨w.heap.size + 1, 1, none⟩ (.slice none 0 0)).setCell ⟨w.heap.size + 1, 2, none⟩ (.int .i64 0)).setCell ⟨w.heap.size + 1, 3, none⟩ (.int .i64 0)).setCell ⟨w.heap.size + 1, 4, none⟩ (.bool false)).setCell ⟨w.heap.size + 1, 5, none⟩ (.int .i64 0)).setCell ⟨w.heap.size + 1, 6, none⟩ (.int .i64 0)) = w9 at k1 k2 k3 ⊢
                          obtain ⟨d0, d1, d2, d3, d4, d5, d6, _⟩ := in_facts k1
                          refine bodyPost_ret (v := .tuple #[.agg #[.string ⟨#[]⟩, .slice none 0 0, .int .i64 0, .int .i64 0, .bool false, .int .i64 0, .int .i64 0], .int .i64 6]) (by simp [results, Tryz.results47, go_sem, d0, d1, d2, d3, d4, d5, d6]) rfl ⟨k2, ?_⟩
                          exact Or.inl ⟨6, ⟨#[]⟩, none, 0, 0, 0, 0, 0, false, by decide, by decide, feed_dead hst.out (by decide), rfl⟩)
                    · have hT2 : Hid (∀ y ∈ ss.take (j + 1), y.size ≤ B) := Lib.hid (by
                        intro y hy
                        rw [List.take_add_one, hx] at hy
                        rcases List.mem_append.1 hy with h | h
                        · exact hT.out y h
                        · simp at h; subst h; omega)
                      clear hc hx
                      go_wp2_with fail
                      go_quiet (fail)
                      go_wp2_with fail
                      all_goals first
                        | (exfalso; omega)
                        | (go_roundw
                           case rel => exact ⟨j + 1, by go_num, by omega, hT2, Lib.hid (drewN_trans hW.out _)⟩
                           case measure => simp [intOf]; omega)
                  · have hok := Lib.hid (line_ok (B := B) (A := A) hhH.out h42H.out (oneF_ok hRq.out hspH.out hAl2 (by
                      intro y hy
                      rw [← hssH.out] at hy
                      simp only [txt, List.mem_map] at hy
                      obtain ⟨x, hx, rfl⟩ := hy
                      rw [size_len]
                      exact hT.out x (by rw [List.take_of_length_le (by omega)]; exact hx))))
                    go_wp2_with fail
                    obtain ⟨k1, k2, k3⟩ := own_fin (w := w) (X := wr) horH.out hbrH.out n4H.out hWbH.out (Nat.le_add_right _ _) (.string ⟨#[]⟩) (.slice a ss.length cap) (.int .i64 0) (.int .i64 ((k' : Int) + 1 + 1)) (.bool false) (.int .i64 0) (.int .i64 0)
                    clear r0 r1 r2 r3 r4 r5 r6 q0 q1 q2 q3 q4 q5 q6 l0 l1 l2
                    generalize (((((((wr.setCell ⟨w.heap.size + 1, 0, none⟩ (.string ⟨#[]⟩)).setCell ⟨w.heap.size + 1, 1, none⟩ (.slice a ss.length cap)).setCell ⟨w.heap.size + 1, 2, none⟩ (.int .i64 0)).setCell ⟨w.heap.size + 1, 3, none⟩ (.int .i64 ((k' : Int) + 1 + 1))).setCell ⟨w.heap.size + 1, 4, none⟩ (.bool false)).setCell ⟨w.heap.size + 1, 5, none⟩ (.int .i64 0)).setCell ⟨w.heap.size + 1, 6, none⟩ (.int .i64 0)) = w9 at k1 k2 k3 ⊢
                    obtain ⟨d0, d1, d2, d3, d4, d5, d6, _⟩ := in_facts k1
                    refine bodyPost_ret (v := .tuple #[.agg #[.string ⟨#[]⟩, .slice a ss.length cap, .int .i64 0, .int .i64 ((k' : Int) + 1 + 1), .bool false, .int .i64 0, .int .i64 0], .int .i64 0]) (by simp [results, Tryz.results47, go_sem, d0, d1, d2, d3, d4, d5, d6]) rfl ⟨k2, ?_⟩
                    exact Or.inr (Or.inr ⟨ss, a, cap, (k' + 1) + 1, by omega, by omega, by omega, by rw [hok.out, hssH.out, htl], k3, rfl⟩)
      · have hq : ((s[k].toNat : Int) != 10) = true := bne_iff_ne.2 fun e => h10 (UInt8.toNat_inj.1 (by have : (10 : UInt8).toNat = 10 := rfl; omega))
        have hnx : Hid (lineGo L (s.data.toList.take (k + 1)) (s.data.toList.drop (k + 1)) = RL) := Lib.hid (by rw [← hgo.out, hcons, lineGo, if_neg (by omega), if_neg h10, last_at s k hk1])
        clear hgo hcons h10 htl
        go_wp2_with fail
        go_round
        case rel => exact ⟨k + 1, by go_num, by omega, by omega, hnx⟩
        case measure => simp [intOf]; omega
    · have hRe : lineGo L [] s.data.toList = if L < s.size then .inl 6 else .inl (-1) := by
        rw [hRLH.out, ← hgo.out]
        by_cases hke : k < s.size
        · rw [str_cons s k hke, lineGo, if_pos (by omega), if_pos (by omega)]
        · rw [drop_end (by omega), lineGo, htl, show k = s.size by omega]
      by_cases hLs : L < s.size
      · rw [if_pos hLs] at hRe
        have hst := Lib.hid (line_bad (B := B) (A := A) hhH.out h42H.out (oneF_line hRe))
        clear hRe hgo htl
        go_wp2_with fail
        all_goals first
          | (exfalso; omega)
          | (
            obtain ⟨k1, k2, k3⟩ := own_fin (w := w) (X := W1) (u := .slice none 0 0) (ss := []) (World.ownsRow_nil _ _ _ _) (Below.refl _ _) n4H.out hWbH.out (Nat.le_add_right _ _) (.string ⟨#[]⟩) (.slice none 0 0) (.int .i64 0) (.int .i64 0) (.bool false) (.int .i64 0) (.int .i64 0)
            clear r0 r1 r2 r3 r4 r5 r6 q0 q1 q2 q3 q4 q5 q6 l0 l1 l2
            generalize (((((((W1.setCell ⟨w.heap.size + 1, 0, none⟩ (.string ⟨#[]⟩)).setCell ⟨w.heap.size + 1, 1, none⟩ (.slice none 0 0)).setCell ⟨w.heap.size + 1, 2, none⟩ (.int .i64 0)).setCell ⟨w.heap.size + 1, 3, none⟩ (.int .i64 0)).setCell ⟨w.heap.size + 1, 4, none⟩ (.bool false)).setCell ⟨w.heap.size + 1, 5, none⟩ (.int .i64 0)).setCell ⟨w.heap.size + 1, 6, none⟩ (.int .i64 0)) = w9 at k1 k2 k3 ⊢
            obtain ⟨d0, d1, d2, d3, d4, d5, d6, _⟩ := in_facts k1
            refine bodyPost_ret (v := .tuple #[.agg #[.string ⟨#[]⟩, .slice none 0 0, .int .i64 0, .int .i64 0, .bool false, .int .i64 0, .int .i64 0], .int .i64 6]) (by simp [results, Tryz.results47, go_sem, d0, d1, d2, d3, d4, d5, d6]) rfl ⟨k2, ?_⟩
            exact Or.inl ⟨6, ⟨#[]⟩, none, 0, 0, 0, 0, 0, false, by decide, by decide, feed_dead hst.out (by decide), rfl⟩)
      · rw [if_neg hLs] at hRe
        have hst := Lib.hid (line_bad (B := B) (A := A) hhH.out h42H.out (oneF_line hRe))
        clear hRe hgo htl
        go_wp2_with fail
        all_goals first
          | (exfalso; omega)
          | (
            obtain ⟨k1, k2, k3⟩ := own_fin (w := w) (X := W1) (u := .slice none 0 0) (ss := []) (World.ownsRow_nil _ _ _ _) (Below.refl _ _) n4H.out hWbH.out (Nat.le_add_right _ _) (.string s) (.slice none 0 0) (.int .i64 0) (.int .i64 0) (.bool false) (.int .i64 0) (.int .i64 0)
            clear r0 r1 r2 r3 r4 r5 r6 q0 q1 q2 q3 q4 q5 q6 l0 l1 l2
            generalize (((((((W1.setCell ⟨w.heap.size + 1, 0, none⟩ (.string s)).setCell ⟨w.heap.size + 1, 1, none⟩ (.slice none 0 0)).setCell ⟨w.heap.size + 1, 2, none⟩ (.int .i64 0)).setCell ⟨w.heap.size + 1, 3, none⟩ (.int .i64 0)).setCell ⟨w.heap.size + 1, 4, none⟩ (.bool false)).setCell ⟨w.heap.size + 1, 5, none⟩ (.int .i64 0)).setCell ⟨w.heap.size + 1, 6, none⟩ (.int .i64 0)) = w9 at k1 k2 k3 ⊢
            obtain ⟨d0, d1, d2, d3, d4, d5, d6, _⟩ := in_facts k1
            refine bodyPost_ret (v := .tuple #[.agg #[.string s, .slice none 0 0, .int .i64 0, .int .i64 0, .bool false, .int .i64 0, .int .i64 0], .int .i64 (-1)]) (by simp [results, Tryz.results47, go_sem, d0, d1, d2, d3, d4, d5, d6]) rfl ⟨k2, ?_⟩
            exact Or.inr (Or.inl ⟨⟨s, [], 0, 0, false, 0⟩, none, 0, feed_stop hst.out, by simp, k3, rfl⟩))
end Go.Proofs.YtjidopgohdlfdaaGreatDoor

