/-
  The walk of Due. Premises: a timer as it lies.
-/
import Derived.Test.YtbaghdfalhlhcaaJ
import Derived.Test.YtbaghdfalhlhcaaO
namespace Go.Proofs.Ytbaghdfalhlhcaa
open Go.RowKit

/-- A timer whose first k keys have gone and been told; the first key of those that are left lies in a block b. -/
structure Dw (w W : World) (p b k : Nat) (O O' : List Nat) (v : Value) (h r : List Sc) : Prop where
  tm : Tm W p O' h
  hr : HR h (r.drop k)
  row : RowT W w.heap.size v ((r.take k).map Prod.fst)
  box : W.heap[b]? = some (.cells #[.string (el (r.drop k) 0).1, .int .i64 (el (r.drop k) 0).2] 44 (0, 0))
  b1 : b ∉ O'
  b2 : v.ownBlock ≠ some b
  b3 : w.heap.size ≤ b
  v1 : ∀ q, v.ownBlock = some q → q ∉ O'
  only : Only O w W
  sub : ∀ q ∈ O', q ∈ O ∨ w.heap.size ≤ q
theorem firstV_form (L : List Sc) : firstV L = .tuple #[.agg #[.string (el L 0).1, .int .i64 (el L 0).2], .bool (L[0]?).isSome] := by
  unfold firstV el
  cases hq : L[0]? with
  | none => rfl
  | some x => rfl
theorem due_nil (w : World) (now : Int) : Calls Try.prog 16 #[.pointer none, .int .i64 now] w fun e w' => e = .returned (.slice none 0 0) ∧ Only [] w w' := by
  have hF := Lib.hid (fun w => first_nil w)
  go_enter Try.func16, Try.ntmps16
  go_upto_region 3 with (go_at_call 19; ((with_reducible refine (hF.out _).mono ?_); rintro e w2 ⟨rfl, h2⟩; have h2H := Lib.hid h2; clear h2))
  have ho3 : Hid (Only [] w (w2.alloc (.cells #[.string ⟨#[]⟩, .int .i64 0] 44))) := Lib.hid (h2H.out.alloc _)
  generalize w2.alloc (.cells #[.string ⟨#[]⟩, .int .i64 0] 44) = w3 at *
  go_loopw [5, 7] (fun s5 s7 wr => s5 = .slice none 0 0 ∧ s7 = .bool false ∧ w3 = wr) (fun _ _ _ => 0)
  case atStart => exact ⟨rfl, rfl, rfl⟩
  case round =>
    obtain ⟨rfl, rfl, rfl⟩ := hrel
    go_wp2_with fail
    go_ret
    exact ⟨rfl, ho3.out⟩
set_option maxHeartbeats 32000000 in
theorem due_any {w : World} {p : Nat} {O : List Nat} {h r : List Sc} (hT : Tm w p O h) (hr : HR h r) (now : Int) :
    Calls Try.prog 16 #[.pointer (some ⟨p, 0, none⟩), .int .i64 now] w fun e w' => ∃ u, e = .returned u ∧ ∃ h' O', Tm w' p O' h' ∧ HR h' (r.drop (dueN r now)) ∧ RowT w' w.heap.size u ((r.take (dueN r now)).map Prod.fst) ∧ Only O w w' ∧ (∀ q ∈ O', q ∈ O ∨ w.heap.size ≤ q) ∧ ∀ q, u.ownBlock = some q → q ∉ O' := by
  have hF := first_any hT hr
  rw [firstV_form] at hF
  have hFH := Lib.hid hF
  have hdl := Lib.hid (dueN_le r now)
  have hds := Lib.hid (fun (i : Nat) (x : Sc) (hx : r[i]? = some x) => due_lt hr.ord (now := now) hx)
  have hfew := Lib.hid hT.few
  have hrl := Lib.hid hr.len
  have hrr := Lib.hid hr
  obtain ⟨dn, hdn⟩ : ∃ dn, dn = dueN r now := ⟨_, rfl⟩
  rw [← hdn] at hdl hds ⊢
  have hTH := Lib.hid hT
  have hst : Hid (∀ w2, Only [] w w2 → Dw w (w2.alloc (.cells #[.string (el r 0).1, .int .i64 (el r 0).2] 44)) p w2.heap.size 0 O O (.slice none 0 0) h r) := Lib.hid (fun w2 h2 => by
    have h3 := h2.alloc (.cells #[.string (el r 0).1, .int .i64 (el r 0).2] 44)
    have hsz := h2.size
    exact ⟨hTH.out.keep h3 (by simp), hrr.out, rowT_nil _ _, heap_alloc_new _ _, fun hm => by have := hTH.out.lt hm; omega, by simp [Value.ownBlock], hsz, fun q hq => by simp [Value.ownBlock] at hq, h3.mono (by simp), fun q hq => Or.inl hq⟩)
  have hex : Hid (r[0]?.isSome = (r.drop 0)[0]?.isSome) := Lib.hid rfl
  clear hF hT hr hdn
  generalize hx0 : el r 0 = x0 at *
  generalize hb0 : r[0]?.isSome = ok0 at *
  clear hx0 hb0
  obtain ⟨xa, xs⟩ := x0
  simp only at hFH hst
  go_enter Try.func16, Try.ntmps16
  go_upto_region 3 with (go_at_call 19; ((with_reducible refine (hFH.out).mono ?_); rintro e w2 ⟨rfl, h2⟩; have hst2 := Lib.hid (hst.out _ h2); clear h2))
  generalize w2.alloc (.cells #[.string xa, .int .i64 xs] 44) = w3 at *
  generalize w2.heap.size = b0 at *
  clear hst hFH
  go_loopg [5, 6, 7] dn (fun g s5 s6 s7 wr => ∃ (k b : Nat) (A5 : Option Addr) (c5 : Nat) (ok : Bool) (h' : List Sc) (O' : List Nat), g = dn - k ∧ k ≤ dn ∧ s5 = .slice A5 k c5 ∧ s6 = .pointer (some ⟨b, 0, none⟩) ∧ s7 = .bool ok ∧ Hid (ok = (r.drop k)[0]?.isSome) ∧ Hid (Dw w wr p b k O O' (.slice A5 k c5) h' r))
  case atStart => exact ⟨0, b0, none, 0, ok0, h, O, by omega, by omega, rfl, rfl, rfl, hex, hst2⟩
  case round =>
    obtain ⟨k, b, A5, c5, ok, h', O', hg, hk, rfl, rfl, rfl, hok, hdw⟩ := hrel
    have hdv := hdl.out
    cases ok with
    | false =>
      have hk2 : k = dn := by
        have h1 := hok.out
        cases hq : (r.drop k)[0]? with
        | none =>
          have h2 := List.getElem?_eq_none_iff.1 hq
          rw [List.length_drop] at h2
          omega
        | some y => rw [hq] at h1; cases h1
      have hk2H := Lib.hid hk2
      clear hk2 hdv hg
      go_wp2_with fail
      go_ret
      have D := hdw.out
      exact ⟨.slice A5 k c5, rfl, h', O', D.tm, by rw [← hk2H.out]; exact D.hr, by have h9 := D.row; rw [← hk2H.out]; first | exact h9 | (rw [← List.map_take]; exact h9), D.only, D.sub, D.v1⟩
    | true =>
      obtain ⟨y, hy⟩ : ∃ y, (r.drop k)[0]? = some y := by
        have h1 := hok.out
        cases hq : (r.drop k)[0]? with
        | none => rw [hq] at h1; cases h1
        | some y => exact ⟨y, rfl⟩
      have hely : el (r.drop k) 0 = y := el_at hy
      have hyr : r[k]? = some y := by rw [List.getElem?_drop, Nat.add_zero] at hy; exact hy
      have hbx := hdw.out.box
      rw [hely] at hbx
      have d0 : wr.cell? ⟨b, 0, none⟩ = some (.string y.1) := Lib.cell_of_heap hbx 0
      have d1 : wr.cell? ⟨b, 1, none⟩ = some (.int .i64 y.2) := Lib.cell_of_heap hbx 1
      have hwl := hds.out k y hyr
      have hyH := Lib.hid hy
      have hyrH := Lib.hid hyr
      have hbxH := Lib.hid hbx
      have hgH := Lib.hid hg
      clear hdv hg hy hyr hely hbx hok
      by_cases hkd : k < dn
      · have hle : decide (y.2 ≤ now) = true := decide_eq_true (hwl.1 hkd)
        have hkdH := Lib.hid hkd
        clear hwl hkd
        obtain ⟨ya, ys⟩ := y
        simp only at d0 d1 hle
        have hal : Hid (Only [] wr (wr.alloc (.cells #[.string ya] 9))) := Lib.hid ((Only.refl [] wr).alloc _)
        go_upto_region 6 with (first
          | (at_builtin; refine wpList_append_rowT (o := ⟨some 29, _, _, _, _, _⟩) (by rfl) (.tmp 25) (.tmp 28) (by rfl) w.heap.size wr.heap.size (.slice A5 k c5) (.slice (some ⟨wr.heap.size, 0, none⟩) 1 1) ((r.take k).map Prod.fst) [ya] (by rfl) (by rfl) (hdw.out.row.same hal.out) (rowT_one wr ya (Nat.le_refl _)) (by have := hdl.out; have := hfew.out; have := hrl.out; simp; omega) (by have := hdw.out.only.size; have := hal.out.size; omega) ?_; intro v4 w4 hR4 hO4 hv4; have hR4H := Lib.hid hR4; have hO4H := Lib.hid hO4; have hv4H := Lib.hid hv4; clear hR4 hO4 hv4))
        have D := hdw.out
        have hkl : k < r.length := by have := hdl.out; have := hkdH.out; omega
        have hkt : (r.take (k + 1)).map Prod.fst = (r.take k).map Prod.fst ++ [ya] := by rw [List.take_add_one, hyrH.out]; simp
        have hlen4 : ((r.take (k + 1)).map Prod.fst).length = k + 1 := by rw [List.length_map, List.length_take]; omega
        have hR5 : RowT w4 w.heap.size v4 ((r.take (k + 1)).map Prod.fst) := by rw [hkt]; exact hR4H.out
        obtain ⟨A4, c4, hve4⟩ := hR5.len
        rw [hlen4] at hve4
        subst hve4
        have hR5H := Lib.hid hR5
        have hT4 := (D.tm.keep hal.out (by simp)).keep hO4H.out (fun q hq hm => D.v1 q (by simpa using hm) hq)
        have hbx4 := Lib.hid (hO4H.out.keep (hal.out.keep hbxH.out (by simp)) (fun hm => D.b2 (by simpa using hm)))
        have ho4 : Hid (Only O w w4) := Lib.hid ((only_nil D.only hal.out).trans hO4H.out (fun x hx => Or.inr ((D.row.lt x (by simpa using hx)).1)))
        have hv4n : Hid (∀ q, (Value.slice A4 (k + 1) c4).ownBlock = some q → q ∉ O' ∧ q ≠ b ∧ q < w4.heap.size) := Lib.hid (fun q hq => by
          have hlt := (hR5.lt q hq).2
          rcases hv4H.out with e | e
          · rw [e] at hq
            exact ⟨D.v1 q hq, fun e2 => D.b2 (by rw [hq, e2]), hlt⟩
          · rw [e] at hq
            have hq' : q = (wr.alloc (.cells #[.string ya] 9)).heap.size := by injection hq with hq; exact hq.symm
            have h1 := hal.out.size
            have h2 := some_lt hbxH.out
            exact ⟨fun hm => by have := D.tm.lt hm; omega, fun e2 => by omega, hlt⟩)
        have hdrop := drop_there hT4 D.hr ya (t := ys) ((atK_iff D.hr.uniq).2 (List.mem_of_getElem? hyH.out))
        have hdk : dropK (r.drop k) ya = r.drop (k + 1) := by
          have := dropK_first D.hr.uniq hyH.out
          rw [this, List.drop_drop]
        rw [hdk] at hdrop
        have hdropH := Lib.hid hdrop
        have hbO : Hid (b ∉ O') := Lib.hid D.b1
        have hsub := Lib.hid D.sub
        have e0 : w4.cell? ⟨b, 0, none⟩ = some (.string ya) := Lib.cell_of_heap hbx4.out 0
        clear D hT4 hdrop hdk hkt hlen4 hkl hR5 d0 d1 hdw
        go_upto_region 7 with (first
          | (go_at_call 12; ((with_reducible refine (hdropH.out).mono ?_); rintro e w5 ⟨rfl, h5, ⟨O5, t5, o5, s5⟩, hr5⟩; have t5H := Lib.hid t5; have o5H := Lib.hid o5; have s5H := Lib.hid s5; have hr5H := Lib.hid hr5; clear t5 o5 s5 hr5)))
        have hbx5 := o5H.out.keep hbx4.out hbO.out
        have g0 : w5.cell? ⟨b, 0, none⟩ = some (.string ya) := Lib.cell_of_heap hbx5 0
        have g1 : w5.cell? ⟨b, 1, none⟩ = some (.int .i64 ys) := Lib.cell_of_heap hbx5 1
        have ho6 : Only [] w5 (w5.alloc (.cells #[.string ya, .int .i64 ys] 44)) := (Only.refl [] w5).alloc _
        have hb6 := heap_alloc_new w5 (.cells #[.string ya, .int .i64 ys] 44)
        clear e0 hbx5
        go_upto_region 4 with (fail)
        have hb6e : Hid (∀ q, q = w5.heap.size → q = w5.heap.size) := Lib.hid (fun _ e => e)
        have hbe := Lib.hid (hb6e.out _ rfl)
        clear hb6e
        generalize w5.alloc (.cells #[.string ya, .int .i64 ys] 44) = w6 at *
        have hb6i : ∃ b6, b6 = w5.heap.size := ⟨_, rfl⟩
        obtain ⟨b6, hb6v⟩ := hb6i
        rw [← hb6v] at hb6 ⊢
        have hb6H := Lib.hid hb6v
        clear hb6v g0 g1 hbe
        have hF6 := first_any (t5H.out.keep ho6 (by simp)) hr5H.out
        rw [firstV_form] at hF6
        obtain ⟨z, hz⟩ : ∃ z, z = el (r.drop (k + 1)) 0 := ⟨_, rfl⟩
        obtain ⟨ok2, hok2⟩ : ∃ ok2, ok2 = (r.drop (k + 1))[0]?.isSome := ⟨_, rfl⟩
        rw [← hz, ← hok2] at hF6
        have hzH := Lib.hid hz
        have hokH := Lib.hid hok2
        have hF6H := Lib.hid hF6
        have ho6H := Lib.hid ho6
        have hbx6 := Lib.hid hb6
        clear hz hok2 hF6 ho6 hb6
        obtain ⟨za, zs⟩ := z
        simp only at hF6H
        go_wp2_with (first
          | (go_at_call 19; ((with_reducible refine (hF6H.out).mono ?_); rintro e w7 ⟨rfl, ho7⟩; have hbx7 := ho7.keep hbx6.out (by simp); obtain ⟨i0, i1, i2, i3, i4, i5⟩ := box_facts hbx7; have i5H := Lib.hid i5; have hbx7H := Lib.hid hbx7; have ho7H := Lib.hid ho7; clear i5 hbx7 ho7)))
        go_roundg (dn - (k + 1))
        case measure => have := hkdH.out; have := hgH.out; omega
        case rel =>
          have hkn := hkdH.out
          have hb6v := hb6H.out
          have hs4 := ho4.out.size
          have hs5 := o5H.out.size
          have hO5lt := fun q (hq : q ∈ O5) => t5H.out.lt hq
          have o8 : Only [b6] w7 ((w7.setCell ⟨b6, 0, none⟩ (.string za)).setCell ⟨b6, 1, none⟩ (.int .i64 zs)) := ((Only.refl [b6] w7).set (p := ⟨b6, 0, none⟩) (Or.inl (by simp)) _).set (p := ⟨b6, 1, none⟩) (Or.inl (by simp)) _
          have hbO5 : b6 ∉ O5 := fun hm => by have := hO5lt b6 hm; omega
          have t8 := ((t5H.out.keep ho6H.out (by simp)).keep ho7H.out (by simp)).keep o8 (fun q hq hm => hbO5 (by rw [← List.mem_singleton.1 hm]; exact hq))
          have r8 : RowT ((w7.setCell ⟨b6, 0, none⟩ (.string za)).setCell ⟨b6, 1, none⟩ (.int .i64 zs)) w.heap.size (.slice A4 (k + 1) c4) ((r.take (k + 1)).map Prod.fst) :=
            (((hR5H.out.only o5H.out (fun q hq => (hv4n.out q hq).1)).same ho6H.out).same ho7H.out).only o8 (fun q hq hm => by have h1 := (hv4n.out q hq).2.2; have := List.mem_singleton.1 hm; omega)
          refine ⟨k + 1, b6, A4, c4, ok2, h5, O5, rfl, by omega, rfl, rfl, rfl, hokH, Lib.hid ⟨t8, hr5H.out, r8, ?_, hbO5, fun e => ?_, by omega, fun q hq hm => ?_, ?_, fun q hq => ?_⟩⟩
          · rw [← hzH.out]
            exact i5H.out za zs
          · have := (hv4n.out b6 e).2.2
            omega
          · have hv := hv4n.out q hq
            rcases s5H.out q hm with e | e
            · exact hv.1 e
            · omega
          · exact (only_nil (only_nil (ho4.out.trans o5H.out (fun x hx => hsub.out x hx)) ho6H.out) ho7H.out).trans o8 (fun x hx => Or.inr (by rw [List.mem_singleton.1 hx]; omega))
          · rcases s5H.out q hq with e | e
            · exact hsub.out q e
            · exact Or.inr (by omega)
      · have hle : decide (y.2 ≤ now) = false := decide_eq_false (fun e => hkd (hwl.2 e))
        have hk2 : k = dn := by omega
        have hk2H := Lib.hid hk2
        clear hwl hkd hk2
        obtain ⟨ya, ys⟩ := y
        simp only at d0 d1 hle
        go_wp2_with fail
        go_ret
        have D := hdw.out
        exact ⟨.slice A5 k c5, rfl, h', O', D.tm, by rw [← hk2H.out]; exact D.hr, by have h9 := D.row; rw [← hk2H.out]; first | exact h9 | (rw [← List.map_take]; exact h9), D.only, D.sub, D.v1⟩
end Go.Proofs.Ytbaghdfalhlhcaa
