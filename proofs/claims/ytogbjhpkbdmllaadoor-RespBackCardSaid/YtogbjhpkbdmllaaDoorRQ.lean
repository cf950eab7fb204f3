/-
  The walk of the law that what is put is taken. A premise: the library's table of powers of ten holds what its initialiser lays.
-/
import Derived.Test.YtogbjhpkbdmllaaDoorRO
namespace Go.Proofs.YtogbjhpkbdmllaaDoor
open Go.RowKit Rp Dec

theorem cut_index (a : Int) (n : Nat) (hn : 0 < n) (hN : n ≤ 40000000) : 0 ≤ wrap64 ((IntKind.u64.wrap a).tmod n) ∧ wrap64 ((IntKind.u64.wrap a).tmod n) < n := by
  have e : IntKind.u64.wrap a = a % 18446744073709551616 := by simp [IntKind.wrap, IntKind.signed, IntKind.bits]
  have h0 : 0 ≤ a % 18446744073709551616 := Int.emod_nonneg _ (by decide)
  rw [e]
  generalize a % 18446744073709551616 = u at h0
  rw [Int.tmod_eq_emod_of_nonneg h0]
  have h1 : 0 ≤ u % (n : Int) := Int.emod_nonneg _ (by omega)
  have h2 : u % (n : Int) < n := Int.emod_lt_of_pos _ (by omega)
  generalize u % (n : Int) = v at h1 h2
  have h3 : wrap64 v = v := by unfold wrap64; omega
  rw [h3]
  exact ⟨h1, h2⟩

theorem back_same {d : Nat} {x : Rep d} {y : Rep 9} {cs ds : Array Value} {w w2 w3 : World} {o : Obj} (hB3 : Below w.heap.size w w3) (hx : RAt w (fun _ => True) d x cs.toList) (hy : RAt w3 (fun b => w2.heap.size ≤ b) 9 y ds.toList) (hS : sameF d 9 x y = true) :
    Calls Tryd.prog 13 #[.agg cs, .agg ds] (w3.alloc o) fun e w' => e = .returned (.bool true) ∧ Below (w3.alloc o).heap.size (w3.alloc o) w' := by
  have h := rsame_any d 9 x y cs ds (w3.alloc o) (hx.on (onA hB3 o)) ((hy.on (one_box' (w := w3) (o := o))).weaken (ok' := fun _ => True) (fun _ _ _ => trivial))
  rwa [hS] at h

set_option maxRecDepth 100000 in
set_option maxHeartbeats 4000000 in
theorem back_any (d : Nat) (x : Rep d) (cs : Array Value) (t : ByteArray) (at_ : Int) (w : World) (hx : RAt w (fun _ => True) d x cs.toList) (hok : Ok d x) (ht : t.size ≤ maxLen) (hT : Tab w) :
    Calls Tryd.prog 6 #[.agg cs, .string t, .int .i64 at_] w fun e w' => e = .returned (.bool true) ∧ Below w.heap.size w w' := by
  unfold maxLen at ht
  obtain ⟨kd, nm, s, A, len, cap, rfl⟩ : ∃ kd nm b A len cap, cs = #[.int .i64 kd, .int .i64 nm, .string b, .slice A len cap] := by
    cases d with
    | zero => exact hx.elim
    | succ d => exact hx.form (by omega)
  have hTH := Lib.hid hT
  clear hT
  have hbx := one_box' (w := w) (o := .cells #[.int .i64 kd, .int .i64 nm, .string s, .slice A len cap] 24)
  have hx1 := hx.on hbx
  have hw := weight_any d x #[.int .i64 kd, .int .i64 nm, .string s, .slice A len cap] _ hx1
  have hnew := Lib.hid (heap_alloc_new w (.cells #[.int .i64 kd, .int .i64 nm, .string s, .slice A len cap] 24))
  have hxH := Lib.hid hx
  clear hx hx1
  by_cases hfar : 20000 < wtF d x
  · clear hok
    generalize wtF d x = v at hw hfar
    go_enter Tryd.func6, Tryd.ntmps6
    go_wp2_with (first
      | (go_at_call 8; ((with_reducible refine hw.mono ?_); rintro e w1 ⟨rfl, hb1⟩; have hB1 := after_box hb1))
      | (go_at_call 9; ((with_reducible refine (alive_any _ (Lib.hid (hTH.out.on hB1))).mono ?_); rintro e w3 ⟨rfl, hb3⟩)))
    go_ret
    exact ⟨rfl, onB hB1 hb3⟩
  obtain ⟨hlen, hcalm⟩ := light hok (by omega)
  have hwv : wtF d x ≤ 20000 := by omega
  have hwv2 : Hid (wtF d x ≤ 20000) := Lib.hid hwv
  generalize wtF d x = v at hw hfar hwv
  clear hfar
  by_cases htl : 1000 < t.size
  · go_enter Tryd.func6, Tryd.ntmps6
    go_wp2_with (first
      | (go_at_call 8; ((with_reducible refine hw.mono ?_); rintro e w1 ⟨rfl, hb1⟩; have hB1 := after_box hb1))
      | (go_at_call 9; ((with_reducible refine (alive_any _ (Lib.hid (hTH.out.on hB1))).mono ?_); rintro e w3 ⟨rfl, hb3⟩)))
    go_ret
    exact ⟨rfl, onB hB1 hb3⟩
  have hP : Hid (∀ w', Below w.heap.size w w' → Calls Tryd.prog 10 #[.agg #[.int .i64 kd, .int .i64 nm, .string s, .slice A len cap]] w' fun e w'' => e = .returned (.tuple #[.string (putS (putF d 0 x)), .int .i64 (putF d 0 x).2]) ∧ Below w'.heap.size w' w'') := Lib.hid fun w' hb =>
    Put_any d x #[.int .i64 kd, .int .i64 nm, .string s, .slice A len cap] w' (hTH.out.on hb) (hxH.out.on hb) hcalm (by omega)
  by_cases hz : (putF d 0 x).2 = 0
  case neg =>
    have hS : putS (putF d 0 x) = ⟨#[]⟩ := by unfold putS; rw [if_neg hz]
    have hz' : ((putF d 0 x).2 != 0) = true := by simpa using hz
    rw [hS] at hP
    generalize (putF d 0 x).2 = ev at hP hz'
    clear hz hS hlen hcalm hok
    go_enter Tryd.func6, Tryd.ntmps6
    go_wp2_with (first
      | (go_at_call 8; ((with_reducible refine hw.mono ?_); rintro e w1 ⟨rfl, hb1⟩; have hB1 := after_box hb1; have hx2 := (hb1.block w.heap.size (by simp)).trans hnew.out; obtain ⟨c0, c1, c2, c3⟩ := cellsB hx2))
      | (go_at_call 10; ((with_reducible refine (hP.out _ hB1).mono ?_); rintro e w2 ⟨rfl, hb2⟩; have hB2 := onB hB1 hb2))
      | (go_at_call 9; ((with_reducible refine (alive_any _ (Lib.hid (hTH.out.on hB2))).mono ?_); rintro e w3 ⟨rfl, hb3⟩)))
    go_ret
    exact ⟨rfl, onB hB2 hb3⟩
  -- what was put
  obtain ⟨y, hy, hsame⟩ := putF_takes d 0 8 x rfl hok hz t.data.toList
  have hcut := takeF_cuts 9
  obtain ⟨p, hp⟩ : ∃ p : ByteArray, putS (putF d 0 x) = p := ⟨_, rfl⟩
  have hpd : p.data.toList = (putF d 0 x).1 := by rw [← hp]; unfold putS; rw [if_pos hz]
  have hps : p.size = (putF d 0 x).1.length := by rw [← hpd]; simp
  rw [hp, hz] at hP
  rw [← hpd] at hy
  have hpl : p.data.toList.length = p.size := by simp
  rw [hpl] at hy
  have hpz : p.size ≤ 40000000 := by omega
  have hp0 : 0 < p.size := by
    rcases Nat.eq_zero_or_pos p.size with h0 | h0
    · exfalso
      have hnil : p.data.toList = [] := List.eq_nil_of_length_eq_zero (by rw [hpl]; exact h0)
      have h2 := (hcut [] t.data.toList y p.size (by rw [List.nil_append]; rw [hnil, List.nil_append] at hy; exact hy)).2 (by omega)
      cases h2
    · exact h0
  have hpt : (p ++ t).data.toList = p.data.toList ++ t.data.toList := append_data p t
  have hTk : Hid (∀ w, Calls Tryd.prog 14 #[.string (p ++ t)] w (TakeEnd 9 (.inr (y, p.size)) w)) := Lib.hid fun w => by
    have := Take_any (p ++ t) w (by simp; omega)
    rwa [hpt, hy] at this
  have hCut : Hid (∀ (k : Nat) w, k < p.size → Calls Tryd.prog 14 #[.string (p.extract 0 k)] w (TakeEnd 9 (.inl 4) w)) := Lib.hid fun k w hk => by
    have h1 := Take_any (p.extract 0 k) w (by simp; omega)
    have h2 := (hcut (p.data.toList.take k) (p.data.toList.drop k ++ t.data.toList) y p.size (by rw [← List.append_assoc, List.take_append_drop]; exact hy)).1 (by rw [List.length_take]; omega)
    rwa [head_data, h2] at h1
  have hSm : Hid (sameF d 9 x y = true) := Lib.hid hsame
  have hne : (p.toList == []) = false := by
    rw [Lib.toList_data]
    cases hl : p.data.toList with
    | nil => rw [hl] at hpl; simp at hpl; omega
    | cons c l => rfl
  obtain ⟨hk0, hk1⟩ := cut_index at_ p.size hp0 hpz
  clear hp hz hlen hcalm hok hpd hps hy hpl hsame hcut hpt
  go_enter Tryd.func6, Tryd.ntmps6
  go_wp2_with (first
    | (go_at_call 8; ((with_reducible refine hw.mono ?_); rintro e w1 ⟨rfl, hb1⟩; have hB1 := after_box hb1; have hx2 := (hb1.block w.heap.size (by simp)).trans hnew.out; obtain ⟨c0, c1, c2, c3⟩ := cellsB hx2; have hx2H := Lib.hid hx2; clear hx2))
    | (go_at_call 10; ((with_reducible refine (hP.out _ hB1).mono ?_); rintro e w2 ⟨rfl, hb2⟩; have hB2 := onB hB1 hb2; have hx3 := (hb2.block w.heap.size (Array.getElem?_eq_some_iff.1 hx2H.out).1).trans hx2H.out; obtain ⟨e0, e1, e2, e3⟩ := cellsB hx3; have hx3H := Lib.hid hx3; clear hx3))
    | (go_at_call 14; ((with_reducible refine (hTk.out _).mono ?_); rintro e w3 he3; obtain ⟨kd3, nm3, b3, A3, len3, cap3, rfl, hb3, hr3⟩ := TakeEnd.inr he3; clear he3; have hB3 := onB hB2 hb3; have hx4 := (hb3.block w.heap.size (Array.getElem?_eq_some_iff.1 hx3H.out).1).trans hx3H.out; obtain ⟨f0, f1, f2, f3⟩ := cellsB hx4; have hx4H := Lib.hid hx4; have hlt4 := (Array.getElem?_eq_some_iff.1 hx4).1; clear hx4))
    | (go_at_call 13; ((with_reducible refine (back_same hB3 (hxH.out) hr3 hSm.out).mono ?_); rintro e w4 ⟨rfl, hb4⟩; have hB4 := onB (onA hB3 _) hb4))
    | (go_at_call 14; ((with_reducible refine (hCut.out _ _ (by omega)).mono ?_); rintro e w5 ⟨hb5, rfl⟩; have hB5 := onA (onB hB4 hb5) (.cells #[.int .i64 0, .int .i64 0, .string ⟨#[]⟩, .slice none 0 0] 24)))
    | (go_at_call 9; ((with_reducible refine (alive_any _ (Lib.hid (hTH.out.on hB5))).mono ?_); rintro e w6 ⟨rfl, hb6⟩)))
  go_ret
  exact ⟨rfl, onB hB5 hb6⟩

end Go.Proofs.YtogbjhpkbdmllaaDoor
