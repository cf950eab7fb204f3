/-
  The walks of what picks the texts that match, and of what compares two rows of texts. A premise: texts no longer than 65536 bytes, rows no longer than 65536.
-/
import Derived.Test.YtadihlmpkckakaaDoorWalksO
namespace Go.Proofs.YtadihlmpkckakaaDoor
open Go.RowKit Gl

/-- A row of texts that is read, below a block. -/
def SB (w : World) (B : Nat) (A : Option Addr) (ss : List ByteArray) : Prop := ∀ i x, ss[i]? = some x → ∃ a, A = some a ∧ a.block < B ∧ w.cell? (a.add i) = some (.string x)
theorem block_add (a : Addr) (n : Nat) : (a.add n).block = a.block := by unfold Addr.add; split <;> rfl
theorem SB.below {w w' : World} {B : Nat} {A : Option Addr} {ss : List ByteArray} (h : SB w B A ss) (hb : Below B w w') : SB w' B A ss := by
  intro i x hx
  obtain ⟨a, h1, h2, h3⟩ := h i x hx
  exact ⟨a, h1, h2, (hb.cell (p := a.add i) (by rw [block_add]; exact h2)).trans h3⟩
theorem SB.mono {w : World} {B B' : Nat} {A : Option Addr} {ss : List ByteArray} (h : SB w B A ss) (hB : B ≤ B') : SB w B' A ss := by
  intro i x hx
  obtain ⟨a, h1, h2, h3⟩ := h i x hx
  exact ⟨a, h1, Nat.lt_of_lt_of_le h2 hB, h3⟩
theorem SB.sr {w : World} {B : Nat} {A : Option Addr} {ss : List ByteArray} (h : SB w B A ss) : SR w A ss := by
  intro i x hx
  obtain ⟨a, h1, _, h3⟩ := h i x hx
  exact ⟨a, h1, h3⟩
/-- The texts that match. -/
def pick (P : ByteArray) (ss : List ByteArray) : List ByteArray := ss.filter fun s => mt (parts P.data.toList) s.data.toList
def strV (ss : List ByteArray) : List Value := ss.map Value.string
theorem take_row {ss : List ByteArray} {k : Nat} {x : ByteArray} (h : ss[k]? = some x) : ss.take (k + 1) = ss.take k ++ [x] := by
  obtain ⟨hk, rfl⟩ := List.getElem?_eq_some_iff.1 h
  exact List.take_succ_eq_append_getElem hk
theorem pick_yes {P : ByteArray} {ss : List ByteArray} {k : Nat} {x : ByteArray} (h : ss[k]? = some x) (hm : mt (parts P.data.toList) x.data.toList = true) : pick P (ss.take (k + 1)) = pick P (ss.take k) ++ [x] := by
  unfold pick
  rw [take_row h, List.filter_append]
  simp [hm]
theorem pick_no {P : ByteArray} {ss : List ByteArray} {k : Nat} {x : ByteArray} (h : ss[k]? = some x) (hm : mt (parts P.data.toList) x.data.toList = false) : pick P (ss.take (k + 1)) = pick P (ss.take k) := by
  unfold pick
  rw [take_row h, List.filter_append]
  simp [hm]
theorem pick_len (P : ByteArray) (ss : List ByteArray) (k : Nat) : (pick P (ss.take k)).length ≤ ss.length := by
  have h1 := List.length_filter_le (fun s : ByteArray => mt (parts P.data.toList) s.data.toList) (ss.take k)
  have h2 : (ss.take k).length ≤ ss.length := by rw [List.length_take]; omega
  unfold pick
  omega
theorem str_info : (Tryd.prog.info? 9).map (fun i => (i.zero, i.size, i.bytes)) = some (some (.string ⟨#[]⟩), 1, 16) := by kernel_rfl
/-- Where a picking stands. -/
structure Picks (w0 : World) (P : ByteArray) (A : Option Addr) (ss : List ByteArray) (k : Nat) (v : Value) (W : World) : Prop where
  own : W.ownsRow w0.heap.size 9 1 v (pick P (ss.take k)).length (strV (pick P (ss.take k)))
  row : SB W w0.heap.size A ss
  bel : Below w0.heap.size w0 W
theorem Picks.move {w0 W W' : World} {P : ByteArray} {A : Option Addr} {ss : List ByteArray} {k : Nat} {v : Value} (h : Picks w0 P A ss k v W) (hb : Below W.heap.size W W') : Picks w0 P A ss k v W' := by
  refine ⟨?_, h.row.below (hb.mono h.bel.size), h.bel.trans (hb.mono h.bel.size)⟩
  cases hv : v.ownBlock with
  | none => exact h.own.kept (row := none) (grown_below hb _) (Or.inl hv)
  | some g =>
    rcases h.own.2 with ⟨rfl, _⟩ | ⟨g', cap, cur, rfl, h1, h2, h3⟩
    · cases hv
    · have hlt := heap_lt h2
      exact ⟨h.own.1, Or.inr ⟨g', cap, cur, rfl, h1, (hb.block g' hlt).trans h2, h3⟩⟩
theorem Picks.same {w0 W : World} {P : ByteArray} {A : Option Addr} {ss : List ByteArray} {k : Nat} {v : Value} {x : ByteArray} (h : Picks w0 P A ss k v W) (hx : ss[k]? = some x) (hm : mt (parts P.data.toList) x.data.toList = false) : Picks w0 P A ss (k + 1) v W := by
  refine ⟨?_, h.row, h.bel⟩
  rw [pick_no hx hm]
  exact h.own
theorem Picks.next {w0 W w2 : World} {P : ByteArray} {A : Option Addr} {ss : List ByteArray} {k : Nat} {v v' : Value} {x : ByteArray} {o : Obj} (h : Picks w0 P A ss k v W) (hx : ss[k]? = some x) (hm : mt (parts P.data.toList) x.data.toList = true)
    (hown : w2.ownsRow w0.heap.size 9 1 v' ((pick P (ss.take k)).length + 1) (strV (pick P (ss.take k)) ++ [.string x])) (hg : (W.alloc o).grownBy w2 v.ownBlock) : Picks w0 P A ss (k + 1) v' w2 := by
  have hbel : Below w0.heap.size w0 w2 := (h.bel.alloc h.bel.size o).grown hg (by simp; have := h.bel.size; omega) fun k hk => (h.own.lt k hk).1
  have hb2 : Below w0.heap.size W w2 := ((Below.refl _ _).alloc h.bel.size o).grown hg (by simp; have := h.bel.size; omega) fun k hk => (h.own.lt k hk).1
  refine ⟨?_, h.row.below hb2, hbel⟩
  rw [pick_yes hx hm]
  have e : strV (pick P (ss.take k) ++ [x]) = strV (pick P (ss.take k)) ++ [.string x] := by simp [strV]
  rw [e]
  simpa using hown
theorem one_str (x : ByteArray) : ∀ u ∈ [Value.string x], u.oneCell' = true := by intro u hu; simp at hu; subst hu; rfl
def AllEnd (P : ByteArray) (ss : List ByteArray) (w : World) (e : Ending) (w' : World) : Prop := ∃ v, e = .returned v ∧ w'.ownsRow w.heap.size 9 1 v (pick P ss).length (strV (pick P ss)) ∧ Below w.heap.size w w'
theorem Picks.done {w0 W : World} {P : ByteArray} {A : Option Addr} {ss : List ByteArray} {k : Nat} {v : Value} (h : Picks w0 P A ss k v W) (hk : ss.length ≤ k) : AllEnd P ss w0 (.returned v) W := by
  have h1 := h.own
  rw [List.take_of_length_le hk] at h1
  exact ⟨v, rfl, h1, h.bel⟩

set_option maxHeartbeats 2000000 in
theorem all_any (P : ByteArray) (A : Option Addr) (c : Nat) (ss : List ByteArray) (w : World) (hp : P.size ≤ 65536) (hl : ss.length ≤ 65536) (hs : Hid (∀ x ∈ ss, x.size ≤ 65536)) (hr : SB w w.heap.size A ss) :
    Calls Tryd.prog 16 #[.string P, .slice A ss.length c] w (AllEnd P ss w) := by
  obtain ⟨i0, hi, hz0, hz1, hz2⟩ := info_parts str_info
  go_enter Tryd.func16, Tryd.ntmps16
  go_wp2_with fail
  go_loopw [5, 10] (fun v i wr => ∃ k : Nat, k ≤ ss.length ∧ i = .int .i64 k ∧ Picks w P A ss k v wr) (fun _ i _ => ss.length - (intOf i).toNat)
  case atStart => exact ⟨0, by omega, rfl, World.ownsRow_nil _ _ _ _, hr, Below.refl _ _⟩
  case round =>
    clear hr
    obtain ⟨k, hk, rfl, hP⟩ := hrel
    by_cases hlt : k < ss.length
    · obtain ⟨x, hx⟩ : ∃ x, ss[k]? = some x := ⟨_, List.getElem?_eq_getElem hlt⟩
      obtain ⟨a, rfl, _, hc⟩ := hP.row k x hx
      have hxs := hs.out x (List.mem_of_getElem? hx)
      have hxH := Lib.hid hx
      have hpl := pick_len P ss k
      clear hx
      cases hm : mt (parts P.data.toList) x.data.toList with
      | true =>
        have hmH := Lib.hid hm
        clear hm
        have hbz := hP.bel.size
        go_wp2_with (first
          | (go_at_call 9; (with_reducible refine (match_any P x _ hp hxs true hmH).mono ?_); rintro e w1 ⟨rfl, n, rfl⟩; have hP2 := hP.move (below_drewN (Below.refl _ _) n))
          | (at_builtin; refine wpList_append_own _ rfl (.tmp 17) (.tmp 19) 25 rfl w.heap.size 9 i0 (.string ⟨#[]⟩) 1 16 Tryd.underlying25 hi hz0 hz1 hz2 rfl (by decide) u5 (pick P (ss.take k)).length (strV (pick P (ss.take k))) rfl (hP2.own.alloc _) ⟨wr.heap.size, 0, none⟩ 1 1 [.string x] rfl rfl (one_cell (wr.drewN n) (.string x)) (one_str x) (by unfold maxLen; omega) (by omega) (by simp; omega) ?_))
        intro v' w2 hown' hgrow _
        have hP3 := hP2.next hxH.out hmH.out hown' hgrow
        clear hown' hgrow
        go_wp2_with fail
        go_roundw
        case rel => exact ⟨k + 1, by omega, by go_num, hP3⟩
        case measure => simp [intOf]; omega
      | false =>
        have hmH := Lib.hid hm
        have hN := (hP.same hxH.out hm)
        clear hm
        go_wp2_with (go_at_call 9; (with_reducible refine (match_any P x _ hp hxs false hmH).mono ?_); rintro e w1 ⟨rfl, n, rfl⟩)
        go_roundw
        case rel => exact ⟨k + 1, by omega, by go_num, hN.move (below_drewN (Below.refl _ _) _)⟩
        case measure => simp [intOf]; omega
    · have hD := Lib.hid (hP.done (by omega))
      go_wp2_with fail
      go_ret
      exact hD.out

set_option maxHeartbeats 2000000 in
theorem rall_any (P : ByteArray) (A : Option Addr) (c : Nat) (ss : List ByteArray) (w : World) (hp : P.size ≤ 65536) (hl : ss.length ≤ 65536) (hs : Hid (∀ x ∈ ss, x.size ≤ 65536)) (hr : SB w w.heap.size A ss) :
    Calls Tryd.prog 17 #[.string P, .slice A ss.length c] w (AllEnd P ss w) := by
  obtain ⟨i0, hi, hz0, hz1, hz2⟩ := info_parts str_info
  go_enter Tryd.func17, Tryd.ntmps17
  go_wp2_with fail
  go_loopw [5, 6] (fun v i wr => ∃ k : Nat, k ≤ ss.length ∧ i = .int .i64 k ∧ Picks w P A ss k v wr) (fun _ i _ => ss.length - (intOf i).toNat)
  case atStart => exact ⟨0, by omega, rfl, World.ownsRow_nil _ _ _ _, hr, Below.refl _ _⟩
  case round =>
    clear hr
    obtain ⟨k, hk, rfl, hP⟩ := hrel
    by_cases hlt : k < ss.length
    · obtain ⟨x, hx⟩ : ∃ x, ss[k]? = some x := ⟨_, List.getElem?_eq_getElem hlt⟩
      obtain ⟨a, rfl, hab, hc⟩ := hP.row k x hx
      have hxs := hs.out x (List.mem_of_getElem? hx)
      have hxH := Lib.hid hx
      have hpl := pick_len P ss k
      have hbz := hP.bel.size
      clear hx
      obtain ⟨M, hM⟩ : ∃ M : Bool, Hid (mt (parts P.data.toList) x.data.toList = M) := ⟨_, Lib.hid rfl⟩
      cases M with
      | true =>
        go_wp2_with (first
          | (go_at_call 10; (with_reducible refine (rmatch_any P x _ hp hxs true hM).mono ?_); rintro e w1 ⟨rfl, hb1⟩; have hP2 := hP.move hb1; have hc2 := (hb1.cell (p := a.add k) (by rw [block_add]; exact Nat.lt_of_lt_of_le hab hbz)).trans hc; have hbz2 := hP2.bel.size)
          | (at_builtin; refine wpList_append_own _ rfl (.tmp 19) (.tmp 24) 25 rfl w.heap.size 9 i0 (.string ⟨#[]⟩) 1 16 Tryd.underlying25 hi hz0 hz1 hz2 rfl (by decide) u5 (pick P (ss.take k)).length (strV (pick P (ss.take k))) rfl (hP2.own.alloc _) ⟨w1.heap.size, 0, none⟩ 1 1 [.string x] rfl rfl (one_cell w1 (.string x)) (one_str x) (by unfold maxLen; omega) (by omega) (by simp; omega) ?_))
        intro v' w2 hown' hgrow _
        have hP3 := hP2.next hxH.out hM.out hown' hgrow
        clear hown' hgrow
        go_wp2_with fail
        go_roundw
        case rel => exact ⟨k + 1, by omega, by go_num, hP3⟩
        case measure => simp [intOf]; omega
      | false =>
        go_wp2_with (go_at_call 10; (with_reducible refine (rmatch_any P x _ hp hxs false hM).mono ?_); rintro e w1 ⟨rfl, hb1⟩; have hP2 := (hP.move hb1).same hxH.out hM.out)
        go_roundw
        case rel => exact ⟨k + 1, by omega, by go_num, hP2⟩
        case measure => simp [intOf]; omega
    · have hD := Lib.hid (hP.done (by omega))
      go_wp2_with fail
      go_ret
      exact hD.out

/-- A row of texts that is the call's own, as what is read. -/
theorem sb_own {w : World} {B n cap : Nat} {A : Option Addr} {ss : List ByteArray} (h : w.ownsRow B 9 1 (.slice A n cap) n (strV ss)) : SB w w.heap.size A ss := by
  intro i x hx
  rcases h.2 with ⟨h1, h0⟩ | ⟨g, cap', cur, h1, _, h3, _, _, _, h5⟩
  · have hl := h.1
    rw [h0] at hl
    have : ss = [] := List.eq_nil_of_length_eq_zero (by simpa [strV] using hl)
    rw [this] at hx
    cases hx
  · simp only [Value.slice.injEq] at h1
    obtain ⟨rfl, _, _⟩ := h1
    refine ⟨_, rfl, heap_lt h3, ?_⟩
    have h6 := h.cells (g := g) rfl i (.string x) (by simp [strV, hx])
    exact h6
theorem slice_own {w : World} {B n : Nat} {v : Value} {xs : List Value} (h : w.ownsRow B 9 1 v n xs) : ∃ A cap, v = .slice A n cap := by
  rcases h.2 with ⟨rfl, rfl⟩ | ⟨g, cap, cur, rfl, _⟩
  · exact ⟨none, 0, rfl⟩
  · exact ⟨_, cap, rfl⟩

set_option maxHeartbeats 1000000 in
theorem same_any (A A' : Option Addr) (c c' : Nat) (ss : List ByteArray) (w : World) (hl : ss.length ≤ 65536) (h1 : SR w A ss) (h2 : SR w A' ss) :
    Calls Tryd.prog 15 #[.slice A ss.length c, .slice A' ss.length c'] w fun e w' => e = .returned (.bool true) ∧ ∃ n, w' = w.drewN n := by
  have h1H := Lib.hid h1
  have h2H := Lib.hid h2
  clear h1 h2
  go_enter Tryd.func15, Tryd.ntmps15
  go_wp2_with fail
  go_loopw [5] (fun i wr => ∃ k : Nat, k ≤ ss.length ∧ i = .int .i64 k ∧ Hid (∃ m, wr = w.drewN m)) (fun i _ => ss.length - (intOf i).toNat)
  case atStart => exact ⟨0, by omega, rfl, Lib.hid ⟨0, rfl⟩⟩
  case round =>
    obtain ⟨k, hk, rfl, hW⟩ := hrel
    by_cases hlt : k < ss.length
    · obtain ⟨x, hx⟩ : ∃ x, ss[k]? = some x := ⟨_, List.getElem?_eq_getElem hlt⟩
      obtain ⟨a, rfl, hc⟩ := h1H.out k x hx
      obtain ⟨a', rfl, hc'⟩ := h2H.out k x hx
      clear hx
      obtain ⟨m, hm⟩ := hW.out
      have hcw : wr.cell? (a.add k) = some (.string x) := by rw [hm]; exact hc
      have hcw' : wr.cell? (a'.add k) = some (.string x) := by rw [hm]; exact hc'
      clear hc hc' hm
      go_wp2_with fail
      go_quiet (fail)
      go_wp2_with fail
      go_roundw
      case rel => exact ⟨k + 1, by omega, by go_num, drew_on hW _⟩
      case measure => simp [intOf]; omega
    · go_wp2_with fail
      go_ret
      exact ⟨rfl, hW.out⟩

end Go.Proofs.YtadihlmpkckakaaDoor
