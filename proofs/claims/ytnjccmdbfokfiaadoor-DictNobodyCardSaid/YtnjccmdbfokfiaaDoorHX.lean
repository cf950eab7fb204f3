/-
  The walk of the law of what was put. The table of factors holds what the program's text lays; a length.
-/
import Derived.Test.YtnjccmdbfokfiaaDoorHW
import Derived.Deep.RegionHeld3
import Derived.Deep.CutRange
import Derived.Deep.CutBlock
namespace Go.Proofs.YtnjccmdbfokfiaaDoor
open Go.RowKit

theorem farO_false {l : List Op3} (h : farO l = false) : l.length ≤ 300 ∧ ∀ x ∈ l, x.2.1.size ≤ 200 := by
  unfold farO at h
  rw [Bool.or_eq_false_iff, List.any_eq_false] at h
  obtain ⟨h1, h2⟩ := h
  refine ⟨by simp at h2; omega, fun x hx => ?_⟩
  have := h1 x hx
  simp at this; omega
theorem fac_below {B : Nat} {w w' : World} (h : Fac w) (hz : 0 < B) (hb : Below B w w') : Fac w' := ⟨(hb.cell (p := ⟨0, 0, none⟩) hz).trans h.1, (hb.cell (p := ⟨0, 1, none⟩) hz).trans h.2⟩
theorem onB {B : Nat} {a b c : World} (h : Below B a b) (k : Below b.heap.size b c) (hB : B ≤ b.heap.size) : Below B a c := h.trans (k.mono hB)

/-- The row of a table's keys. -/
def KeysAt (w : World) (A : Option Addr) (L : List En) : Prop := ∀ j e, L[j]? = some e → ∃ g, A = some ⟨g, 0, none⟩ ∧ g < w.heap.size ∧ w.cell? ⟨g, j, none⟩ = some (.string e.2.1)
theorem keys_at {B : Nat} {X : Tb} {w : World} (h : Ok B X w) :
    Calls Tryd.prog 13 #[.pointer (some ⟨X.T, 0, none⟩)] w fun r w' => ∃ (A : Option Addr) (c : Nat), r = .returned (.slice A X.ents.length c) ∧ KeysAt w' A X.ents ∧ Below w.heap.size w w' := by
  refine (keys_any h).mono ?_
  rintro r w' ⟨v, rfl, how, hb⟩
  have how2 := how
  obtain ⟨h1, h2 | ⟨g, cap, cur, h2, h3, h4, h5, h6, h7, h8⟩⟩ := how2
  · obtain ⟨rfl, h3⟩ := h2
    have hl : X.ents = [] := List.length_eq_zero_iff.1 h3
    exact ⟨none, 0, by rw [h3], by rw [hl]; exact (fun j e hj => by simp at hj), hb⟩
  · subst h2
    refine ⟨some ⟨g, 0, none⟩, cap, rfl, ?_, hb⟩
    intro j e hj
    have hlt : j < X.ents.length := (List.getElem?_eq_some_iff.1 hj).1
    refine ⟨g, rfl, some_lt h4, ?_⟩
    rw [how.cellAt j (by omega)]
    simp [keyV, hj]
/-- How often a key stands in a row. -/
def cnt (key : ByteArray) (L : List En) : Nat := L.countP fun e => e.2.1.toList == key.toList
theorem cnt_le (key : ByteArray) (L : List En) : cnt key L ≤ L.length := List.countP_le_length
theorem cnt_snoc (key : ByteArray) (L : List En) (e : En) : cnt key (L ++ [e]) = cnt key L + (if (e.2.1.toList == key.toList) = true then 1 else 0) := by
  unfold cnt; rw [List.countP_append]; simp [List.countP_cons]
theorem cnt_has {X : Tb} (hi : Inv X) {key : ByteArray} {has : Bool} {want : Int} (hv : View X key (if has = true then some want else none)) : cnt key X.ents = if has = true then 1 else 0 := by
  have hgen : ∀ L : List En, (L.map fun e => e.2.1).Nodup → cnt key L ≤ 1 := by
    intro L
    induction L with
    | nil => intro _; simp [cnt]
    | cons e L ih =>
      intro hn
      rw [List.map_cons, List.nodup_cons] at hn
      unfold cnt at ih ⊢
      rw [List.countP_cons]
      split
      · next he =>
        have hk := bytes_eq he
        have h0 : List.countP (fun e => e.2.1.toList == key.toList) L = 0 := by
          rw [List.countP_eq_zero]
          intro x hx hxk
          have := bytes_eq hxk
          exact hn.1 (by rw [hk, ← this]; exact List.mem_map_of_mem (f := fun e : En => e.2.1) hx)
        omega
      · have := ih hn.2; omega
  have h1 := hgen X.ents hi.nd
  cases has with
  | true =>
    obtain ⟨b, hb⟩ := hv
    have h2 : 0 < cnt key X.ents := by unfold cnt; rw [List.countP_pos_iff]; exact ⟨_, hb, by simp⟩
    simp; omega
  | false =>
    have h2 : cnt key X.ents = 0 := by
      unfold cnt; rw [List.countP_eq_zero]
      intro x hx hxk
      exact hv x hx (bytes_eq hxk)
    simp [h2]

set_option warningAsError false in
set_option maxRecDepth 100000 in
set_option maxHeartbeats 8000000 in
theorem keeps_any (seed : Int) (A : Option Addr) (c : Nat) (l : List Op3) (key : ByteArray) (w : World) (hU : U seed) (hr : OpsAt w w.heap.size A l) (hrg : ∀ x ∈ l, -9223372036854775808 ≤ x.2.2 ∧ x.2.2 ≤ 9223372036854775807) (hl : l.length ≤ 140737488355328) (hF : Fac w) (hz : 0 < w.heap.size) :
    Calls Tryd.prog 3 #[.int .u64 seed, .slice A l.length c, .string key] w fun e w' => e = .returned (.bool true) ∧ Below w.heap.size w w' := by
  have hfar := Lib.hid (far_any A c l w hr hl)
  have hrH := Lib.hid hr
  have hrgH := Lib.hid hrg
  have hFH := Lib.hid hF
  have hzH := Lib.hid hz
  have hUH := Lib.hid hU
  clear hr hF hrg
  by_cases hno : farO l = false ∧ key.size ≤ 200
  · obtain ⟨h1, h2⟩ := hno
    obtain ⟨hll, hks⟩ := farO_false h1
    rw [h1] at hfar
    have hksH := Lib.hid hks
    have hkey := Lib.hid h2
    have hd2 : decide (200 < key.size) = false := by simp; omega
    clear h1 hks
    go_enter Tryd.func3, Tryd.ntmps3
    go_upto_region 5 with (first
      | (go_at_call 6; ((with_reducible refine (hfar.out).mono ?_); rintro r w1 ⟨rfl, hb1⟩))
      | (go_at_call 8; ((with_reducible refine (new_any seed _).mono ?_); rintro r w2 ⟨rfl, hw2⟩)))
    have hb1H := Lib.hid hb1
    have hb2 := hb1.alloc hb1.size (newX w1.heap.size seed).head
    have ht2 := heap_alloc_new w1 (newX w1.heap.size seed).head
    have hok := new_ok (B := w.heap.size) w1.heap.size seed hU (fac_below hFH.out hz hb2) hz hb1.size ht2
    have hokH := Lib.hid hok
    have hb2H := Lib.hid hb2
    clear hok ht2 hb2 hb1 hw2
    generalize w1.alloc (newX w1.heap.size seed).head = w3 at *
    generalize w1.heap.size = T at *
    go_wp2_with fail
    go_loopw [8, 9, 29] (fun s8 s9 s29 wr => ∃ (k : Nat) (X : Tb) (has : Bool) (want : Int), k ≤ l.length ∧ s29 = .int .i64 k ∧ s8 = .bool has ∧ s9 = .int .i64 want ∧ Hid (View X key (if has = true then some want else none)) ∧ Hid (has = false → want = 0) ∧ Hid (Ok w.heap.size X wr) ∧ Hid (X.T = T) ∧ Hid (X.count ≤ k) ∧ Hid (Below w.heap.size w wr)) (fun _ _ s29 _ => l.length - (intOf s29).toNat)
    case atStart => exact ⟨0, _, false, 0, by omega, rfl, rfl, rfl, Lib.hid (fun e he => by simp [Tb.ents, newX] at he), Lib.hid (fun _ => rfl), hokH, Lib.hid rfl, Lib.hid (Nat.le_refl _), hb2H⟩
    case round =>
      obtain ⟨k, X, has, want, hk, rfl, rfl, rfl, hV, hW, hO, hT, hC, hB⟩ := hrel
      by_cases hlt : k < l.length
      · obtain ⟨x, hx⟩ : ∃ x, l[k]? = some x := ⟨_, List.getElem?_eq_getElem hlt⟩
        obtain ⟨a, rfl, ha, x1, x2, x3⟩ := hrH.out.on hB.out k x hx
        have hxs := Lib.hid (hksH.out x (List.mem_of_getElem? hx))
        have hxr := Lib.hid (hrgH.out x (List.mem_of_getElem? hx))
        have hltH := Lib.hid hlt
        obtain ⟨kd, ok, ov⟩ := x
        simp only at x1 x2 x3 hxs hxr
        clear hx
        go_upto_block 2 with fail
        have ho1 := heap_alloc_new wr (.cells #[.int .i64 kd, .string ok, .int .i64 ov] 29)
        have hal1 : Only [] wr (wr.alloc (.cells #[.int .i64 kd, .string ok, .int .i64 ov] 29)) := (Only.refl [] wr).alloc _
        have hbo := hB.out.alloc hB.out.size (.cells #[.int .i64 kd, .string ok, .int .i64 ov] 29)
        have hoo := hO.out.on hal1 (by simp) (by simp)
        have hgn : wr.heap.size ∉ X.blocks := fun hm => by have := hO.out.live.here.lt hm; omega
        clear x1 x2 x3 hal1 hO hB
        generalize wr.alloc (.cells #[.int .i64 kd, .string ok, .int .i64 ov] 29) = wo at *
        generalize wr.heap.size = g at *
        have q0 := Lib.cell_of_heap ho1 0
        have q1 := Lib.cell_of_heap ho1 1
        have q2 := Lib.cell_of_heap ho1 2
        have ho1H := Lib.hid ho1
        have hbo := Lib.hid hbo
        have hoo := Lib.hid hoo
        have hgn := Lib.hid hgn
        clear ho1
        go_cut [8, 9] from 34 to 88 (fun s8 s9 wx => ∃ (Y : Tb) (has' : Bool) (want' : Int), s8 = .bool has' ∧ s9 = .int .i64 want' ∧ Hid (View Y key (if has' = true then some want' else none)) ∧ Hid (has' = false → want' = 0) ∧ Hid (Ok w.heap.size Y wx) ∧ Hid (Y.T = T) ∧ Hid (Y.count ≤ k + 1) ∧ Hid (Below w.heap.size w wx))
        case first =>
          by_cases hk0 : kd = 0
          · subst hk0
            have hXd : Ok w.heap.size X wo.drew := hoo.out.on ((Only.refl [] wo).drewN 1) (by simp) (by simp)
            obtain ⟨o', ho'⟩ := view_ex X ok
            have hpt := put_any hXd ok (by have := hxs.out; omega) ov (by have := hC.out; have := hltH.out; omega)
            rw [hT.out] at hpt
            obtain ⟨nw, hnw, hptH⟩ : ∃ nw : Bool, Hid (ok = key → nw = !has) ∧ Hid (Calls Tryd.prog 9 #[.pointer (some ⟨T, 0, none⟩), .string ok, .int .i64 ov] wo.drew fun r w' => ∃ G, r = .returned (.bool nw) ∧ PutRes w.heap.size X G ok ov nw wo.drew w') := by
              refine ⟨!o'.isSome, Lib.hid (fun hk => ?_), Lib.hid (hpt.mono ?_)⟩
              · subst hk
                have := View.one hoo.out.inv ho' hV.out
                rw [this]; cases has <;> rfl
              · rintro r w' ⟨G, new, rfl, hG⟩
                have := (view_put hG ho').2.1 rfl
                subst this
                exact ⟨G, rfl, hG⟩
            clear hpt hXd ho'
            have hcases : ∃ e : Bool, (ok.toList == key.toList) = e ∧ ((e = true ∧ nw = !has) ∨ e = false) := by
              cases he : (ok.toList == key.toList) with
              | true => exact ⟨true, rfl, Or.inl ⟨rfl, hnw.out (bytes_eq he)⟩⟩
              | false => exact ⟨false, rfl, Or.inr rfl⟩
            obtain ⟨e, he, hcs⟩ := hcases
            rcases hcs with ⟨rfl, rfl⟩ | rfl
            · cases has
              · simp only [Bool.not_false] at hptH hnw
                go_upto_region 11 with fail
                first
                | go_region_held3 (fun w' => w'.cell? ⟨g, 1, none⟩ = some (.string ok) ∧ w'.cell? ⟨g, 2, none⟩ = some (.int .i64 ov))
                    (first | exact ⟨q1, q2⟩ | assumption | (refine ⟨?_, ?_⟩ <;> assumption))
                    (first
                    | (go_at_call 9; ((with_reducible refine (hptH.out).mono ?_); rintro r w4 ⟨G, rfl, hG⟩; have z1 : w4.cell? ⟨g, 1, none⟩ = some (.string ok) := (World.cell?_of_block (w := wo) (hG.only.keep (k := g) ho1H.out hgn.out |>.trans ho1H.out.symm)).trans q1; have z2 : w4.cell? ⟨g, 2, none⟩ = some (.int .i64 ov) := (World.cell?_of_block (w := wo) (hG.only.keep (k := g) ho1H.out hgn.out |>.trans ho1H.out.symm)).trans q2; have hGH := Lib.hid hG; clear hG)))
                | fail
                all_goals
                  go_wp2_with fail
                  go_region
                  all_goals go_wp2_with fail
                  all_goals go_meet
                  all_goals (case rel =>
                    have hvw := view_put hGH.out hV.out
                    rw [if_pos (bytes_eq he)] at hvw
                    exact ⟨G, true, ov, rfl, rfl, Lib.hid hvw.1, Lib.hid (fun h => by cases h), Lib.hid (hGH.out.ok.on ((Only.refl [] w4).drewN 1) (by simp) (by simp)), Lib.hid (hGH.out.same.1.trans hT.out), Lib.hid (by have := hvw.2.2; have := hC.out; omega), Lib.hid (hbo.out.drew.trans (hGH.out.only.below (by have := hbo.out.size; exact this) (fun x hx => hoo.out.live.own x hx))).drew⟩)
              · simp only [Bool.not_true] at hptH hnw
                go_upto_region 11 with fail
                first
                | go_region_held3 (fun w' => w'.cell? ⟨g, 1, none⟩ = some (.string ok) ∧ w'.cell? ⟨g, 2, none⟩ = some (.int .i64 ov))
                    (first | exact ⟨q1, q2⟩ | assumption | (refine ⟨?_, ?_⟩ <;> assumption))
                    (first
                    | (go_at_call 9; ((with_reducible refine (hptH.out).mono ?_); rintro r w4 ⟨G, rfl, hG⟩; have z1 : w4.cell? ⟨g, 1, none⟩ = some (.string ok) := (World.cell?_of_block (w := wo) (hG.only.keep (k := g) ho1H.out hgn.out |>.trans ho1H.out.symm)).trans q1; have z2 : w4.cell? ⟨g, 2, none⟩ = some (.int .i64 ov) := (World.cell?_of_block (w := wo) (hG.only.keep (k := g) ho1H.out hgn.out |>.trans ho1H.out.symm)).trans q2; have hGH := Lib.hid hG; clear hG)))
                | fail
                all_goals
                  go_wp2_with fail
                  go_region
                  all_goals go_wp2_with fail
                  all_goals go_meet
                  all_goals (case rel =>
                    have hvw := view_put hGH.out hV.out
                    rw [if_pos (bytes_eq he)] at hvw
                    exact ⟨G, true, ov, rfl, rfl, Lib.hid hvw.1, Lib.hid (fun h => by cases h), Lib.hid (hGH.out.ok.on ((Only.refl [] w4).drewN 1) (by simp) (by simp)), Lib.hid (hGH.out.same.1.trans hT.out), Lib.hid (by have := hvw.2.2; have := hC.out; omega), Lib.hid (hbo.out.drew.trans (hGH.out.only.below (by have := hbo.out.size; exact this) (fun x hx => hoo.out.live.own x hx))).drew⟩)
            · cases nw
              · go_upto_region 11 with fail
                first
                | go_region_held3 (fun w' => w'.cell? ⟨g, 1, none⟩ = some (.string ok) ∧ w'.cell? ⟨g, 2, none⟩ = some (.int .i64 ov))
                    (first | exact ⟨q1, q2⟩ | assumption | (refine ⟨?_, ?_⟩ <;> assumption))
                    (first
                    | (go_at_call 9; ((with_reducible refine (hptH.out).mono ?_); rintro r w4 ⟨G, rfl, hG⟩; have z1 : w4.cell? ⟨g, 1, none⟩ = some (.string ok) := (World.cell?_of_block (w := wo) (hG.only.keep (k := g) ho1H.out hgn.out |>.trans ho1H.out.symm)).trans q1; have z2 : w4.cell? ⟨g, 2, none⟩ = some (.int .i64 ov) := (World.cell?_of_block (w := wo) (hG.only.keep (k := g) ho1H.out hgn.out |>.trans ho1H.out.symm)).trans q2; have hGH := Lib.hid hG; clear hG)))
                | fail
                all_goals
                  go_wp2_with fail
                  all_goals go_meet
                  all_goals (case rel =>
                    have hvw := view_put hGH.out hV.out
                    rw [if_neg (bytes_ne he)] at hvw
                    exact ⟨G, has, want, rfl, rfl, Lib.hid hvw.1, hW, Lib.hid hGH.out.ok, Lib.hid (hGH.out.same.1.trans hT.out), Lib.hid (by have := hvw.2.2; have := hC.out; omega), Lib.hid (hbo.out.drew.trans (hGH.out.only.below (by have := hbo.out.size; exact this) (fun x hx => hoo.out.live.own x hx)))⟩)
              · go_upto_region 11 with fail
                first
                | go_region_held3 (fun w' => w'.cell? ⟨g, 1, none⟩ = some (.string ok) ∧ w'.cell? ⟨g, 2, none⟩ = some (.int .i64 ov))
                    (first | exact ⟨q1, q2⟩ | assumption | (refine ⟨?_, ?_⟩ <;> assumption))
                    (first
                    | (go_at_call 9; ((with_reducible refine (hptH.out).mono ?_); rintro r w4 ⟨G, rfl, hG⟩; have z1 : w4.cell? ⟨g, 1, none⟩ = some (.string ok) := (World.cell?_of_block (w := wo) (hG.only.keep (k := g) ho1H.out hgn.out |>.trans ho1H.out.symm)).trans q1; have z2 : w4.cell? ⟨g, 2, none⟩ = some (.int .i64 ov) := (World.cell?_of_block (w := wo) (hG.only.keep (k := g) ho1H.out hgn.out |>.trans ho1H.out.symm)).trans q2; have hGH := Lib.hid hG; clear hG)))
                | fail
                all_goals
                  go_wp2_with fail
                  all_goals go_meet
                  all_goals (case rel =>
                    have hvw := view_put hGH.out hV.out
                    rw [if_neg (bytes_ne he)] at hvw
                    exact ⟨G, has, want, rfl, rfl, Lib.hid hvw.1, hW, Lib.hid hGH.out.ok, Lib.hid (hGH.out.same.1.trans hT.out), Lib.hid (by have := hvw.2.2; have := hC.out; omega), Lib.hid (hbo.out.drew.trans (hGH.out.only.below (by have := hbo.out.size; exact this) (fun x hx => hoo.out.live.own x hx)))⟩)
          · have hz0 : (kd == 0) = false := by simpa using hk0
            have hz1 : decide (kd = 0) = false := by simpa using hk0
            by_cases hk1 : kd = 1
            · subst hk1
              cases he : (ok.toList == key.toList) with
              | true =>
                have hdr := drop_any hoo.out key (by have := hkey.out; omega)
                rw [hT.out] at hdr
                have hdrH := Lib.hid (hdr.mono (fun r w' hr => show ∃ G, r = .returned (.bool has) ∧ DropRes w.heap.size X G key has wo w' from by
                  obtain ⟨G, gone, rfl, hG⟩ := hr
                  have := (view_drop hG hV.out).2.1 rfl
                  have hh : (if has = true then some want else none : Option Int).isSome = has := by cases has <;> rfl
                  rw [hh] at this
                  subst this
                  exact ⟨G, rfl, hG⟩))
                clear hdr
                cases has
                all_goals
                  go_wp2_with (go_at_call 10; ((with_reducible refine (hdrH.out).mono ?_); rintro r w4 ⟨G, rfl, hG⟩; have z1 : w4.cell? ⟨g, 1, none⟩ = some (.string ok) := (World.cell?_of_block (w := wo) (hG.only.keep (k := g) ho1H.out hgn.out |>.trans ho1H.out.symm)).trans q1; have hGH := Lib.hid hG; clear hG))
                  all_goals go_meet
                  all_goals (case rel =>
                    have hvw := view_drop hGH.out hV.out
                    rw [if_pos rfl] at hvw
                    exact ⟨G, false, 0, rfl, rfl, Lib.hid hvw.1, Lib.hid (fun _ => rfl), Lib.hid hGH.out.ok, Lib.hid (hGH.out.same.1.trans hT.out), Lib.hid (by have := hvw.2.2; have := hC.out; omega), Lib.hid (hbo.out.trans (hGH.out.only.below hbo.out.size (fun x hx => hoo.out.live.own x hx)))⟩)
              | false =>
                have hdr := drop_any hoo.out ok (by have := hxs.out; omega)
                rw [hT.out] at hdr
                have hdrH := Lib.hid hdr
                clear hdr
                go_wp2_with (go_at_call 10; ((with_reducible refine (hdrH.out).mono ?_); rintro r w4 ⟨G, gone, rfl, hG⟩; have hGH := Lib.hid hG; clear hG))
                go_meet
                case rel =>
                  have hvw := view_drop hGH.out hV.out
                  rw [if_neg (bytes_ne he)] at hvw
                  exact ⟨G, has, want, rfl, rfl, Lib.hid hvw.1, hW, Lib.hid hGH.out.ok, Lib.hid (hGH.out.same.1.trans hT.out), Lib.hid (by have := hvw.2.2; have := hC.out; omega), Lib.hid (hbo.out.trans (hGH.out.only.below hbo.out.size (fun x hx => hoo.out.live.own x hx)))⟩
            · have hz2 : (kd == 1) = false := by simpa using hk1
              have hz3 : decide (kd = 1) = false := by simpa using hk1
              have hst := steps_any hoo.out ov hxr.out
              rw [hT.out] at hst
              have hstH := Lib.hid hst
              clear hst
              go_wp2_with (go_at_call 11; ((with_reducible refine (hstH.out).mono ?_); rintro r w4 ⟨m, Y, rfl, hm, hS, hY, ho4⟩; have hSH := Lib.hid hS; have hYH := Lib.hid hY; have hoH4 := Lib.hid ho4; clear hm hS hY ho4))
              go_meet
              case rel =>
                exact ⟨Y, has, want, rfl, rfl, Lib.hid (hV.out.perm hSH.out.perm), hW, hYH, Lib.hid (hSH.out.T.1.trans hT.out), Lib.hid (by rw [hSH.out.T.2.2]; have := hC.out; omega), Lib.hid (hbo.out.trans (hoH4.out.below hbo.out.size (fun x hx => hoo.out.live.own x hx)))⟩
        case rest =>
          obtain ⟨Y, has', want', rfl, rfl, hV', hW', hO', hT', hC', hB'⟩ := hcut
          clear hV hW hC ho1H hbo hoo hgn q0 q1 q2 hT
          have hgt := get_any hO'.out key (by have := hkey.out; omega)
          rw [hT'.out] at hgt
          have hgtH := Lib.hid (hgt.mono (fun r w' hr => show r = .returned (.tuple #[.int .i64 want', .bool has']) ∧ Only [] _ w' from by
            obtain ⟨h3, h4⟩ := hr
            have hv := hV'.out
            rcases h4 with ⟨e, he, hek, rfl⟩ | ⟨hno, rfl⟩
            · cases has' with
              | true =>
                obtain ⟨b, hb⟩ := hv
                obtain rfl := ent_one hO'.out.inv.nd e he _ hb hek
                exact ⟨rfl, h3⟩
              | false => exact absurd hek (hv e he)
            · cases has' with
              | true => obtain ⟨b, hb⟩ := hv; exact absurd rfl (hno _ hb)
              | false => rw [hW'.out rfl]; exact ⟨rfl, h3⟩))
          clear hgt
          go_upto_region 23 with (go_at_call 12; ((with_reducible refine (hgtH.out).mono ?_); rintro r w5 ⟨rfl, h5⟩))
          have hO5 := hO'.out.on h5 (by simp) (by simp)
          have hB5 := hB'.out.trans (h5.below (B := w.heap.size) hB'.out.size (by simp))
          have hks5 := keys_at hO5
          rw [hT'.out] at hks5
          have hcl := hO5.inv.good.ct
          rw [hO5.inv.cnt] at hcl
          have hO5H := Lib.hid hO5
          have hB5H := Lib.hid hB5
          have hks5H := Lib.hid hks5
          have hcnt := Lib.hid (cnt_has hO5.inv hV'.out)
          clear hO5 hB5 hks5 h5 hgtH
          go_upto_block 3 with (go_at_call 13; ((with_reducible refine (hks5H.out).mono ?_); rintro r w6 ⟨A6, c6, rfl, how6, hb6⟩))
          have how6H := Lib.hid how6
          have hb6H := Lib.hid hb6
          clear how6 hb6
          generalize hE : Y.ents = E at *
          have hEH := Lib.hid hE
          clear hE
          go_wp2_with fail
          go_loop [14, 16, 97] (fun s14 s16 s97 => ∃ i : Nat, i ≤ E.length ∧ s97 = .int .i64 i ∧ s14 = .int .i64 (cnt key (E.take i) : Nat)) (fun _ _ s97 => E.length - (intOf s97).toNat)
          case atStart => exact ⟨0, by omega, rfl, rfl⟩
          case round =>
            obtain ⟨i, hi, rfl, rfl⟩ := hrel
            by_cases hil : i < E.length
            · obtain ⟨e, he⟩ : ∃ e, E[i]? = some e := ⟨_, List.getElem?_eq_getElem hil⟩
              obtain ⟨g6, rfl, _, hcell⟩ := how6H.out i e he
              have hsn := cnt_snoc key (E.take i) e
              have htk : E.take (i + 1) = E.take i ++ [e] := by rw [List.take_add_one, he]; rfl
              rw [← htk] at hsn
              have hle := cnt_le key (E.take i)
              have hle2 : cnt key (E.take i) ≤ 1000000 := by rw [List.length_take] at hle; omega
              clear he htk hle
              cases hek : (e.2.1.toList == key.toList) with
              | true =>
                rw [hek, if_pos rfl] at hsn
                have hsnH := Lib.hid hsn
                clear hsn
                generalize cnt key (E.take i) = cc at *
                go_wp2_with fail
                go_round
                case rel => exact ⟨i + 1, by omega, by go_num, by rw [hsnH.out]; go_num⟩
                case measure => simp [intOf]; omega
              | false =>
                rw [hek] at hsn
                have hsnH := Lib.hid hsn
                clear hsn
                generalize cnt key (E.take i) = cc at *
                go_wp2_with fail
                go_round
                case rel => exact ⟨i + 1, by omega, by go_num, by rw [hsnH.out]; simp⟩
                case measure => simp [intOf]; omega
            · have hie : i = E.length := by omega
              subst hie
              rw [List.take_length] at *
              rw [hcnt.out]
              have hO6 := hO5H.out.on (O := []) ⟨hb6H.out.mono (Nat.zero_le _), fun k hk _ => hb6H.out.block k hk⟩ (by simp) (by simp)
              have hks6 := keys_at hO6
              have hln6 := len_at hO6
              rw [hT'.out, hO6.inv.cnt] at hln6
              rw [hT'.out] at hks6
              have hks6H := Lib.hid hks6
              have hB6 := Lib.hid (onB hB5H.out hb6H.out hB5H.out.size)
              have hO6H := Lib.hid hO6
              have hln7 : Hid (∀ w7, Below w6.heap.size w6 w7 → Calls Tryd.prog 14 #[.pointer (some ⟨T, 0, none⟩)] w7 fun e w' => e = .returned (.int .i64 (Y.ents.length : Int)) ∧ w7 = w') := Lib.hid (fun w7 h7 => by
                have hO7 := hO6H.out.on (O := []) ⟨h7.mono (Nat.zero_le _), fun k hk _ => h7.block k hk⟩ (by simp) (by simp)
                have := len_at hO7
                rw [hT'.out, hO7.inv.cnt] at this
                exact this)
              rw [hEH.out] at hks6H hln7
              clear hks6 hln6 hO6
              cases has'
              all_goals
                simp only [if_true, Bool.false_eq_true, if_false]
                go_wp2_with (first
                  | (go_at_call 13; ((with_reducible refine (hks6H.out).mono ?_); rintro r w7 ⟨A7, c7, rfl, how7, hb7⟩; have hb7H := Lib.hid hb7; clear hb7 how7))
                  | (go_at_call 14; ((with_reducible refine (hln7.out _ hb7H.out).mono ?_); rintro r w8 ⟨rfl, rfl⟩)))
                go_roundw
                case rel => exact ⟨k + 1, Y, _, want', by omega, by go_num, rfl, rfl, hV', Lib.hid (by first | exact fun h => Bool.noConfusion h | exact fun _ => hW'.out trivial), Lib.hid (hO6H.out.on (O := []) ⟨hb7H.out.mono (Nat.zero_le _), fun k hk _ => hb7H.out.block k hk⟩ (by simp) (by simp)), hT', hC', Lib.hid (onB hB6.out hb7H.out hB6.out.size)⟩
                case measure => simp [intOf]; omega
      · have hk2 : k = l.length := by omega
        have hal := alive_any wr (fac_below hFH.out hz hB.out) (by have := hB.out.size; omega)
        have halH := Lib.hid hal
        clear hal
        go_wp2_with (go_at_call 7; ((with_reducible refine (halH.out).mono ?_); rintro e w' ⟨rfl, hb9⟩))
        go_ret
        exact ⟨rfl, onB hB.out hb9 hB.out.size⟩
  · have hal : Hid (∀ w1, Below w.heap.size w w1 → Calls Tryd.prog 7 #[] w1 fun e w' => e = .returned (.bool true) ∧ Below w1.heap.size w1 w') := Lib.hid (fun w1 hb => alive_any w1 (fac_below hFH.out hz hb) (by have := hb.size; omega))
    cases hfo : farO l with
    | true =>
      rw [hfo] at hfar
      clear hno
      go_enter Tryd.func3, Tryd.ntmps3
      go_wp2_with (first
        | (go_at_call 6; ((with_reducible refine (hfar.out).mono ?_); rintro r w1 ⟨rfl, hb1⟩; have hb1H := Lib.hid hb1; clear hb1))
        | (go_at_call 7; ((with_reducible refine (hal.out _ hb1H.out).mono ?_); rintro e w2 ⟨rfl, hb2⟩)))
      go_ret
      exact ⟨rfl, onB hb1H.out hb2 hb1H.out.size⟩
    | false =>
      rw [hfo] at hfar
      have hks : 200 < key.size := by
        rcases Nat.lt_or_ge 200 key.size with h | h
        · exact h
        · exact absurd ⟨hfo, h⟩ hno
      have hd2 : decide (200 < key.size) = true := by simp; omega
      clear hno
      go_enter Tryd.func3, Tryd.ntmps3
      go_wp2_with (first
        | (go_at_call 6; ((with_reducible refine (hfar.out).mono ?_); rintro r w1 ⟨rfl, hb1⟩; have hb1H := Lib.hid hb1; clear hb1))
        | (go_at_call 7; ((with_reducible refine (hal.out _ hb1H.out).mono ?_); rintro e w2 ⟨rfl, hb2⟩)))
      all_goals first
        | (exfalso; omega)
        | (go_ret; exact ⟨rfl, onB hb1H.out hb2 hb1H.out.size⟩)

end Go.Proofs.YtnjccmdbfokfiaaDoor
