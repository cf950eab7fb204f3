/-
  The walk of the law of steps. The table of factors holds what the program's text lays; a length.
-/
import Derived.Test.YtnjccmdbfokfiaaDoorHY
namespace Go.Proofs.YtnjccmdbfokfiaaDoor
open Go.RowKit

/-- Two tables beside one another. -/
structure Two (B : Nat) (X Y : Tb) (k : Nat) (w : World) : Prop where
  a : Ok B X w
  b : Ok B Y w
  alike : Alike X Y
  cnt : X.count = Y.count
  le : X.count ≤ k
  apart : ∀ x ∈ Y.blocks, x ∉ X.blocks
structure Fits (Y : Tb) : Prop where
  rem : rem Y ≤ 512
  old : Y.new = [] → Y.old.length ≤ 512
  new : Y.new.length ≤ 512
theorem two_put {B k : Nat} {X Y GX GY : Tb} {key : ByteArray} {v : Int} {n : Bool} {w w4 w5 : World} (h : Two B X Y k w) (hx : PutRes B X GX key v n w w4) (hy : PutRes B Y GY key v n w4 w5) : Two B GX GY (k + 1) w5 := by
  have hd1 := apart_next h.b.live.here (fun b hb hm => h.apart b hm hb) hx.blk
  have hd2 : ∀ b ∈ Y.blocks, b ∉ GX.blocks := fun b hb hm => hd1 b hm hb
  have hcx := count_put hx
  have hcy := count_put hy
  have hl := h.le
  refine ⟨hx.ok.beside hy.only hd2 h.b.live.zero, hy.ok, (alike_put h.alike hx hy).2, by rw [hcx, hcy, h.cnt], by rw [hcx]; split <;> omega, apart_next hx.ok.live.here hd2 hy.blk⟩
theorem two_drop {B k : Nat} {X Y GX GY : Tb} {key : ByteArray} {n : Bool} {w w4 w5 : World} (h : Two B X Y k w) (hx : DropRes B X GX key n w w4) (hy : DropRes B Y GY key n w4 w5) : Two B GX GY (k + 1) w5 := by
  have hd1 := apart_next h.b.live.here (fun b hb hm => h.apart b hm hb) hx.blk
  have hd2 : ∀ b ∈ Y.blocks, b ∉ GX.blocks := fun b hb hm => hd1 b hm hb
  have hcx := count_drop hx
  have hcy := count_drop hy
  have hl := h.le
  have hc := h.cnt
  refine ⟨hx.ok.beside hy.only hd2 h.b.live.zero, hy.ok, (alike_drop h.alike hx hy).2, by omega, by omega, apart_next hx.ok.live.here hd2 hy.blk⟩
theorem two_steps {B k m : Nat} {X Y Z : Tb} {w w4 : World} (h : Two B X Y k w) (hS : Steps Y Z m) (hZ : Ok B Z w4) (ho : Only Y.blocks w w4) : Two B X Z k w4 :=
  ⟨h.a.beside ho h.apart h.b.live.zero, hZ, fun key o hv => (h.alike key o hv).perm hS.perm, by rw [hS.T.2.2]; exact h.cnt, h.le, fun b hb => h.apart b (hS.blk b hb)⟩
theorem two_on {B k : Nat} {X Y : Tb} {w w4 : World} (h : Two B X Y k w) (ho : Only [] w w4) : Two B X Y k w4 := ⟨h.a.on ho (by simp) (by simp), h.b.on ho (by simp) (by simp), h.alike, h.cnt, h.le, h.apart⟩

/-- What both tables tell of a key that is put, or let go. -/
theorem put_told {B : Nat} {X : Tb} {w : World} {key : ByteArray} {v : Int} {o : Option Int} (h : Ok B X w) (hv : View X key o) (hk : key.size ≤ 1000) (hc : X.count + 1 ≤ 1000000) :
    Calls Tryd.prog 9 #[.pointer (some ⟨X.T, 0, none⟩), .string key, .int .i64 v] w fun r w' => ∃ G, r = .returned (.bool (!o.isSome)) ∧ PutRes B X G key v (!o.isSome) w w' := by
  refine (put_any h key hk v hc).mono ?_
  rintro r w' ⟨G, new, rfl, hG⟩
  have := (view_put hG hv).2.1 rfl
  subst this
  exact ⟨G, rfl, hG⟩
theorem drop_told {B : Nat} {X : Tb} {w : World} {key : ByteArray} {o : Option Int} (h : Ok B X w) (hv : View X key o) (hk : key.size ≤ 1000) :
    Calls Tryd.prog 10 #[.pointer (some ⟨X.T, 0, none⟩), .string key] w fun r w' => ∃ G, r = .returned (.bool o.isSome) ∧ DropRes B X G key o.isSome w w' := by
  refine (drop_any h key hk).mono ?_
  rintro r w' ⟨G, gone, rfl, hG⟩
  have := (view_drop hG hv).2.1 rfl
  subst this
  exact ⟨G, rfl, hG⟩
theorem get_told {B : Nat} {X : Tb} {w : World} {key : ByteArray} {v : Int} (h : Ok B X w) (hv : View X key (some v)) (hk : key.size ≤ 1000) :
    Calls Tryd.prog 12 #[.pointer (some ⟨X.T, 0, none⟩), .string key] w fun r w' => r = .returned (.tuple #[.int .i64 v, .bool true]) ∧ Only [] w w' := by
  refine (get_any h key hk).mono ?_
  rintro r w' ⟨h3, h4⟩
  obtain ⟨b, hb⟩ := hv
  rcases h4 with ⟨e, he, hek, rfl⟩ | ⟨hno, _⟩
  · obtain rfl := ent_one h.inv.nd e he _ hb hek
    exact ⟨rfl, h3⟩
  · exact absurd rfl (hno _ hb)

set_option warningAsError false in
set_option maxRecDepth 100000 in
set_option maxHeartbeats 8000000 in
theorem steps_law (seed : Int) (A : Option Addr) (c : Nat) (l : List Op3) (w : World) (hU : U seed) (hr : OpsAt w w.heap.size A l) (hl : l.length ≤ 140737488355328) (hF : Fac w) (hz : 0 < w.heap.size) :
    Calls Tryd.prog 4 #[.int .u64 seed, .slice A l.length c] w fun e w' => e = .returned (.bool true) ∧ Below w.heap.size w w' := by
  have hfar := Lib.hid (far_any A c l w hr hl)
  have hrH := Lib.hid hr
  have hFH := Lib.hid hF
  clear hr hF
  have hal : Hid (∀ w1, Below w.heap.size w w1 → Calls Tryd.prog 7 #[] w1 fun e w' => e = .returned (.bool true) ∧ Below w1.heap.size w1 w') := Lib.hid (fun w1 hb => alive_any w1 (fac_below hFH.out hz hb) (by have := hb.size; omega))
  cases hfo : farO l with
  | true =>
    rw [hfo] at hfar
    go_enter Tryd.func4, Tryd.ntmps4
    go_wp2_with (first
      | (go_at_call 6; ((with_reducible refine (hfar.out).mono ?_); rintro r w1 ⟨rfl, hb1⟩; have hb1H := Lib.hid hb1; clear hb1))
      | (go_at_call 7; ((with_reducible refine (hal.out _ hb1H.out).mono ?_); rintro e w2 ⟨rfl, hb2⟩)))
    go_ret
    exact ⟨rfl, onB hb1H.out hb2 hb1H.out.size⟩
  | false =>
    rw [hfo] at hfar
    obtain ⟨hll, hks⟩ := farO_false hfo
    have hksH := Lib.hid hks
    clear hks hfo
    go_enter Tryd.func4, Tryd.ntmps4
    go_upto_region 4 with (first
      | (go_at_call 6; ((with_reducible refine (hfar.out).mono ?_); rintro r w1 ⟨rfl, hb1⟩))
      | (go_at_call 8; ((with_reducible refine (new_any _ _).mono ?_); rintro r w2 ⟨rfl, hw2⟩)))
    have hs1 : (w1.alloc (newX w1.heap.size seed).head).heap.size = w1.heap.size + 1 := by simp
    have ht1 := heap_alloc_new w1 (newX w1.heap.size seed).head
    have hb2 := hb1.alloc hb1.size (newX w1.heap.size seed).head
    have ht2 := heap_alloc_new (w1.alloc (newX w1.heap.size seed).head) (newX (w1.heap.size + 1) (IntKind.u64.wrap (seed + 1))).head
    rw [hs1] at ht2
    have ht1' := (Lib.alloc_old (w1.alloc (newX w1.heap.size seed).head) (newX (w1.heap.size + 1) (IntKind.u64.wrap (seed + 1))).head w1.heap.size (by omega)).trans ht1
    have hb3 := hb2.alloc hb2.size (newX (w1.heap.size + 1) (IntKind.u64.wrap (seed + 1))).head
    have hwz := hb1.size
    clear hs1 ht1 hb2 hb1 hw2
    generalize (w1.alloc (newX w1.heap.size seed).head).alloc (newX (w1.heap.size + 1) (IntKind.u64.wrap (seed + 1))).head = w3 at *
    have hF3 := fac_below hFH.out hz hb3
    have htwo : Two w.heap.size (newX w1.heap.size seed) (newX (w1.heap.size + 1) (IntKind.u64.wrap (seed + 1))) 0 w3 :=
      ⟨new_ok (B := w.heap.size) w1.heap.size seed hU hF3 hz hwz ht1', new_ok (B := w.heap.size) (w1.heap.size + 1) _ (u_wrap _) hF3 hz (by omega) ht2,
        fun key o hv => by
          cases o with
          | some v => obtain ⟨b, hb⟩ := hv; simp [Tb.ents, newX] at hb
          | none => exact fun e he => by simp [Tb.ents, newX] at he, rfl, Nat.le_refl _, by simp [newX, Tb.blocks, Tb.ents]⟩
    have htwoH := Lib.hid htwo
    have hb3H := Lib.hid hb3
    clear htwo hb3 ht1' ht2 hF3 hwz
    generalize w1.heap.size = T at *
    go_wp2_with fail
    go_loopw [25] (fun s25 wr => ∃ (k : Nat) (X Y : Tb), k ≤ l.length ∧ s25 = .int .i64 k ∧ Hid (Two w.heap.size X Y k wr) ∧ Hid (Small Y) ∧ Hid (X.T = T) ∧ Hid (Y.T = T + 1) ∧ Hid (Below w.heap.size w wr)) (fun s25 _ => l.length - (intOf s25).toNat)
    case atStart => exact ⟨0, _, _, by omega, rfl, htwoH, Lib.hid ⟨rfl, by simp [newX]⟩, Lib.hid rfl, Lib.hid rfl, hb3H⟩
    case round =>
      obtain ⟨k, X, Y, hk, rfl, hO, hSm, hTX, hTY, hB⟩ := hrel
      by_cases hlt : k < l.length
      · obtain ⟨x, hx⟩ : ∃ x, l[k]? = some x := ⟨_, List.getElem?_eq_getElem hlt⟩
        obtain ⟨a, rfl, ha, x1, x2, x3⟩ := hrH.out.on hB.out k x hx
        have hxs := Lib.hid (hksH.out x (List.mem_of_getElem? hx))
        have hltH := Lib.hid hlt
        obtain ⟨kd, ok, ov⟩ := x
        simp only at x1 x2 x3 hxs
        clear hx
        go_upto_if 31 with fail
        have ho1 := heap_alloc_new wr (.cells #[.int .i64 kd, .string ok, .int .i64 ov] 29)
        have hal1 : Only [] wr (wr.alloc (.cells #[.int .i64 kd, .string ok, .int .i64 ov] 29)) := (Only.refl [] wr).alloc _
        have hbo := hB.out.alloc hB.out.size (.cells #[.int .i64 kd, .string ok, .int .i64 ov] 29)
        have hoo := two_on hO.out hal1
        have hga : wr.heap.size ∉ X.blocks := fun hm => by have := hO.out.a.live.here.lt hm; omega
        have hgb : wr.heap.size ∉ Y.blocks := fun hm => by have := hO.out.b.live.here.lt hm; omega
        clear x1 x2 x3 hal1 hO hB
        generalize wr.alloc (.cells #[.int .i64 kd, .string ok, .int .i64 ov] 29) = wo at *
        generalize wr.heap.size = g at *
        have q1 := Lib.cell_of_heap ho1 1
        have q2 := Lib.cell_of_heap ho1 2
        have ho1H := Lib.hid ho1
        have hboH := Lib.hid hbo
        have hooH := Lib.hid hoo
        have hgaH := Lib.hid hga
        have hgbH := Lib.hid hgb
        clear ho1 hbo hoo hga hgb
        go_cut [8] from 31 to 53 (fun s8 wx => ∃ (X' Y' : Tb), Hid (Two w.heap.size X' Y' (k + 1) wx) ∧ Hid (Fits Y') ∧ Hid (X'.T = T) ∧ Hid (Y'.T = T + 1) ∧ Hid (Below w.heap.size w wx))
        case first =>
          by_cases hk1 : kd = 1
          · subst hk1
            have hoD := two_on hooH.out ((Only.refl [] wo).drewN 1)
            have hbD := hboH.out.drew
            obtain ⟨o, ho⟩ := view_ex X ok
            obtain ⟨nv, hA, hBc⟩ : ∃ nv : Bool, Hid (Calls Tryd.prog 10 #[.pointer (some ⟨T, 0, none⟩), .string ok] wo.drew fun r w4 => ∃ G, r = .returned (.bool nv) ∧ DropRes w.heap.size X G ok nv wo.drew w4) ∧ Hid (∀ w4 G, DropRes w.heap.size X G ok nv wo.drew w4 → Calls Tryd.prog 10 #[.pointer (some ⟨T + 1, 0, none⟩), .string ok] w4 fun r w5 => ∃ G2, r = .returned (.bool nv) ∧ DropRes w.heap.size Y G2 ok nv w4 w5) := by
              refine ⟨o.isSome, Lib.hid ?_, Lib.hid (fun w4 G hG => ?_)⟩
              · have h1 := drop_told hoD.a ho (by have := hxs.out; omega)
                rw [hTX.out] at h1
                exact h1
              · have hd1 := apart_next hoD.b.live.here (fun b hb hm => hoD.apart b hm hb) hG.blk
                have hoB := hoD.b.beside hG.only (fun b hb hm => hoD.apart b hm hb) hoD.a.live.zero
                have h1 := drop_told hoB (hooH.out.alike ok o ho) (by have := hxs.out; omega)
                rw [hTY.out] at h1
                exact h1
            have hoDH := Lib.hid hoD
            have hbDH := Lib.hid hbD
            clear ho hoD hbD
            cases nv
            all_goals
              go_upto_region 8 with fail
              first
              | go_region_held3 (fun w' => w'.cell? ⟨g, 1, none⟩ = some (.string ok) ∧ w'.cell? ⟨g, 2, none⟩ = some (.int .i64 ov))
                  (first | exact ⟨q1, q2⟩ | assumption | (refine ⟨?_, ?_⟩ <;> assumption))
                  (first
                  | (go_at_call 10; ((with_reducible refine (hA.out).mono ?_); rintro r w4 ⟨G, rfl, hG⟩; have z1 : w4.cell? ⟨g, 1, none⟩ = some (.string ok) := (World.cell?_of_block (w := wo) (hG.only.keep (k := g) ho1H.out hgaH.out |>.trans ho1H.out.symm)).trans q1; have z2 : w4.cell? ⟨g, 2, none⟩ = some (.int .i64 ov) := (World.cell?_of_block (w := wo) (hG.only.keep (k := g) ho1H.out hgaH.out |>.trans ho1H.out.symm)).trans q2; have hGAH := Lib.hid hG; clear hG))
                  | (go_at_call 10; ((with_reducible refine (hBc.out _ _ hGAH.out).mono ?_); rintro r w5 ⟨G2, rfl, hG⟩; have y1 : w5.cell? ⟨g, 1, none⟩ = some (.string ok) := (World.cell?_of_block (w := wo) (hG.only.keep (k := g) (hGAH.out.only.keep (k := g) ho1H.out hgaH.out) hgbH.out |>.trans ho1H.out.symm)).trans q1; have y2 : w5.cell? ⟨g, 2, none⟩ = some (.int .i64 ov) := (World.cell?_of_block (w := wo) (hG.only.keep (k := g) (hGAH.out.only.keep (k := g) ho1H.out hgaH.out) hgbH.out |>.trans ho1H.out.symm)).trans q2; have hGBH := Lib.hid hG; clear hG)))
              | fail
              all_goals
                go_wp2_with fail
                all_goals go_meet
                all_goals (case rel =>
                  obtain ⟨f1, f2, f3⟩ := small_drop hooH.out.b.inv hSm.out hGBH.out
                  exact ⟨G, G2, Lib.hid (two_drop hoDH.out hGAH.out hGBH.out), Lib.hid ⟨f1, f2, f3⟩, Lib.hid (hGAH.out.same.1.trans hTX.out), Lib.hid (hGBH.out.same.1.trans hTY.out), Lib.hid ((hbDH.out.trans (hGAH.out.only.below hbDH.out.size (fun x hx => hoDH.out.a.live.own x hx))).trans (hGBH.out.only.below (by have := hbDH.out.size; have := hGAH.out.only.size; omega) (fun x hx => hoDH.out.b.live.own x hx)))⟩)
          · have hz2 : (kd == 1) = false := by simpa using hk1
            have hz3 : decide (kd = 1) = false := by simpa using hk1
            have hoD := two_on hooH.out ((Only.refl [] wo).drewN 1)
            have hbD := hboH.out.drew
            obtain ⟨o, ho⟩ := view_ex X ok
            obtain ⟨nv, hA, hBc⟩ : ∃ nv : Bool, Hid (Calls Tryd.prog 9 #[.pointer (some ⟨T, 0, none⟩), .string ok, .int .i64 ov] wo.drew fun r w4 => ∃ G, r = .returned (.bool nv) ∧ PutRes w.heap.size X G ok ov nv wo.drew w4) ∧ Hid (∀ w4 G, PutRes w.heap.size X G ok ov nv wo.drew w4 → Calls Tryd.prog 9 #[.pointer (some ⟨T + 1, 0, none⟩), .string ok, .int .i64 ov] w4 fun r w5 => ∃ G2, r = .returned (.bool nv) ∧ PutRes w.heap.size Y G2 ok ov nv w4 w5) := by
              refine ⟨(!o.isSome), Lib.hid ?_, Lib.hid (fun w4 G hG => ?_)⟩
              · have h1 := put_told (v := ov) hoD.a ho (by have := hxs.out; omega) (by have := hoD.le; omega)
                rw [hTX.out] at h1
                exact h1
              · have hd1 := apart_next hoD.b.live.here (fun b hb hm => hoD.apart b hm hb) hG.blk
                have hoB := hoD.b.beside hG.only (fun b hb hm => hoD.apart b hm hb) hoD.a.live.zero
                have h1 := put_told (v := ov) hoB (hooH.out.alike ok o ho) (by have := hxs.out; omega) (by have := hooH.out.le; have := hooH.out.cnt; omega)
                rw [hTY.out] at h1
                exact h1
            have hoDH := Lib.hid hoD
            have hbDH := Lib.hid hbD
            clear ho hoD hbD
            cases nv
            all_goals
              go_upto_region 10 with fail
              first
              | go_region_held3 (fun w' => w'.cell? ⟨g, 1, none⟩ = some (.string ok) ∧ w'.cell? ⟨g, 2, none⟩ = some (.int .i64 ov))
                  (first | exact ⟨q1, q2⟩ | assumption | (refine ⟨?_, ?_⟩ <;> assumption))
                  (first
                  | (go_at_call 9; ((with_reducible refine (hA.out).mono ?_); rintro r w4 ⟨G, rfl, hG⟩; have z1 : w4.cell? ⟨g, 1, none⟩ = some (.string ok) := (World.cell?_of_block (w := wo) (hG.only.keep (k := g) ho1H.out hgaH.out |>.trans ho1H.out.symm)).trans q1; have z2 : w4.cell? ⟨g, 2, none⟩ = some (.int .i64 ov) := (World.cell?_of_block (w := wo) (hG.only.keep (k := g) ho1H.out hgaH.out |>.trans ho1H.out.symm)).trans q2; have hGAH := Lib.hid hG; clear hG))
                  | (go_at_call 9; ((with_reducible refine (hBc.out _ _ hGAH.out).mono ?_); rintro r w5 ⟨G2, rfl, hG⟩; have y1 : w5.cell? ⟨g, 1, none⟩ = some (.string ok) := (World.cell?_of_block (w := wo) (hG.only.keep (k := g) (hGAH.out.only.keep (k := g) ho1H.out hgaH.out) hgbH.out |>.trans ho1H.out.symm)).trans q1; have y2 : w5.cell? ⟨g, 2, none⟩ = some (.int .i64 ov) := (World.cell?_of_block (w := wo) (hG.only.keep (k := g) (hGAH.out.only.keep (k := g) ho1H.out hgaH.out) hgbH.out |>.trans ho1H.out.symm)).trans q2; have hGBH := Lib.hid hG; clear hG)))
              | fail
              all_goals
                go_wp2_with fail
                all_goals go_meet
                all_goals (case rel =>
                  obtain ⟨f1, f2, f3⟩ := small_put hooH.out.b.inv hSm.out (by have := hooH.out.le; have := hooH.out.cnt; have := hltH.out; omega) hGBH.out
                  exact ⟨G, G2, Lib.hid (two_put hoDH.out hGAH.out hGBH.out), Lib.hid ⟨f1, f2, f3⟩, Lib.hid (hGAH.out.same.1.trans hTX.out), Lib.hid (hGBH.out.same.1.trans hTY.out), Lib.hid ((hbDH.out.trans (hGAH.out.only.below hbDH.out.size (fun x hx => hoDH.out.a.live.own x hx))).trans (hGBH.out.only.below (by have := hbDH.out.size; have := hGAH.out.only.size; omega) (fun x hx => hoDH.out.b.live.own x hx)))⟩)
        case rest =>
          obtain ⟨X', Y', hO', hFt, hTX', hTY', hB'⟩ := hcut
          have hst := steps_any hO'.out.b 1000 ⟨by omega, by omega⟩
          rw [hTY'.out] at hst
          have hstH := Lib.hid hst
          clear hst
          go_upto_region 13 with (go_at_call 11; ((with_reducible refine (hstH.out).mono ?_); rintro r w6 ⟨m, Z, rfl, hm, hS, hZ, ho6⟩))
          have hTw := two_steps hO'.out hS hZ ho6
          have hSmZ := small_end hO'.out.b.inv hFt.out.rem hFt.out.old hFt.out.new hS hm
          have hTZ : Z.T = T + 1 := hS.T.1.trans hTY'.out
          have hB6 := hB'.out.trans (ho6.below (B := w.heap.size) hB'.out.size (fun x hx => hO'.out.b.live.own x hx))
          have hla := len_at hTw.a
          have hlb := len_at hTw.b
          have hmv := moved_at hTw.b
          rw [if_pos hSmZ.new, hTZ] at hmv
          rw [hTX'.out] at hla
          rw [hTZ, ← hTw.cnt] at hlb
          have hlaH := Lib.hid hla
          have hlbH := Lib.hid hlb
          have hmvH := Lib.hid hmv
          have hTwH := Lib.hid hTw
          have hSmZH := Lib.hid hSmZ
          have hTZH := Lib.hid hTZ
          have hB6H := Lib.hid hB6
          clear hla hlb hmv hTw hSmZ hTZ hB6 hm hS hZ ho6
          go_wp2_with (first
            | (go_at_call 14; ((with_reducible refine (hlaH.out).mono ?_); rintro r w' ⟨rfl, rfl⟩))
            | (go_at_call 14; ((with_reducible refine (hlbH.out).mono ?_); rintro r w' ⟨rfl, rfl⟩))
            | (go_at_call 15; ((with_reducible refine (hmvH.out).mono ?_); rintro r w' ⟨rfl, rfl⟩)))
          go_roundw
          case rel => exact ⟨k + 1, X', Z, by omega, by go_num, hTwH, hSmZH, hTX', hTZH, hB6H⟩
          case measure => simp [intOf]; omega
      · have hk2 : k = l.length := by omega
        have hks := keys_at hO.out.a
        rw [hTX.out] at hks
        have hksH2 := Lib.hid hks
        have hcl := hO.out.a.inv.good.ct
        rw [hO.out.a.inv.cnt] at hcl
        clear hks
        go_wp2_with (go_at_call 13; ((with_reducible refine (hksH2.out).mono ?_); rintro r w6 ⟨A6, c6, rfl, how6, hb6⟩))
        have how6H := Lib.hid how6
        have hb6H := Lib.hid hb6
        have hTw := two_on hO.out (⟨hb6.mono (Nat.zero_le _), fun k hk _ => hb6.block k hk⟩ : Only [] wr w6)
        have hTwH := Lib.hid hTw
        have hB6 := Lib.hid (onB hB.out hb6 hB.out.size)
        clear how6 hb6 hTw
        generalize hE : X.ents = E at *
        have hEH := Lib.hid hE
        clear hE
        go_loopw [10, 11, 12, 13, 14, 70] (fun s10 s11 s12 s13 s14 s70 wx => ∃ i : Nat, i ≤ E.length ∧ s70 = .int .i64 i ∧ Hid (Only [] w6 wx)) (fun _ _ _ _ _ s70 _ => E.length - (intOf s70).toNat)
        case atStart => exact ⟨0, by omega, rfl, Lib.hid (Only.refl _ _)⟩
        case round =>
          obtain ⟨i, hi, rfl, hon⟩ := hrel
          by_cases hil : i < E.length
          · obtain ⟨e, he⟩ : ∃ e, E[i]? = some e := ⟨_, List.getElem?_eq_getElem hil⟩
            obtain ⟨g6, rfl, hg6, hcell0⟩ := how6H.out i e he
            have hcell := (World.cell?_of_block (w := w6) (a := ⟨g6, i, none⟩) (hon.out.2 g6 hg6 (by simp))).trans hcell0
            have hem : e ∈ X.ents := by rw [hEH.out]; exact List.mem_of_getElem? he
            have hv : View X e.2.1 (some e.2.2) := ⟨e.1, hem⟩
            have hTx := two_on hTwH.out hon.out
            have hkz := hTx.a.inv.good.ks e hem
            have hga := get_told hTx.a hv hkz
            rw [hTX.out] at hga
            have hgaH := Lib.hid hga
            have hgb : Hid (∀ w7, Only [] _ w7 → Calls Tryd.prog 12 #[.pointer (some ⟨T + 1, 0, none⟩), .string e.2.1] w7 fun r w' => r = .returned (.tuple #[.int .i64 e.2.2, .bool true]) ∧ Only [] w7 w') := Lib.hid (fun w7 h7 => by
              have := get_told (two_on hTx h7).b (hTx.alike _ _ hv) hkz
              rw [hTY.out] at this
              exact this)
            clear hga hcell0 he hem hv hTx hkz
            go_wp2_with (first
              | (go_at_call 12; ((with_reducible refine (hgaH.out).mono ?_); rintro r w7 ⟨rfl, h7⟩; have h7H := Lib.hid h7; clear h7))
              | (go_at_call 12; ((with_reducible refine (hgb.out _ h7H.out).mono ?_); rintro r w8 ⟨rfl, h8⟩; have h8H := Lib.hid h8; clear h8)))
            go_roundw
            case rel => exact ⟨i + 1, by omega, by go_num, Lib.hid ((hon.out.trans h7H.out (by simp)).trans h8H.out (by simp))⟩
            case measure => simp [intOf]; omega
          · have hie : i = E.length := by omega
            subst hie
            have hB7 := hB6.out.trans (hon.out.below (B := w.heap.size) hB6.out.size (by simp))
            have hB7H := Lib.hid hB7
            clear hB7
            go_wp2_with (go_at_call 7; ((with_reducible refine (hal.out _ hB7H.out).mono ?_); rintro e w9 ⟨rfl, hb9⟩))
            go_ret
            exact ⟨rfl, onB hB7H.out hb9 hB7H.out.size⟩

end Go.Proofs.YtnjccmdbfokfiaaDoor
