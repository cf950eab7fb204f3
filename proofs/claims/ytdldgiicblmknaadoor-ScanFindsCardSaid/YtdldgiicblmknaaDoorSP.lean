/-
  The walk of the law of what stays in a table that changes. The table of factors holds what the program's text lays; two lengths.
-/
import Derived.Test.YtdldgiicblmknaaDoorSO
import Derived.Deep.Cut
import Derived.Deep.CutRange
import Derived.Deep.CutBlock
namespace Go.Proofs.YtdldgiicblmknaaDoor
open Go.RowKit

theorem OpsAt.up {w : World} {B B' : Nat} {A : Option Addr} {l : List Op3} (h : OpsAt w B A l) (hB : B ≤ B') : OpsAt w B' A l := fun i x hx => by
  obtain ⟨a, h1, h2, h3⟩ := h i x hx
  exact ⟨a, h1, by omega, h3⟩
/-- How far the walk's turns are told. -/
def ToldTo (seed : Int) (S Td : List ByteArray) (p : Nat) : Prop := ∀ k ∈ S, rev 16 (num seed k) < p → k ∈ Td
theorem tK_mem {X : Tb} (hI : Inv X) (hP : Par X) (c : Nat) (k : ByteArray) : k ∈ tK X c ↔ (k ∈ kys X.ents ∧ num X.seed k % pw (tS X) = c % pw (tS X)) := by
  unfold tK kys
  rw [List.mem_map, List.mem_map]
  constructor
  · rintro ⟨e, he, rfl⟩
    obtain ⟨h1, h2⟩ := (tL_mem hI hP c e).1 he
    exact ⟨⟨e, h1, rfl⟩, h2⟩
  · rintro ⟨⟨e, he, rfl⟩, h2⟩
    exact ⟨e, (tL_mem hI hP c e).2 ⟨he, h2⟩, rfl⟩
/-- A turn goes on. -/
theorem told_turn {X : Tb} (hI : Inv X) (hP : Par X) {S Td : List ByteArray} (hS : ∀ k ∈ S, k ∈ kys X.ents) {c : Nat} (h : ToldTo X.seed S Td (pos (tS X) c)) :
    (nxt (tS X) c = 0 ∧ ∀ k ∈ S, k ∈ Td ++ tK X c) ∨ (nxt (tS X) c ≠ 0 ∧ ToldTo X.seed S (Td ++ tK X c) (pos (tS X) (nxt (tS X) c))) := by
  have hs16 := (shape hI hP).2.1
  have key := told_step (s := tS X) (c := c) hs16 (T := fun n => ∀ k ∈ S, num X.seed k = n → k ∈ Td) (T' := fun n => ∀ k ∈ S, num X.seed k = n → k ∈ Td ++ tK X c)
    (fun n hn k hk hkn => h k hk (by rw [hkn]; exact hn))
    (fun n hn k hk hkn => List.mem_append_left _ (hn k hk hkn))
    (fun n hn k hk hkn => List.mem_append_right _ ((tK_mem hI hP c k).2 ⟨hS k hk, by rw [hkn]; exact hn⟩))
  rcases key with ⟨h1, h2⟩ | ⟨h1, h2⟩
  · exact Or.inl ⟨h1, fun k hk => h2 _ k hk rfl⟩
  · exact Or.inr ⟨h1, fun k hk hr => h2 _ hr k hk rfl⟩
/-- A change of size passes nothing over. -/
theorem told_change {seed : Int} {S Td : List ByteArray} {s s' c : Nat} (hs : s ≤ 16) (hs' : s' ≤ 16) (hc : c < 2 ^ s) (h : ToldTo seed S Td (pos s c)) : ToldTo seed S Td (pos s' c) :=
  fun k hk hr => h k hk (Nat.lt_of_lt_of_le hr (size_pos hs hs' hc))
/-- How many turns there may be still. -/
def Left (lb n s c : Nat) : Prop := lb ≤ n → n + (2 ^ s - rev s c) ≤ lb + 65536
theorem left_lt {lb n s c : Nat} (h : Left lb n s c) (hl : lb ≤ 300) : n < 100000 := by
  by_cases hn : lb ≤ n
  · have := h hn; omega
  · omega
theorem left_turn {lb n s c : Nat} (h : Left lb n s c) (hn : lb ≤ n) (h0 : nxt s c ≠ 0) : Left lb (n + 1) s (nxt s c) := fun _ => by
  have := h hn
  have := turns_left c h0
  omega
theorem left_op {lb n s c : Nat} (hs : s ≤ 16) (hn : n < lb) : Left lb (n + 1) s c := fun h => by
  have := pow_le16 hs
  omega

set_option maxRecDepth 100000 in
set_option maxHeartbeats 8000000 in
theorem finds_law (seed : Int) (A : Option Addr) (c : Nat) (l : List Op3) (A2 : Option Addr) (c2 : Nat) (l2 : List Op3) (w : World) (hU : U seed) (hr : OpsAt w w.heap.size A l) (hrg : ∀ x ∈ l, -9223372036854775808 ≤ x.2.2 ∧ x.2.2 ≤ 9223372036854775807) (hl : l.length ≤ 140737488355328) (hr2 : OpsAt w w.heap.size A2 l2) (hrg2 : ∀ x ∈ l2, -9223372036854775808 ≤ x.2.2 ∧ x.2.2 ≤ 9223372036854775807) (hl2 : l2.length ≤ 140737488355328) (hF : Fac w) (hz : 0 < w.heap.size) :
    Calls Tryd.prog 4 #[.int .u64 seed, .slice A l.length c, .slice A2 l2.length c2] w fun e w' => e = .returned (.bool true) ∧ Below w.heap.size w w' := by
  have hfar := Lib.hid (far_any A c l w hr hl)
  have hal : Hid (∀ w1, Below w.heap.size w w1 → Calls Tryd.prog 8 #[] w1 fun e w' => e = .returned (.bool true) ∧ Below w1.heap.size w1 w') := Lib.hid (fun w1 hb => alive_any w1 (fac_below hF hz hb) (by have := hb.size; omega))
  have hfar2 : Hid (∀ w1, Below w.heap.size w w1 → Calls Tryd.prog 7 #[.slice A2 l2.length c2] w1 fun e w' => e = .returned (.bool (farO l2)) ∧ Below w1.heap.size w1 w') := Lib.hid (fun w1 hb => far_any A2 c2 l2 w1 ((hr2.on hb).up hb.size) hl2)
  have hr2H := Lib.hid hr2
  have hrg2H := Lib.hid hrg2
  have hrH := Lib.hid hr
  have hrgH := Lib.hid hrg
  have hFH := Lib.hid hF
  have hUH := Lib.hid hU
  clear hr hF hrg hr2 hrg2
  cases hfo : farO l with
  | true =>
    rw [hfo] at hfar
    go_enter Tryd.func4, Tryd.ntmps4
    go_wp2_with (first
      | (go_at_call 7; ((with_reducible refine (hfar.out).mono ?_); rintro r w1 ⟨rfl, hb1⟩; have hb1H := Lib.hid hb1; clear hb1))
      | (go_at_call 8; ((with_reducible refine (hal.out _ hb1H.out).mono ?_); rintro e w2 ⟨rfl, hb2⟩)))
    go_ret
    exact ⟨rfl, onB hb1H.out hb2 hb1H.out.size⟩
  | false =>
    rw [hfo] at hfar
    cases hfo2 : farO l2 with
    | true =>
      rw [hfo2] at hfar2
      go_enter Tryd.func4, Tryd.ntmps4
      go_wp2_with (first
        | (go_at_call 7; ((with_reducible refine (hfar.out).mono ?_); rintro r w1 ⟨rfl, hb1⟩; have hb1H := Lib.hid hb1; clear hb1))
        | (go_at_call 7; ((with_reducible refine (hfar2.out _ hb1H.out).mono ?_); rintro r w2 ⟨rfl, hb2⟩; have hb2H := Lib.hid (onB hb1H.out hb2 hb1H.out.size); clear hb2))
        | (go_at_call 8; ((with_reducible refine (hal.out _ hb2H.out).mono ?_); rintro e w3 ⟨rfl, hb3⟩)))
      go_ret
      exact ⟨rfl, onB hb2H.out hb3 hb2H.out.size⟩
    | false =>
    rw [hfo2] at hfar2
    obtain ⟨hll2, hks2⟩ := farO_false hfo2
    have hks2H := Lib.hid hks2
    clear hfo2 hks2
    obtain ⟨hll, hks⟩ := farO_false hfo
    have hksH := Lib.hid hks
    clear hfo hks
    go_enter Tryd.func4, Tryd.ntmps4
    go_upto_region 4 with (first
      | (go_at_call 7; ((with_reducible refine (hfar.out).mono ?_); rintro r w0 ⟨rfl, hb0⟩; have hb0H := Lib.hid hb0; clear hb0))
      | (go_at_call 7; ((with_reducible refine (hfar2.out _ hb0H.out).mono ?_); rintro r w1 ⟨rfl, hb1⟩; have hb1 := onB hb0H.out hb1 hb0H.out.size))
      | (go_at_call 9; ((with_reducible refine (new_any seed _).mono ?_); rintro r w2 ⟨rfl, hw2⟩)))
    have hb1H := Lib.hid hb1
    have hb2 := hb1.alloc hb1.size (newX w1.heap.size seed).head
    have ht2 := heap_alloc_new w1 (newX w1.heap.size seed).head
    have hok := new_ok (B := w.heap.size) w1.heap.size seed hU (fac_below hFH.out hz hb2) hz hb1.size ht2
    have hokH := Lib.hid (And.intro hok (par_new w1.heap.size seed))
    have hb2H := Lib.hid hb2
    clear hok ht2 hb2 hb1 hw2
    generalize w1.alloc (newX w1.heap.size seed).head = w3 at *
    generalize w1.heap.size = T at *
    go_wp2_with fail
    go_loopw [32] (fun s32 wr => ∃ (k : Nat) (X : Tb), k ≤ l.length ∧ s32 = .int .i64 k ∧ Hid (Ok w.heap.size X wr ∧ Par X) ∧ Hid (X.T = T ∧ X.seed = seed) ∧ Hid (X.count ≤ k) ∧ Hid (Below w.heap.size w wr)) (fun s32 _ => l.length - (intOf s32).toNat)
    case atStart => exact ⟨0, _, by omega, rfl, hokH, Lib.hid ⟨rfl, rfl⟩, Lib.hid (Nat.le_refl _), hb2H⟩
    case round =>
      obtain ⟨k, X, hk, rfl, hO, hT, hC, hB⟩ := hrel
      by_cases hlt : k < l.length
      · obtain ⟨x, hx⟩ : ∃ x, l[k]? = some x := ⟨_, List.getElem?_eq_getElem hlt⟩
        obtain ⟨a, rfl, ha, x1, x2, x3⟩ := hrH.out.on hB.out k x hx
        have hxs := Lib.hid (hksH.out x (List.mem_of_getElem? hx))
        have hxr := Lib.hid (hrgH.out x (List.mem_of_getElem? hx))
        have hltH := Lib.hid hlt
        obtain ⟨kd, ok, ov⟩ := x
        simp only at x1 x2 x3 hxs hxr
        clear hx
        have hdo : Hid (∀ wo, Only [] wr wo → Calls Tryd.prog 11 #[.pointer (some ⟨T, 0, none⟩), .agg #[.int .i64 kd, .string ok, .int .i64 ov]] wo fun r w' => ∃ G, r = .returned (.tuple #[]) ∧ Did w.heap.size X G kd ok ov wo w') := Lib.hid fun wo ho => by
          have h := does_at (hO.out.1.on ho (by simp) (by simp)) hO.out.2 kd ok ov (by have := hxs.out; omega) hxr.out (by have := hC.out; have := hltH.out; omega)
          rw [hT.out.1] at h
          exact h
        go_wp2_with (go_at_call 11; ((with_reducible refine (hdo.out _ ((Only.refl _ _).alloc _)).mono ?_); rintro r w4 ⟨G, rfl, hG⟩; have hGH := Lib.hid hG; clear hG))
        go_roundw
        case rel => exact ⟨k + 1, G, by omega, by go_num, Lib.hid ⟨hGH.out.ok, hGH.out.par⟩, Lib.hid ⟨hGH.out.same.1.trans hT.out.1, hGH.out.same.2.trans hT.out.2⟩, Lib.hid (by have := hGH.out.cnt; have := hC.out; omega), Lib.hid ((hB.out.alloc hB.out.size _).trans (hGH.out.only.below (by have := hB.out.size; simp; omega) (fun x hx => hO.out.1.live.own x hx)))⟩
        case measure => simp [intOf]; omega
      · have hks := keysT_at hO.out.1
        rw [hT.out.1] at hks
        have hksH3 := Lib.hid hks
        clear hks
        go_upto_region 10 with (go_at_call 20; ((with_reducible refine (hksH3.out).mono ?_); rintro r w5 ⟨vs, rfl, hows, hbs⟩))
        have hFB : FB w.heap.size w seed T X vs (.slice none 0 0) (kys X.ents) [] 300 0 w5 := ⟨hO.out.1.after hbs, hO.out.2, hT.out, by have := hC.out; omega, hows.base hO.out.1.live.le, rowT_nil _ _, (fun k hk hm => by have := (hows.lt k hk).1; have := hO.out.1.live.here.lt hm; omega), (fun k hk => by cases hk), (fun k _ hh => by cases hh), Nat.le_refl 0, by rw [kys_len, ← hO.out.1.inv.cnt]; exact hO.out.1.inv.good.ct, onB hB.out hbs hB.out.size⟩
        have hFBH := Lib.hid hFB
        have hs16 := Lib.hid ((shape hO.out.1.inv hO.out.2).2.1)
        clear hows hbs hFB hk hlt hC hB hT
        go_wp2_with fail
        go_loopw [10, 11, 12, 42] (fun s10 s11 s12 s42 wr => ∃ (n cu : Nat) (Y : Tb) (vs vt : Value) (S Td : List ByteArray), s42 = .int .i64 n ∧ s12 = .int .u64 cu ∧ vs = s10 ∧ vt = s11 ∧ cu < 65536 ∧ Hid (FB w.heap.size w seed T Y vs vt S Td (300 + min n l2.length) (3000000 * n) wr) ∧ Hid (∀ k ∈ S, k ∈ kys Y.ents) ∧ Hid (ToldTo seed S Td (pos (tS Y) cu)) ∧ Hid (Left l2.length n (tS Y) cu)) (fun _ _ _ s42 _ => 100000 - (intOf s42).toNat)
        case atStart => exact ⟨0, 0, X, _, _, kys X.ents, [], rfl, rfl, rfl, rfl, by omega, Lib.hid (by rw [show 300 + min 0 l2.length = 300 by omega, Nat.mul_zero]; exact hFBH.out), Lib.hid (fun k hk => hk), Lib.hid (fun k _ hr => by rw [pos_zero] at hr; omega), Lib.hid (fun _ => by have := pow_le16 hs16.out; omega)⟩
        case round =>
          obtain ⟨n, cu, Y, vs2, vt, S, Td, rfl, rfl, rfl, rfl, hcu, hF, hmem, hto, hle⟩ := hrel
          have hnb := left_lt hle.out hll2
          have htu := turn_at hF.out.ok hF.out.par cu (by omega)
          rw [hF.out.tab.1, show kys (tL Y cu) = tK Y cu from rfl] at htu
          have htuH := Lib.hid htu
          clear htu
          have hI := Lib.hid hF.out.ok.inv
          have hP := Lib.hid hF.out.par
          have hl0 := hF.out.ok.live.le
          have hkl : (kys Y.ents).length ≤ 1000000 := by rw [kys_len, ← hI.out.cnt]; exact hI.out.good.ct
          have hQl := tK_len hI.out hP.out cu
          have hQK : Hid (∀ k ∈ tK Y cu, k ∈ kys Y.ents) := Lib.hid fun k hk => ((tK_mem hI.out hP.out cu k).1 hk).1
          have hts16 := Lib.hid ((shape hI.out hP.out).2.1)
          have htt := told_turn hI.out hP.out hmem.out (c := cu) (by rw [hF.out.tab.2]; exact hto.out)
          rw [hF.out.tab.2] at htt
          have httH := Lib.hid htt
          have hnl := Lib.hid (nxt_lt (tS Y) cu)
          have hlt1 := Lib.hid (fun (hn : l2.length ≤ n) (h0 : nxt (tS Y) cu ≠ 0) => left_turn hle.out hn h0)
          clear htt hto hle
          generalize hQ : tK Y cu = Q at *
          generalize hnn : nxt (tS Y) cu = nx at *
          generalize hK : kys Y.ents = K at *
          have hKH := Lib.hid hK
          clear hQ hnn hK
          have hd0 : decide ((n : Int) < 100000) = true := by simp; omega
          have hnbH := Lib.hid hnb
          clear hnb
          go_upto_region 17 with (first
            | (go_at_call 13; ((with_reducible refine (htuH.out).mono ?_); rintro e w1 ⟨v1, rfl, how1, hb1⟩; obtain ⟨A1, c1, hv1⟩ := how1.len; subst hv1; have hks1 := keysT_at (hF.out.ok.after hb1); rw [hF.out.tab.1, hKH.out] at hks1; have how1H := Lib.hid how1; have hb1H := Lib.hid hb1; have hks1H := Lib.hid hks1; clear hks1 how1 hb1))
            | (go_at_call 20; ((with_reducible refine (hks1H.out).mono ?_); rintro r w2 ⟨v2, rfl, how2, hb2⟩)))
          have how2H := Lib.hid how2
          have hb12 := Lib.hid (onB hb1H.out hb2 hb1H.out.size)
          have how1K := Lib.hid (how1H.out.stay hb2)
          clear how2 hb2
          go_wp2_with fail
          go_loopw [55] (fun s55 wz => ∃ j : Nat, j ≤ Q.length ∧ s55 = .int .i64 j ∧ Hid (Below w2.heap.size w2 wz)) (fun s55 _ => Q.length - (intOf s55).toNat)
          case atStart => exact ⟨0, by omega, rfl, Lib.hid (Below.refl _ _)⟩
          case round =>
            obtain ⟨j, hj, rfl, hbz⟩ := hrel
            by_cases hjl : j < Q.length
            · obtain ⟨x, hx⟩ : ∃ x, Q[j]? = some x := ⟨_, List.getElem?_eq_getElem hjl⟩
              have hxm := hQK.out x (List.mem_of_getElem? hx)
              obtain ⟨g, c9, heq, _, _, hcell⟩ := (how1K.out.on (s := w2.heap.size) hbz.out (fun k hk => (how1K.out.lt k hk).2)).cell hx
              cases heq
              have hh := has_at (how2H.out.stay hbz.out) x (by omega)
              rw [hasB_mem.2 hxm] at hh
              have hhH := Lib.hid hh
              clear hh hxm hx
              go_wp2_with (go_at_call 21; ((with_reducible refine (hhH.out).mono ?_); rintro r w7 ⟨rfl, ho7⟩; have ho7H := Lib.hid ho7; clear ho7))
              go_roundw
              case rel => exact ⟨j + 1, by omega, by go_num, Lib.hid (hbz.out.trans (ho7H.out.below (by have := hbz.out.size; omega) (by simp)))⟩
              case measure => simp [intOf]; omega
            · have hje : j = Q.length := by omega
              subst hje
              have hFz := Lib.hid (hF.out.after (onB hb12.out hbz.out hb12.out.size) hl0)
              have how1Z := Lib.hid (how1K.out.on (s := w2.heap.size) hbz.out (fun k hk => (how1K.out.lt k hk).2))
              have hlenz := Lib.hid (show Td.length + Q.length ≤ 8000000000000 by have := hF.out.len; have := hnbH.out; omega)
              go_upto_region 24 with (at_builtin; refine wpList_append_rowT rfl (.tmp 64) (.tmp 65) rfl w.heap.size _ vt _ _ _ rfl rfl hFz.out.rt how1Z.out hlenz.out hFz.out.ok.live.le ?happ)
              case happ =>
                intro v3 w3 how3 ho3 hv3
                have hF3 := Lib.hid (hFz.out.app how3 ho3 hv3 hQl hFz.out.ok.live.le)
                clear how3 ho3 hv3 hlenz how1Z hFz
                rcases httH.out with ⟨hz', hall⟩ | ⟨hnz, hto⟩
                · subst hz'
                  have hallH := Lib.hid hall
                  clear hall
                  go_upto_region 31 with fail
                  have hFe := hF3.out
                  obtain ⟨A5, c5, hv5⟩ := hFe.rs.len
                  have hTl : (Td ++ Q).length ≤ 1000000000000000 := by have := hFe.len; have := hnbH.out; omega
                  have hrt3 := Lib.hid hFe.rt
                  have hrs3 := Lib.hid hFe.rs
                  have hbe3 := Lib.hid hFe.below
                  have hlS := hFe.lenS
                  rw [hv5] at hrs3
                  subst hv5
                  clear hFe
                  go_wp2_with fail
                  go_loopw [96] (fun s96 wz => ∃ j : Nat, j ≤ S.length ∧ s96 = .int .i64 j ∧ Hid (Below w3.heap.size w3 wz)) (fun s96 _ => S.length - (intOf s96).toNat)
                  case atStart => exact ⟨0, by omega, rfl, Lib.hid (Below.refl _ _)⟩
                  case round =>
                    obtain ⟨j, hj, rfl, hbz⟩ := hrel
                    by_cases hjl : j < S.length
                    · obtain ⟨x, hx⟩ : ∃ x, S[j]? = some x := ⟨_, List.getElem?_eq_getElem hjl⟩
                      have hxm := hallH.out x (List.mem_of_getElem? hx)
                      obtain ⟨g, c9, heq, _, _, hcell⟩ := (hrs3.out.stay hbz.out).cell hx
                      cases heq
                      have hh := has_at (hrt3.out.stay hbz.out) x hTl
                      rw [hasB_mem.2 hxm] at hh
                      have hhH := Lib.hid hh
                      clear hh hxm hx
                      go_wp2_with (go_at_call 21; ((with_reducible refine (hhH.out).mono ?_); rintro r w7 ⟨rfl, ho7⟩; have ho7H := Lib.hid ho7; clear ho7))
                      go_roundw
                      case rel => exact ⟨j + 1, by omega, by go_num, Lib.hid (hbz.out.trans (ho7H.out.below (by have := hbz.out.size; omega) (by simp)))⟩
                      case measure => simp [intOf]; omega
                    · have hje : j = S.length := by omega
                      subst hje
                      have hbe := onB hbe3.out hbz.out hbe3.out.size
                      have halH := Lib.hid (hal.out _ hbe)
                      have hbeH := Lib.hid hbe
                      clear hbe
                      go_wp2_with (go_at_call 8; ((with_reducible refine (halH.out).mono ?_); rintro e w9 ⟨rfl, hb9⟩))
                      go_ret
                      exact ⟨rfl, onB hbeH.out hb9 hbeH.out.size⟩
                · have hcz1 : ((nx : Int) == 0) = false := by simp; omega
                  have hcz2 : decide ((nx : Int) = 0) = false := by simp; omega
                  have htoH := Lib.hid hto
                  clear hto
                  go_upto_region 26 with fail
                  by_cases hnl2 : n < l2.length
                  · obtain ⟨x, hx⟩ : ∃ x, l2[n]? = some x := ⟨_, List.getElem?_eq_getElem hnl2⟩
                    obtain ⟨a2, rfl, ha2, y1, y2, y3⟩ := hr2H.out.on hF3.out.below n x hx
                    have hcell2 : Hid (∀ w4, Below w.heap.size w w4 → w4.cell? (a2.add (n * 3)) = some (.int .i64 x.1) ∧ w4.cell? ⟨(a2.add (n * 3)).block, (a2.add (n * 3)).off + 1, none⟩ = some (.string x.2.1)) := Lib.hid fun w4 hb => by
                      obtain ⟨a3, heq, _, z1, z2, _⟩ := hr2H.out.on hb n x hx
                      cases heq
                      exact ⟨z1, z2⟩
                    have hxs := Lib.hid (hks2H.out x (List.mem_of_getElem? hx))
                    have hxr := Lib.hid (hrg2H.out x (List.mem_of_getElem? hx))
                    have hnl2H := Lib.hid hnl2
                    obtain ⟨kd, ok, ov⟩ := x
                    simp only at y1 y2 y3 hxs hxr hcell2
                    clear hx
                    have hdo : Hid (Calls Tryd.prog 11 #[.pointer (some ⟨T, 0, none⟩), .agg #[.int .i64 kd, .string ok, .int .i64 ov]] w3 fun r w' => ∃ G, r = .returned (.tuple #[]) ∧ Did w.heap.size Y G kd ok ov w3 w') := Lib.hid (by
                      have h := does_at hF3.out.ok hF3.out.par kd ok ov (by have := hxs.out; omega) hxr.out (by have := hF3.out.cnt; have := hnl2H.out; omega)
                      rw [hF3.out.tab.1] at h
                      exact h)
                    go_upto_region 28 with (go_at_call 11; ((with_reducible refine (hdo.out).mono ?_); rintro r w4 ⟨G, rfl, hG⟩))
                    have hF4 := Lib.hid (hF3.out.did hG)
                    obtain ⟨z1, z2⟩ := hcell2.out w4 hF4.out.below
                    have hGH := Lib.hid hG
                    have hgs := Lib.hid ((shape hG.ok.inv hG.par).2.1)
                    have hmem4 : Hid (∀ k ∈ S, (kd = 1 → ok ≠ k) → k ∈ kys G.ents) := Lib.hid fun k hk hno => hGH.out.view (by rw [hKH.out]; exact hmem.out k hk) hno
                    have hto4 := Lib.hid (told_change hts16.out hgs.out hnl.out htoH.out)
                    have hmin : Hid (300 + min n l2.length + 1 = 300 + min (n + 1) l2.length) := Lib.hid (by have := hnl2H.out; omega)
                    have hmul : Hid (3000000 * n + 3000000 = 3000000 * (n + 1)) := Lib.hid (by omega)
                    have hnx6 : Hid (nx < 65536) := Lib.hid (by have := hnl.out; have := pow_le16 hts16.out; omega)
                    clear hG y1 y2 y3
                    by_cases hk1 : kd = 1
                    · subst hk1
                      have hwo := Lib.hid (without_at hF4.out.rs ok hF4.out.lenS)
                      go_wp2_with (go_at_call 22; ((with_reducible refine (hwo.out).mono ?_); rintro r w5 ⟨v5, rfl, how5, hb5⟩; have hF5 := Lib.hid (hF4.out.less how5 hb5 (outB_len _ _) hF4.out.ok.live.le); clear how5 hb5))
                      have hnb := hnbH.out
                      go_roundw
                      case rel => exact ⟨n + 1, nx, G, _, _, outB S ok, Td ++ Q, by go_num, rfl, rfl, rfl, hnx6.out, Lib.hid (by rw [← hmin.out, ← hmul.out]; exact hF5.out), Lib.hid (fun k hk => hmem4.out k (outB_mem.1 hk).1 (fun _ => (outB_mem.1 hk).2)), Lib.hid (fun k hk hr => hto4.out k (outB_mem.1 hk).1 hr), Lib.hid (left_op hgs.out hnl2H.out)⟩
                      case measure => simp [intOf]; omega
                    · have hz2 : (kd == 1) = false := by simpa using hk1
                      have hz3 : decide (kd = 1) = false := by simpa using hk1
                      have hnb := hnbH.out
                      go_wp2_with fail
                      go_roundw
                      case rel => exact ⟨n + 1, nx, G, _, _, S, Td ++ Q, by go_num, rfl, rfl, rfl, hnx6.out, Lib.hid (by rw [← hmin.out, ← hmul.out]; exact hF4.out), Lib.hid (fun k hk => hmem4.out k hk (fun hh => absurd hh hk1)), hto4, Lib.hid (left_op hgs.out hnl2H.out)⟩
                      case measure => simp [intOf]; omega
                  · have hmin : Hid (300 + min n l2.length = 300 + min (n + 1) l2.length) := Lib.hid (by omega)
                    have hmul : Hid (3000000 * n + 3000000 = 3000000 * (n + 1)) := Lib.hid (by omega)
                    have hnx6 : Hid (nx < 65536) := Lib.hid (by have := hnl.out; have := pow_le16 hts16.out; omega)
                    have hlf := Lib.hid (hlt1.out (by omega) hnz)
                    have hnb := hnbH.out
                    go_wp2_with fail
                    go_roundw
                    case rel => exact ⟨n + 1, nx, Y, _, _, S, Td ++ Q, by go_num, rfl, rfl, rfl, hnx6.out, Lib.hid (by rw [← hmin.out, ← hmul.out]; exact hF3.out), Lib.hid (fun k hk => by rw [hKH.out]; exact hmem.out k hk), htoH, hlf⟩
                    case measure => simp [intOf]; omega

end Go.Proofs.YtdldgiicblmknaaDoor
