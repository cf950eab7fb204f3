/-
  The walk of Drop. The table of factors holds what the program's text lays; a table's shape.
-/
import Derived.Test.YtdldgiicblmknaaDoorHR
namespace Go.Proofs.YtdldgiicblmknaaDoor
open Go.RowKit

/-- What a table is behind a key that went, the table being Y ahead of it. -/
structure Went (Y G : Tb) (key : ByteArray) : Prop where
  ents : ∃ e, e.2.1 = key ∧ Y.ents.Perm (e :: G.ents)
  count : G.count + 1 = Y.count
  old : G.old.length = Y.old.length
  new : (G.new.length = Y.new.length ∧ G.moved = Y.moved) ∨ (Y.new = [] ∧ 2 * G.new.length = Y.old.length ∧ G.moved = 0)
  ex : ∃ G1, GoneX Y G1 key ∧ G.old = G1.old ∧ (G.new = G1.new ∨ (Y.new = [] ∧ G.new = List.replicate G.new.length []))
/-- What Drop makes of a table. -/
structure DropRes (B : Nat) (X G : Tb) (key : ByteArray) (gone : Bool) (w w' : World) : Prop where
  ok : Ok B G w'
  only : Only X.blocks w w'
  same : G.T = X.T ∧ G.seed = X.seed
  blk : ∀ x ∈ G.blocks, x ∈ X.blocks ∨ w.heap.size ≤ x
  how : ∃ Y m, Steps X Y m ∧ m = min 1 (rem X) ∧ ((gone = false ∧ G = Y ∧ (∀ e ∈ Y.ents, e.2.1 ≠ key)) ∨ (gone = true ∧ Went Y G key))
theorem gone_inv {X G : Tb} {key : ByteArray} (h : Inv X) (hg : Gone X G key) : Inv { G with count := X.count - 1 } ∧ 0 < X.count := by
  obtain ⟨e, _, hp⟩ := hg.ents
  have hl := hp.length_eq
  have hc := h.cnt
  simp only [List.length_cons] at hl
  have hct := h.good.ct
  refine ⟨⟨⟨hg.good.seed, hg.good.s0, hg.good.s1, hg.good.mv, hg.good.ks, by show X.count - 1 ≤ 1000000; omega⟩, hg.emp, ?_, hg.nd, hg.pl0, hg.pl1, hg.ext⟩, by omega⟩
  show X.count - 1 = G.ents.length
  omega

set_option maxHeartbeats 4000000 in
theorem drop_any {B : Nat} {X : Tb} {w : World} (h : Ok B X w) (key : ByteArray) (hk : key.size ≤ 1000) :
    Calls Tryd.prog 25 #[.pointer (some ⟨X.T, 0, none⟩), .string key] w fun r w' => ∃ (G : Tb) (gone : Bool), r = .returned (.bool gone) ∧ DropRes B X G key gone w w' := by
  have hst := Lib.hid (steps_any h 1 ⟨by omega, by omega⟩)
  have hX := Lib.hid h
  clear h
  go_enter Tryd.func25, Tryd.ntmps25
  go_upto_region 4 with (go_at_call 26; ((with_reducible refine (hst.out).mono ?_); rintro r w1 ⟨m, Y, rfl, hm, hS, hY, ho1⟩))
  have hT : Y.T = X.T := hS.T.1
  have htab := hY.live.here.tab
  obtain ⟨c0, c1, c2, c3, c4, _⟩ := tab_facts htab
  have hof := of_key Y.seed key hY.inv.good.seed hk w1 hY.live.fac
  have hfi := find_ok hY key
  rw [hT] at c0 c1 c2 c3 c4 hfi
  have hoH := Lib.hid ho1
  have hSH := Lib.hid hS
  have hYH := Lib.hid hY
  have hmH := Lib.hid hm
  have hofH := Lib.hid hof
  have hTH := Lib.hid hT
  clear ho1 hS hY hof htab hst hm hT
  cases hf : fndT key (num Y.seed key) (adr Y.p0) (adr Y.p1) Y.old Y.new with
  | none =>
    rw [hf] at hfi
    have hno := Lib.hid (find_none hYH.out.live.here hYH.out.inv hf)
    have hfiH := Lib.hid hfi
    clear hfi hf
    generalize num Y.seed key = nn at *
    go_wp2_with (first
      | (go_at_call 42; ((with_reducible refine (hofH.out).mono ?_); rintro e w' ⟨rfl, rfl⟩))
      | (go_at_call 43; ((with_reducible refine (hfiH.out).mono ?_); rintro e w' ⟨rfl, rfl⟩)))
    go_ret
    exact ⟨Y, false, rfl, hYH.out, hoH.out, ⟨hSH.out.T.1, hSH.out.T.2.1⟩, fun x hx => Or.inl (hSH.out.blk x hx), Y, m, hSH.out, hmH.out, Or.inl ⟨rfl, rfl, hno.out⟩⟩
  | some a =>
    rw [hf] at hfi
    obtain ⟨e, q, ha, hfz, hq, G, hG1, hG2, hG3⟩ := find_drop hYH.out.live.here hYH.out.inv hf
    obtain ⟨e0, e1, e2, f0, f1, f2⟩ := entry_facts hq
    have hfiH := Lib.hid hfi
    have hGT : G.T = X.T := hG3.same.1.trans hTH.out
    have htb := hG1.tab
    rw [hGT] at htb
    have htbH := Lib.hid htb
    have hcntH := Lib.hid (show G.count = Y.count from hG3.len.2.2.2)
    obtain ⟨hinv, hpos⟩ := gone_inv hYH.out.inv hG3
    have hG1H := Lib.hid hG1
    have hG2H := Lib.hid hG2
    have hG3H := Lib.hid hG3
    have hinvH := Lib.hid hinv
    clear hfi hf hq hG1 hG2 hG3 hinv htb
    generalize num Y.seed key = nn at *
    go_upto_region 8 with (first
      | (go_at_call 42; ((with_reducible refine (hofH.out).mono ?_); rintro e w' ⟨rfl, rfl⟩))
      | (go_at_call 43; ((with_reducible refine (hfiH.out).mono ?_); rintro e w' ⟨rfl, rfl⟩)))
    generalize w1.setCell a (.pointer q) = w2 at *
    clear c0 c1 c2 c3 c4 e0 e1 e2 f0 f1 f2 ha hfz
    obtain ⟨c0, c1, c2, c3, c4, f0, f1, f2, f3, f4⟩ := tab_facts htbH.out
    have hcb : G.count ≤ 1000000 := by rw [hcntH.out]; exact hYH.out.inv.good.ct
    have hcp : 0 < G.count := by rw [hcntH.out]; exact hpos
    have hG5 : Here { G with count := Y.count - 1 } (w2.setCell ⟨X.T, 4, none⟩ (.int .i64 ((G.count : Int) - 1))) := by
      have ht5 := tab_set4 htbH.out (Y.count - 1)
      exact re_head hG1H.out G.moved (Y.count - 1) (w' := w2.setCell ⟨X.T, 4, none⟩ (.int .i64 ((G.count : Int) - 1))) ((Only.refl _ w2).set (Or.inl (by simp [hGT])) _) (by have hcnt := hcntH.out; unfold TabC at ht5; rw [hGT, show ((G.count : Int) - 1) = ((Y.count - 1 : Nat) : Int) by omega, ht5]; simp [Tb.head])
    have hYT : Y.T ∈ Y.blocks := by simp [Tb.blocks]
    have hon5 : Only Y.blocks w1 (w2.setCell ⟨X.T, 4, none⟩ (.int .i64 ((G.count : Int) - 1))) := hG2H.out.set (Or.inl (by rw [← hTH.out]; exact hYT)) _
    have hok5 : Ok B { G with count := Y.count - 1 } (w2.setCell ⟨X.T, 4, none⟩ (.int .i64 ((G.count : Int) - 1))) := hYH.out.next hon5 hG5 hinvH.out (fun x hx => Or.inl (hG3H.out.blk x hx))
    obtain ⟨G2, hG2d⟩ : ∃ G2 : Tb, G2 = { G with count := Y.count - 1 } := ⟨_, rfl⟩
    rw [← hG2d] at hok5
    have hT2 : G2.T = X.T := by rw [hG2d]; exact hGT
    have hgr := shrink_ok hok5
    rw [hT2] at hgr
    have hT2H := Lib.hid hT2
    have hG2dH := Lib.hid hG2d
    have hgrH := Lib.hid hgr
    have hon5H := Lib.hid hon5
    clear hgr hok5 hon5 hG5 hYT hpos hT2 hG2d
    go_upto_region 10 with (go_at_call 47; ((with_reducible refine (hgrH.out).mono ?_); rintro r w6 ⟨rfl, F, hF, hhow⟩))
    have hFH := Lib.hid hF
    have hhowH := Lib.hid hhow
    have hcpH := Lib.hid hcp
    have hGTH := Lib.hid hGT
    clear hF hhow hcp hGT
    go_wp2_with fail
    go_ret
    have hF := hFH.out
    have hg := hG3H.out
    have hGT := hGTH.out
    have hs1 := hoH.out.size
    have hs5 := hon5H.out.size
    have hcp := hcpH.out
    have hcnt := hcntH.out
    have hXT : X.T ∈ X.blocks := by simp [Tb.blocks]
    have hYX : ∀ x ∈ Y.blocks, x ∈ X.blocks ∨ w.heap.size ≤ x := fun x hx => Or.inl (hSH.out.blk x hx)
    have hd := hG2dH.out
    have hT2 := hT2H.out
    have hsd : G2.seed = X.seed := by rw [hd]; exact hg.same.2.trans hSH.out.T.2.1
    have hbl : ∀ x ∈ G2.blocks, x ∈ Y.blocks := by rw [hd]; exact hg.blk
    have hen : G2.ents = G.ents := by rw [hd]; rfl
    have hct2 : G2.count = Y.count - 1 := by rw [hd]
    have hol : G2.old = G.old := by rw [hd]
    have hnw : G2.new = G.new := by rw [hd]
    have hmv : G2.moved = G.moved := by rw [hd]
    refine ⟨F, true, rfl, hF.ok, ?_, ⟨hF.same.1.trans hT2, hF.same.2.1.trans hsd⟩, fun x hx => (hF.blk x hx).elim (fun h1 => hYX x (hbl x h1)) (fun h1 => Or.inr (by omega)), Y, m, hSH.out, hmH.out, Or.inr ⟨rfl, ?_⟩⟩
    · refine (hoH.out.trans hon5H.out hYX).trans hF.only (fun x hx => ?_)
      simp at hx; rw [hx, hT2]; exact Or.inl hXT
    · obtain ⟨e', hk', hp'⟩ := hg.ents
      refine ⟨⟨e', hk', by rw [hF.ents, hen]; exact hp'⟩, by rw [hF.same.2.2.1, hct2]; omega, by rw [hF.same.2.2.2, hol]; exact hg.len.1, ?_, G, hg.ex, by rw [hF.same.2.2.2, hol], ?_⟩
      rotate_left
      · rcases hhowH.out with h1 | ⟨h1, _, _, h4⟩
        · exact Or.inl (by rw [h1, hnw])
        · rw [hnw] at h1
          exact Or.inr ⟨List.length_eq_zero_iff.1 (by rw [← hg.len.2.1, h1]; rfl), h4⟩
      rcases hhowH.out with h1 | ⟨h1, h2, h3, _⟩
      · exact Or.inl ⟨by rw [h1, hnw]; exact hg.len.2.1, by rw [h1, hmv]; exact hg.len.2.2.1⟩
      · rw [hnw] at h1
        have hy : Y.new = [] := List.length_eq_zero_iff.1 (by rw [← hg.len.2.1, h1]; rfl)
        exact Or.inr ⟨hy, by rw [h2, hol]; exact hg.len.1, h3⟩

end Go.Proofs.YtdldgiicblmknaaDoor
