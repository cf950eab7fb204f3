/-
  The walk of Drop once more: it tells when a table is parted, too. The table of factors holds what the program's text lays; a table's shape.
-/
import Derived.Test.YtdldgiicblmknaaDoorSM
import Derived.Test.YtdldgiicblmknaaDoorZE
import Derived.Test.YtdldgiicblmknaaDoorZG

namespace Go.Proofs.YtdldgiicblmknaaDoor
open Go.RowKit

/-- What decides whether a table that a key left is parted. -/
def Sparse (Y : Tb) (n : Nat) : Prop := Y.new = [] ∧ 4 < Y.old.length ∧ 8 * n < Y.old.length
theorem shrink_ok2 {B : Nat} {Z : Tb} {w : World} (h : Ok B Z w) :
    Calls Tryd.prog 47 #[.pointer (some ⟨Z.T, 0, none⟩)] w fun r w' => r = .returned (.tuple #[]) ∧ ∃ G, Kept B Z G w w' ∧
      ((G = Z ∧ ¬Sparse Z Z.count) ∨ (Sparse Z Z.count ∧ Z.new = [] ∧ 2 * G.new.length = Z.old.length ∧ G.moved = 0 ∧ G.new = List.replicate G.new.length [])) := by
  obtain ⟨k, hk⟩ := h.inv.good.s0
  have htab := h.live.here.tab
  have hct := h.inv.good.ct
  by_cases hn : Z.new = []
  · by_cases h1 : 2 < k
    · have hl0 : Z.old.length ≠ 0 := by
        rcases hk with ⟨_, h2⟩ | ⟨_, _, h3⟩
        · omega
        · have := pw_pos k; omega
      have ho : Z.old ≠ [] := fun hh => hl0 (by rw [hh]; rfl)
      obtain ⟨hpk, hk2, hk16⟩ := hk.len2 hl0
      by_cases h2 : 8 * Z.count < Z.old.length
      · rw [h.live.here.p1.2 hn, hn] at htab
        refine (shrink_yes w htab hk hct h2 h1).mono ?_
        rintro r w' ⟨rfl, hon, ht, hpl, hlt⟩
        have hps := pw_succ (k - 1)
        rw [show k - 1 + 1 = k by omega] at hps
        exact ⟨rfl, _, kept_part h hn ho (k - 1) (by omega) (by omega) hon ht hpl, Or.inr ⟨⟨hn, by rw [hpk]; exact Nat.lt_of_le_of_lt (show 4 ≤ pw 2 by decide) (Nat.pow_lt_pow_right (by decide) h1), h2⟩, hn, by simp [hpk, hps], rfl, by simp⟩⟩
      · refine (shrink_no w htab hk hct (Or.inr (Or.inr ⟨by rw [hn]; rfl, h1, h2⟩))).mono ?_
        rintro r w' ⟨rfl, n, rfl⟩
        exact ⟨rfl, Z, kept_drew h n, Or.inl ⟨rfl, fun hh => h2 hh.2.2⟩⟩
    · refine (shrink_no w htab hk hct (Or.inr (Or.inl ⟨by rw [hn]; rfl, h1⟩))).mono ?_
      rintro r w' ⟨rfl, n, rfl⟩
      exact ⟨rfl, Z, kept_drew h n, Or.inl ⟨rfl, fun hh => by
        have h4 := hh.2.1
        rcases hk with ⟨q1, q2⟩ | ⟨q1, q2, q3⟩
        · omega
        · have hk3 : k = 2 := by omega
          rw [q3, hk3] at h4
          exact absurd h4 (by decide)⟩⟩
  · refine (shrink_no w htab hk hct (Or.inl (List.length_pos_iff.2 hn))).mono ?_
    rintro r w' ⟨rfl, n, rfl⟩
    exact ⟨rfl, Z, kept_drew h n, Or.inl ⟨rfl, fun hh => hn hh.1⟩⟩

/-- What a table is behind a key that went, the table being Y ahead of it. -/
structure Went2 (Y G : Tb) (key : ByteArray) : Prop where
  ents : ∃ e, e.2.1 = key ∧ Y.ents.Perm (e :: G.ents)
  count : G.count + 1 = Y.count
  old : G.old.length = Y.old.length
  new : (G.new.length = Y.new.length ∧ G.moved = Y.moved) ∨ (Y.new = [] ∧ 2 * G.new.length = Y.old.length ∧ G.moved = 0)
  cond : (G.new.length = Y.new.length ∧ G.moved = Y.moved ∧ ¬Sparse Y G.count) ∨ (Sparse Y G.count ∧ 2 * G.new.length = Y.old.length ∧ G.moved = 0 ∧ G.new = List.replicate G.new.length [])
  ex : ∃ G1, GoneX Y G1 key ∧ G.old = G1.old ∧ (G.new = G1.new ∨ (Y.new = [] ∧ G.new = List.replicate G.new.length []))
/-- What Drop makes of a table. -/
structure DropRes2 (B : Nat) (X G : Tb) (key : ByteArray) (gone : Bool) (w w' : World) : Prop where
  ok : Ok B G w'
  only : Only X.blocks w w'
  same : G.T = X.T ∧ G.seed = X.seed
  blk : ∀ x ∈ G.blocks, x ∈ X.blocks ∨ w.heap.size ≤ x
  how : ∃ Y m, Steps X Y m ∧ m = min 1 (rem X) ∧ ((gone = false ∧ G = Y ∧ (∀ e ∈ Y.ents, e.2.1 ≠ key)) ∨ (gone = true ∧ Went2 Y G key))
theorem gone_inv2 {X G : Tb} {key : ByteArray} (h : Inv X) (hg : Gone X G key) : Inv { G with count := X.count - 1 } ∧ 0 < X.count := by
  obtain ⟨e, _, hp⟩ := hg.ents
  have hl := hp.length_eq
  have hc := h.cnt
  simp only [List.length_cons] at hl
  have hct := h.good.ct
  refine ⟨⟨⟨hg.good.seed, hg.good.s0, hg.good.s1, hg.good.mv, hg.good.ks, by show X.count - 1 ≤ 1000000; omega⟩, hg.emp, ?_, hg.nd, hg.pl0, hg.pl1, hg.ext⟩, by omega⟩
  show X.count - 1 = G.ents.length
  omega

set_option maxHeartbeats 4000000 in
theorem drop_any2 {B : Nat} {X : Tb} {w : World} (h : Ok B X w) (key : ByteArray) (hk : key.size ≤ 1000) :
    Calls Tryd.prog 25 #[.pointer (some ⟨X.T, 0, none⟩), .string key] w fun r w' => ∃ (G : Tb) (gone : Bool), r = .returned (.bool gone) ∧ DropRes2 B X G key gone w w' := by
  have hst := Lib.hid (steps_any h 1 ⟨by omega, by omega⟩)
  have hX := Lib.hid h
  clear h
  go_enter Tryd.func25, Tryd.ntmps25
  go_upto_region 4 with (go_at_call 26; ((with_reducible refine (hst.out).mono ?_); rintro r w1 ⟨m, Y, rfl, hm, hS, hY, ho1⟩))
  have hT : Y.T = X.T := hS.T.1
  have htab := hY.live.here.tab
  obtain ⟨c0, c1, c2, c3, c4, _⟩ := tab_facts htab
  have hof := of_key Y.seed key hY.inv.good.seed hk w1 hY.live.fac
  have hfi := find_ok hY key
  rw [hT] at c0 c1 c2 c3 c4 hfi
  have hoH := Lib.hid ho1
  have hSH := Lib.hid hS
  have hYH := Lib.hid hY
  have hmH := Lib.hid hm
  have hofH := Lib.hid hof
  have hTH := Lib.hid hT
  clear ho1 hS hY hof htab hst hm hT
  cases hf : fndT key (num Y.seed key) (adr Y.p0) (adr Y.p1) Y.old Y.new with
  | none =>
    rw [hf] at hfi
    have hno := Lib.hid (find_none hYH.out.live.here hYH.out.inv hf)
    have hfiH := Lib.hid hfi
    clear hfi hf
    generalize num Y.seed key = nn at *
    go_wp2_with (first
      | (go_at_call 42; ((with_reducible refine (hofH.out).mono ?_); rintro e w' ⟨rfl, rfl⟩))
      | (go_at_call 43; ((with_reducible refine (hfiH.out).mono ?_); rintro e w' ⟨rfl, rfl⟩)))
    go_ret
    exact ⟨Y, false, rfl, hYH.out, hoH.out, ⟨hSH.out.T.1, hSH.out.T.2.1⟩, fun x hx => Or.inl (hSH.out.blk x hx), Y, m, hSH.out, hmH.out, Or.inl ⟨rfl, rfl, hno.out⟩⟩
  | some a =>
    rw [hf] at hfi
    obtain ⟨e, q, ha, hfz, hq, G, hG1, hG2, hG3⟩ := find_drop hYH.out.live.here hYH.out.inv hf
    obtain ⟨e0, e1, e2, f0, f1, f2⟩ := entry_facts hq
    have hfiH := Lib.hid hfi
    have hGT : G.T = X.T := hG3.same.1.trans hTH.out
    have htb := hG1.tab
    rw [hGT] at htb
    have htbH := Lib.hid htb
    have hcntH := Lib.hid (show G.count = Y.count from hG3.len.2.2.2)
    obtain ⟨hinv, hpos⟩ := gone_inv2 hYH.out.inv hG3
    have hG1H := Lib.hid hG1
    have hG2H := Lib.hid hG2
    have hG3H := Lib.hid hG3
    have hinvH := Lib.hid hinv
    clear hfi hf hq hG1 hG2 hG3 hinv htb
    generalize num Y.seed key = nn at *
    go_upto_region 8 with (first
      | (go_at_call 42; ((with_reducible refine (hofH.out).mono ?_); rintro e w' ⟨rfl, rfl⟩))
      | (go_at_call 43; ((with_reducible refine (hfiH.out).mono ?_); rintro e w' ⟨rfl, rfl⟩)))
    generalize w1.setCell a (.pointer q) = w2 at *
    clear c0 c1 c2 c3 c4 e0 e1 e2 f0 f1 f2 ha hfz
    obtain ⟨c0, c1, c2, c3, c4, f0, f1, f2, f3, f4⟩ := tab_facts htbH.out
    have hcb : G.count ≤ 1000000 := by rw [hcntH.out]; exact hYH.out.inv.good.ct
    have hcp : 0 < G.count := by rw [hcntH.out]; exact hpos
    have hG5 : Here { G with count := Y.count - 1 } (w2.setCell ⟨X.T, 4, none⟩ (.int .i64 ((G.count : Int) - 1))) := by
      have ht5 := tab_set4 htbH.out (Y.count - 1)
      exact re_head hG1H.out G.moved (Y.count - 1) (w' := w2.setCell ⟨X.T, 4, none⟩ (.int .i64 ((G.count : Int) - 1))) ((Only.refl _ w2).set (Or.inl (by simp [hGT])) _) (by have hcnt := hcntH.out; unfold TabC at ht5; rw [hGT, show ((G.count : Int) - 1) = ((Y.count - 1 : Nat) : Int) by omega, ht5]; simp [Tb.head])
    have hYT : Y.T ∈ Y.blocks := by simp [Tb.blocks]
    have hon5 : Only Y.blocks w1 (w2.setCell ⟨X.T, 4, none⟩ (.int .i64 ((G.count : Int) - 1))) := hG2H.out.set (Or.inl (by rw [← hTH.out]; exact hYT)) _
    have hok5 : Ok B { G with count := Y.count - 1 } (w2.setCell ⟨X.T, 4, none⟩ (.int .i64 ((G.count : Int) - 1))) := hYH.out.next hon5 hG5 hinvH.out (fun x hx => Or.inl (hG3H.out.blk x hx))
    obtain ⟨G2, hG2d⟩ : ∃ G2 : Tb, G2 = { G with count := Y.count - 1 } := ⟨_, rfl⟩
    rw [← hG2d] at hok5
    have hT2 : G2.T = X.T := by rw [hG2d]; exact hGT
    have hgr := shrink_ok2 hok5
    rw [hT2] at hgr
    have hT2H := Lib.hid hT2
    have hG2dH := Lib.hid hG2d
    have hgrH := Lib.hid hgr
    have hon5H := Lib.hid hon5
    clear hgr hok5 hon5 hG5 hYT hpos hT2 hG2d
    go_upto_region 10 with (go_at_call 47; ((with_reducible refine (hgrH.out).mono ?_); rintro r w6 ⟨rfl, F, hF, hhow⟩))
    have hFH := Lib.hid hF
    have hhowH := Lib.hid hhow
    have hcpH := Lib.hid hcp
    have hGTH := Lib.hid hGT
    clear hF hhow hcp hGT
    go_wp2_with fail
    go_ret
    have hF := hFH.out
    have hg := hG3H.out
    have hGT := hGTH.out
    have hs1 := hoH.out.size
    have hs5 := hon5H.out.size
    have hcp := hcpH.out
    have hcnt := hcntH.out
    have hXT : X.T ∈ X.blocks := by simp [Tb.blocks]
    have hYX : ∀ x ∈ Y.blocks, x ∈ X.blocks ∨ w.heap.size ≤ x := fun x hx => Or.inl (hSH.out.blk x hx)
    have hd := hG2dH.out
    have hT2 := hT2H.out
    have hsd : G2.seed = X.seed := by rw [hd]; exact hg.same.2.trans hSH.out.T.2.1
    have hbl : ∀ x ∈ G2.blocks, x ∈ Y.blocks := by rw [hd]; exact hg.blk
    have hen : G2.ents = G.ents := by rw [hd]; rfl
    have hct2 : G2.count = Y.count - 1 := by rw [hd]
    have hol : G2.old = G.old := by rw [hd]
    have hnw : G2.new = G.new := by rw [hd]
    have hmv : G2.moved = G.moved := by rw [hd]
    refine ⟨F, true, rfl, hF.ok, ?_, ⟨hF.same.1.trans hT2, hF.same.2.1.trans hsd⟩, fun x hx => (hF.blk x hx).elim (fun h1 => hYX x (hbl x h1)) (fun h1 => Or.inr (by omega)), Y, m, hSH.out, hmH.out, Or.inr ⟨rfl, ?_⟩⟩
    · refine (hoH.out.trans hon5H.out hYX).trans hF.only (fun x hx => ?_)
      simp at hx; rw [hx, hT2]; exact Or.inl hXT
    · obtain ⟨e', hk', hp'⟩ := hg.ents
      refine ⟨⟨e', hk', by rw [hF.ents, hen]; exact hp'⟩, by rw [hF.same.2.2.1, hct2]; omega, by rw [hF.same.2.2.2, hol]; exact hg.len.1, ?_, ?_, G, hg.ex, by rw [hF.same.2.2.2, hol], ?_⟩
      rotate_left 2
      · rcases hhowH.out with ⟨h1, _⟩ | ⟨_, h1, _, _, h4⟩
        · exact Or.inl (by rw [h1, hnw])
        · rw [hnw] at h1
          exact Or.inr ⟨List.length_eq_zero_iff.1 (by rw [← hg.len.2.1, h1]; rfl), h4⟩
      rotate_left
      · have hY2 : ∀ n, Sparse G2 n ↔ Sparse Y n := fun n => by
          unfold Sparse
          rw [hol, hg.len.1]
          have hyn : G2.new = [] ↔ Y.new = [] := by
            rw [hnw, ← List.length_eq_zero_iff, hg.len.2.1, List.length_eq_zero_iff]
          rw [hyn]
        rcases hhowH.out with ⟨h1, h2⟩ | ⟨h1, h2, h3, h4, h5⟩
        · refine Or.inl ⟨by rw [h1, hnw]; exact hg.len.2.1, by rw [h1, hmv]; exact hg.len.2.2.1, ?_⟩
          rw [hF.same.2.2.1]
          exact fun hh => h2 ((hY2 _).2 hh)
        · refine Or.inr ⟨?_, by rw [h3, hol]; exact hg.len.1, h4, h5⟩
          rw [hF.same.2.2.1]
          exact (hY2 _).1 h1
      rcases hhowH.out with ⟨h1, _⟩ | ⟨_, h1, h2, h3, _⟩
      · exact Or.inl ⟨by rw [h1, hnw]; exact hg.len.2.1, by rw [h1, hmv]; exact hg.len.2.2.1⟩
      · rw [hnw] at h1
        have hy : Y.new = [] := List.length_eq_zero_iff.1 (by rw [← hg.len.2.1, h1]; rfl)
        exact Or.inr ⟨hy, by rw [h2, hol]; exact hg.len.1, h3⟩

theorem Went2.to {Y G : Tb} {key : ByteArray} (h : Went2 Y G key) : Went Y G key := ⟨h.ents, h.count, h.old, h.new, h.ex⟩
theorem DropRes2.to {B : Nat} {X G : Tb} {key : ByteArray} {gone : Bool} {w w' : World} (h : DropRes2 B X G key gone w w') : DropRes B X G key gone w w' :=
  ⟨h.ok, h.only, h.same, h.blk, by obtain ⟨Y, m, h1, h2, h3⟩ := h.how; exact ⟨Y, m, h1, h2, h3.imp id (fun hh => ⟨hh.1, hh.2.to⟩)⟩⟩

set_option maxHeartbeats 2000000 in
theorem does_at2 {B : Nat} {X : Tb} {w : World} (h : Ok B X w) (hP : Par X) (kd : Int) (key : ByteArray) (v : Int) (hk : key.size ≤ 1000) (hv : -9223372036854775808 ≤ v ∧ v ≤ 9223372036854775807) (hc : X.count + 1 ≤ 1000000) :
    Calls Tryd.prog 11 #[.pointer (some ⟨X.T, 0, none⟩), .agg #[.int .i64 kd, .string key, .int .i64 v]] w fun r w' => ∃ G, r = .returned (.tuple #[]) ∧ Did B X G kd key v w w' ∧ (kd = 1 → ∃ gone w1 w2, DropRes2 B X G key gone w1 w2) := by
  by_cases h1 : kd = 1
  · subst h1
    have hH := Lib.hid h
    have hPH := Lib.hid hP
    have hcH := Lib.hid (And.intro hk (And.intro hv hc))
    clear h hP hk hv hc
    have hal : Only [] w (w.alloc (.cells #[.int .i64 1, .string key, .int .i64 v] 34)) := (Only.refl [] w).alloc _
    have hpt := Lib.hid (drop_any2 (hH.out.on hal (by simp) (by simp)) key hcH.out.1)
    have halH := Lib.hid hal
    clear hal
    go_enter Tryd.func11, Tryd.ntmps11
    go_wp2_with (go_at_call 25; ((with_reducible refine (hpt.out).mono ?_); rintro r w4 ⟨G, gone, rfl, hG⟩; have hGH := Lib.hid hG; clear hG))
    go_end0
    exact ⟨G, rfl, did_drop hH.out hPH.out halH.out hGH.out.to, fun _ => ⟨gone, _, _, hGH.out⟩⟩
  · refine (does_at h hP kd key v hk hv hc).mono ?_
    rintro r w' ⟨G, rfl, hd⟩
    exact ⟨G, rfl, hd, fun hh => absurd hh h1⟩

end Go.Proofs.YtdldgiicblmknaaDoor

/-
  What a put, a drop, some steps make of the program's table is what they make of the document's. Mathematics; no condition.
-/
namespace Go.Proofs.YtdldgiicblmknaaDoor
open Go.RowKit

theorem kt_one {X Y : Tb} {m : Nat} (hI : Inv X) (hS : Steps X Y m) (hm : m = min 1 (rem X)) : KX_ Y = stepK (KX_ X) := by
  by_cases hn : X.new = []
  · have hr := (rem_zero hI).2 hn
    obtain rfl : Y = X := steps_zero hS (by omega)
    exact (kt_still hn).symm
  · have hr : rem X ≠ 0 := fun hh => hn ((rem_zero hI).1 hh)
    have h1 : m = 1 := by omega
    have hY : Y = stepX X := by rw [hS.eq, h1]; rfl
    rw [hY]
    exact kt_step hI hn
theorem set_getD_self {α : Type} (l : List (List α)) (i : Nat) : l.set i (l.getD i []) = l := by
  rcases Nat.lt_or_ge i l.length with h | h
  · rw [List.getD_eq_getElem?_getD, List.getElem?_eq_getElem h]
    exact List.set_getElem_self h
  · exact List.set_eq_of_length_le h
theorem moved_neg {Y : Tb} : (KX_ Y).moved < 0 ↔ Y.new = [] := er_moved
theorem bare_ne {Y : Tb} : (er Y).new ≠ [] ↔ Y.new ≠ [] := by
  show bare Y.new ≠ [] ↔ _
  constructor
  · intro h hh; exact h (by rw [hh]; rfl)
  · intro h hh; exact h (by have := congrArg List.length hh; rw [bare_len] at this; exact List.length_eq_zero_iff.1 this)
theorem has_at_old {Y : Tb} {key : ByteArray} {A B : List Kv} {u : Int} (h : (er Y).old[num Y.seed key % (er Y).old.length]? = some (A ++ (key, u) :: B)) : hasB ((KX_ Y).old.getD (plO (KX_ Y) key) []) key = true ∧ (KX_ Y).old.getD (plO (KX_ Y) key) [] = A.map Prod.fst ++ key :: B.map Prod.fst := by
  have h1 : (KX_ Y).old.getD (plO (KX_ Y) key) [] = A.map Prod.fst ++ key :: B.map Prod.fst := by
    show (keysE (er Y).old).getD (num Y.seed key % (keysE (er Y).old).length) [] = _
    rw [keysE_len, keysE_getD, List.getD_eq_getElem?_getD, h]
    simp
  exact ⟨hasB_mem.2 (by rw [h1]; simp), h1⟩
theorem has_at_new {Y : Tb} {key : ByteArray} {A B : List Kv} {u : Int} (h : (er Y).new[num Y.seed key % (er Y).new.length]? = some (A ++ (key, u) :: B)) : hasB ((KX_ Y).new.getD (plN (KX_ Y) key) []) key = true ∧ (KX_ Y).new.getD (plN (KX_ Y) key) [] = A.map Prod.fst ++ key :: B.map Prod.fst := by
  have h1 : (KX_ Y).new.getD (plN (KX_ Y) key) [] = A.map Prod.fst ++ key :: B.map Prod.fst := by
    show (keysE (er Y).new).getD (num Y.seed key % (keysE (er Y).new).length) [] = _
    rw [keysE_len, keysE_getD, List.getD_eq_getElem?_getD, h]
    simp
  exact ⟨hasB_mem.2 (by rw [h1]; simp), h1⟩
theorem not_has {Y : Tb} (hI : Inv Y) {key : ByteArray} (hno : ∀ e ∈ Y.ents, e.2.1 ≠ key) : (∀ i, hasB ((KX_ Y).old.getD i []) key = false) ∧ ∀ i, hasB ((KX_ Y).new.getD i []) key = false := by
  have hf := KX_flat hI
  have hk : key ∉ (KX_ Y).old.flatten ++ (KX_ Y).new.flatten := by
    rw [hf]
    intro hm
    obtain ⟨e, he, hek⟩ := kys_mem.1 hm
    exact hno e he hek
  have key2 : ∀ (l : List (List ByteArray)), key ∉ l.flatten → ∀ i, hasB (l.getD i []) key = false := fun l hl i => by
    cases hh : hasB (l.getD i []) key with
    | false => rfl
    | true =>
      have hm := hasB_mem.1 hh
      rw [List.getD_eq_getElem?_getD] at hm
      cases hc : l[i]? with
      | none => rw [hc] at hm; cases hm
      | some c => rw [hc] at hm; exact absurd (List.mem_flatten.2 ⟨c, List.mem_of_getElem? hc, hm⟩) hl
  rw [List.mem_append] at hk
  exact ⟨key2 _ (fun h => hk (Or.inl h)), key2 _ (fun h => hk (Or.inr h))⟩

theorem kt_put {B : Nat} {X G : Tb} {key : ByteArray} {v : Int} {new : Bool} {w w' : World} (hI : Inv X) (hp : PutRes B X G key v new w w') : KX_ G = putK (KX_ X) key := by
  obtain ⟨Y, m, hS, hm, hh⟩ := hp.how
  have hY := hS.inv
  unfold putK
  rw [← kt_one hI hS hm]
  rcases hh with ⟨_, hv⟩ | ⟨_, hno, hc⟩
  · rcases er_valued hv.ex hY with ⟨A, u, C, h1, h2⟩ | ⟨hne, A, u, C, h1, h2⟩
    · obtain ⟨q1, q2⟩ := has_at_old h1
      have hp1 : put1 (KX_ Y) key = KX_ Y := by unfold put1; rw [if_pos q1]
      rw [hp1]
      have hG : KX_ G = { KX_ Y with old := (KX_ Y).old.set (plO (KX_ Y) key) (A.map Prod.fst ++ key :: C.map Prod.fst) } := by
        unfold KX_
        rw [h2]
        unfold kt
        simp only [keysE_set]
        have hlen : plO (kt (er Y)) key = num Y.seed key % (er Y).old.length := by show num Y.seed key % (keysE (er Y).old).length = _; rw [keysE_len]
        unfold kt at hlen
        rw [hlen]
        simp
      rw [hG, ← q2, set_getD_self]
    · obtain ⟨q1, q2⟩ := has_at_new h1
      have hm2 : ¬(KX_ Y).moved < 0 := fun hh => bare_ne.1 hne (moved_neg.1 hh)
      have hp1 : put1 (KX_ Y) key = KX_ Y := by
        unfold put1
        by_cases hq : hasB ((KX_ Y).old.getD (plO (KX_ Y) key) []) key = true
        · rw [if_pos hq]
        · rw [if_neg hq, if_neg hm2, if_pos q1]
      rw [hp1]
      have hG : KX_ G = { KX_ Y with new := (KX_ Y).new.set (plN (KX_ Y) key) (A.map Prod.fst ++ key :: C.map Prod.fst) } := by
        unfold KX_
        rw [h2]
        unfold kt
        simp only [keysE_set]
        have hlen : plN (kt (er Y)) key = num Y.seed key % (er Y).new.length := by show num Y.seed key % (keysE (er Y).new).length = _; rw [keysE_len]
        unfold kt at hlen
        rw [hlen]
        simp
      rw [hG, ← q2, set_getD_self]
  · obtain ⟨n1, n2⟩ := not_has hY hno
    have hsd : (er G).seed = (er Y).seed := by show G.seed = Y.seed; rw [hp.same.2, hS.T.2.1]
    rcases er_came hc hY with ⟨hn, h1, h2, h3⟩ | ⟨hn, h1, h2⟩
    · have hm2 : ¬(KX_ Y).moved < 0 := fun hh => hn (moved_neg.1 hh)
      unfold put1
      rw [if_neg (by rw [n1]; decide), if_neg hm2, if_neg (by rw [n2]; decide)]
      unfold KX_ kt
      rw [hsd, h1, h2, h3, keysE_with]
      rfl
    · have hm2 : (KX_ Y).moved < 0 := moved_neg.2 hn
      have hol : (KX_ Y).old.length = openLen Y := by rw [KX_old, keysX_len, openL_len]
      have hpos : 0 < (KX_ Y).old.length := by
        obtain ⟨k, _, _, hl⟩ := (KX_ok hY).s0
        rw [hl]; exact pw_pos k
      have hcnt : (withK (KX_ Y).seed (KX_ Y).old key).flatten.length + (KX_ Y).new.flatten.length = Y.count + 1 := by
        rw [withK_flat _ _ _ hpos]
        have hf := congrArg List.length (KX_flat hY)
        rw [List.length_append, kys_len, ← hY.cnt] at hf
        omega
      have hold : (KX_ G).old = withK (KX_ Y).seed (KX_ Y).old key := by
        show keysE (er G).old = _
        rw [h1, keysE_with]
        rfl
      have hnw : (KX_ Y).new = [] := by rw [KX_new, hn]; rfl
      have hmv : (KX_ Y).moved = -1 := by rw [KX_moved, if_pos hn]
      unfold put1
      rw [if_neg (by rw [n1]; decide), if_pos hm2]
      simp only [hcnt, hol]
      rcases h2 with ⟨h3, h4, h5⟩ | ⟨h3, h4, h5⟩
      · rw [if_neg (fun hh => by have := h5 hh.1; omega)]
        have e1 : (KX_ G).seed = (KX_ Y).seed := hsd
        have e2 : (KX_ G).new = (KX_ Y).new := by show keysE (er G).new = _; rw [h3, hnw]; rfl
        have e3 : (KX_ G).moved = (KX_ Y).moved := by rw [hmv]; exact h4
        have e4 : KX_ G = ⟨(KX_ G).seed, (KX_ G).old, (KX_ G).new, (KX_ G).moved⟩ := rfl
        rw [e4, e1, e2, e3, hold]
      · have hlt : openLen Y < 65536 := by
          obtain ⟨k1, hk1⟩ := hp.ok.inv.good.s1
          have h7 := hk1.le
          have h8 : G.new.length = 2 * openLen Y := by
            have := congrArg List.length h4
            rw [List.length_replicate] at this
            rw [← this]
            show _ = (bare G.new).length
            rw [bare_len]
          have hok := openL_len Y
          omega
        rw [if_pos ⟨h3, hlt⟩]
        have e1 : (KX_ G).seed = (KX_ Y).seed := hsd
        have e2 : (KX_ G).new = List.replicate (2 * openLen Y) [] := by show keysE (er G).new = _; rw [h4]; unfold keysE; simp
        have e3 : (KX_ G).moved = 0 := h5
        have e4 : KX_ G = ⟨(KX_ G).seed, (KX_ G).old, (KX_ G).new, (KX_ G).moved⟩ := rfl
        rw [e4, e1, e2, e3, hold]

end Go.Proofs.YtdldgiicblmknaaDoor

/-
  What a drop makes of the program's table is what it makes of the document's. Mathematics; no condition.
-/
namespace Go.Proofs.YtdldgiicblmknaaDoor
open Go.RowKit

theorem out_mid {A C : List ByteArray} {key : ByteArray} (h : (A ++ key :: C).Nodup) : outB (A ++ key :: C) key = A ++ C := by
  obtain ⟨_, hn2, hn3⟩ := List.nodup_append.1 h
  rw [List.nodup_cons] at hn2
  have hk1 : ∀ x ∈ A, (x.toList == key.toList) = false := fun x hx => by
    cases hh : (x.toList == key.toList) with
    | false => rfl
    | true => exact absurd (bytes_eq hh) (hn3 x hx key (List.mem_cons_self ..))
  have hk2 : ∀ x ∈ C, (x.toList == key.toList) = false := fun x hx => by
    cases hh : (x.toList == key.toList) with
    | false => rfl
    | true => have := bytes_eq hh; subst this; exact absurd hx hn2.1
  have hkk : (key.toList == key.toList) = true := by simp
  unfold outB
  rw [List.filter_append, List.filter_cons, hkk]
  simp only [Bool.not_true, Bool.false_eq_true, if_false]
  congr 1
  · rw [List.filter_eq_self.2]; intro x hx; rw [hk1 x hx]; rfl
  · rw [List.filter_eq_self.2]; intro x hx; rw [hk2 x hx]; rfl
theorem mem_getD {l : List (List ByteArray)} {i : Nat} {c : List ByteArray} (h : l.getD i [] = c) (hc : c ≠ []) : c ∈ l := by
  rw [List.getD_eq_getElem?_getD] at h
  cases hh : l[i]? with
  | none => rw [hh] at h; exact absurd h.symm hc
  | some d => rw [hh] at h; have : d = c := h; rw [← this]; exact List.mem_of_getElem? hh

theorem kt_drop {B : Nat} {X G : Tb} {key : ByteArray} {gone : Bool} {w w' : World} (hI : Inv X) (hp : DropRes2 B X G key gone w w') : KX_ G = dropK (KX_ X) key := by
  obtain ⟨Y, m, hS, hm, hh⟩ := hp.how
  have hY := hS.inv
  unfold dropK
  rw [← kt_one hI hS hm]
  rcases hh with ⟨_, hGY, hno⟩ | ⟨_, hw⟩
  · obtain ⟨n1, n2⟩ := not_has hY hno
    rw [hGY]
    unfold drop1
    rw [if_neg (by rw [n1, n2]; simp)]
  · obtain ⟨G1, hg1, hgo, hgn⟩ := hw.ex
    have hsd : (KX_ G).seed = (KX_ Y).seed := by show G.seed = Y.seed; rw [hp.same.2, hS.T.2.1]
    have hcg : G.count + 1 = Y.count := hw.count
    have hnd := KX_nodup hY
    have hflat : (KX_ Y).old.flatten.length + (KX_ Y).new.flatten.length = Y.count := by
      have hf := congrArg List.length (KX_flat hY)
      rw [List.length_append, kys_len, ← hY.cnt] at hf
      exact hf
    have e4 : KX_ G = ⟨(KX_ G).seed, (KX_ G).old, (KX_ G).new, (KX_ G).moved⟩ := rfl
    rcases er_gone hg1 hY with ⟨A, u, C, h1, h2⟩ | ⟨hne, A, u, C, h1, h2⟩
    · obtain ⟨q1, q2⟩ := has_at_old h1
      have hout : outB ((KX_ Y).old.getD (plO (KX_ Y) key) []) key = A.map Prod.fst ++ C.map Prod.fst := by
        rw [q2]
        exact out_mid (hnd.1 _ (mem_getD q2 (by simp)))
      have hlo : plO (KX_ Y) key < (KX_ Y).old.length := by
        obtain ⟨k, _, _, hl⟩ := (KX_ok hY).s0
        exact Nat.mod_lt _ (by rw [hl]; exact pw_pos k)
      have hfl := flat_set_len (KX_ Y).old (plO (KX_ Y) key) hlo (A.map Prod.fst ++ C.map Prod.fst)
      rw [q2] at hfl
      simp only [List.length_append, List.length_cons, List.length_map] at hfl
      have hG1o : keysE (er G1).old = (KX_ Y).old.set (plO (KX_ Y) key) (A.map Prod.fst ++ C.map Prod.fst) := by
        rw [h2]
        show keysE ((er Y).old.set _ (A ++ C)) = _
        rw [keysE_set, List.map_append]
        have hlen : plO (KX_ Y) key = num Y.seed key % (er Y).old.length := by show num Y.seed key % (keysE (er Y).old).length = _; rw [keysE_len]
        rw [hlen]; rfl
      have hG1n : (er G1).new = (er Y).new := by rw [h2]
      have hYo : Y.old ≠ [] := by
        rcases hg1 with ⟨M, A', e, B', g1, _, _⟩ | ⟨M, A', e, B', g1, _, g3⟩
        · intro hh; rw [hh] at g1; simp at g1
        · intro hh
          have hYn : Y.new ≠ [] := fun h9 => by rw [h9] at g1; simp at g1
          have := hY.good.mv hYn
          rw [hh] at this; simp at this
      have hGo : G.old ≠ [] := fun hh => by have := hw.old; rw [hh] at this; exact hYo (List.length_eq_zero_iff.1 this.symm)
      have hold : (KX_ G).old = (KX_ Y).old.set (plO (KX_ Y) key) (A.map Prod.fst ++ C.map Prod.fst) := by
        rw [← hG1o]
        show keysE (bare (openL G)) = keysE (bare (openL G1))
        rw [openL_of hGo, openL_of (by rw [← hgo]; exact hGo), hgo]
      have hol : (KX_ Y).old.length = Y.old.length := by rw [KX_old, keysX_len, openL_of hYo]
      have hcnt : cntK { KX_ Y with old := (KX_ Y).old.set (plO (KX_ Y) key) (A.map Prod.fst ++ C.map Prod.fst) } = G.count := by
        show ((KX_ Y).old.set (plO (KX_ Y) key) (A.map Prod.fst ++ C.map Prod.fst)).flatten.length + (KX_ Y).new.flatten.length = _
        omega
      unfold drop1
      simp only [q1, if_true, true_or, hout, hcnt, hol]
      rcases hw.cond with ⟨z1, z2, z3⟩ | ⟨z1, z2, z3, z4⟩
      · rw [if_neg (fun hh => z3 ⟨moved_neg.1 hh.1, hh.2.1, hh.2.2⟩)]
        have hnw : (KX_ G).new = (KX_ Y).new := by
          have hgg : G.new = G1.new := by
            rcases hgn with g | ⟨g1, g2⟩
            · exact g
            · have h0 : G.new = [] := List.length_eq_zero_iff.1 (by rw [z1, g1]; rfl)
              have h3 : bare G1.new = bare Y.new := hG1n
              rw [g1] at h3
              have h4 : G1.new = [] := by have := congrArg List.length h3; rw [bare_len] at this; exact List.length_eq_zero_iff.1 this
              rw [h0, h4]
          show keysE (bare G.new) = keysE (er Y).new
          rw [hgg]
          exact congrArg keysE hG1n
        have hmv : (KX_ G).moved = (KX_ Y).moved := by
          rw [KX_moved, KX_moved, z2]
          have : G.new = [] ↔ Y.new = [] := by rw [← List.length_eq_zero_iff, z1, List.length_eq_zero_iff]
          by_cases hn : Y.new = []
          · rw [if_pos (this.2 hn), if_pos hn]
          · rw [if_neg (fun hh => hn (this.1 hh)), if_neg hn]
        rw [e4, hsd, hold, hnw, hmv]
      · rw [if_pos ⟨moved_neg.2 z1.1, z1.2.1, z1.2.2⟩]
        have hlen : G.new.length = Y.old.length / 2 := by omega
        have hgne : G.new ≠ [] := fun hh => by rw [hh] at hlen; have := z1.2.1; simp at hlen; omega
        have hnw : (KX_ G).new = List.replicate (Y.old.length / 2) [] := by
          rw [KX_new, z4, hlen]
          simp [keysX, kys]
        have hmv : (KX_ G).moved = 0 := by rw [KX_moved, if_neg hgne, z3]; rfl
        rw [e4, hsd, hold, hnw, hmv]
    · obtain ⟨q1, q2⟩ := has_at_new h1
      have hYn : Y.new ≠ [] := bare_ne.1 hne
      have hm2 : ¬(KX_ Y).moved < 0 := fun hh => hYn (moved_neg.1 hh)
      have hm3 : 0 ≤ (KX_ Y).moved := by omega
      have hno : hasB ((KX_ Y).old.getD (plO (KX_ Y) key) []) key = false := by
        cases hh : hasB ((KX_ Y).old.getD (plO (KX_ Y) key) []) key with
        | false => rfl
        | true =>
          have hall : ((KX_ Y).old.flatten ++ (KX_ Y).new.flatten).Nodup := by rw [KX_flat hY]; exact hY.nd
          obtain ⟨_, _, hdj⟩ := List.nodup_append.1 hall
          have m1 : key ∈ (KX_ Y).old.flatten := List.mem_flatten.2 ⟨_, mem_getD rfl (fun h0 => by rw [h0] at hh; cases hh), hasB_mem.1 hh⟩
          have m2 : key ∈ (KX_ Y).new.flatten := List.mem_flatten.2 ⟨_, mem_getD q2 (by simp), by simp⟩
          exact absurd rfl (hdj key m1 key m2)
      have hout : outB ((KX_ Y).new.getD (plN (KX_ Y) key) []) key = A.map Prod.fst ++ C.map Prod.fst := by
        rw [q2]
        exact out_mid (hnd.2 _ (mem_getD q2 (by simp)))
      have hG1n : keysE (er G1).new = (KX_ Y).new.set (plN (KX_ Y) key) (A.map Prod.fst ++ C.map Prod.fst) := by
        rw [h2]
        show keysE ((er Y).new.set _ (A ++ C)) = _
        rw [keysE_set, List.map_append]
        have hlen : plN (KX_ Y) key = num Y.seed key % (er Y).new.length := by show num Y.seed key % (keysE (er Y).new).length = _; rw [keysE_len]
        rw [hlen]; rfl
      have hG1o : (er G1).old = (er Y).old := by rw [h2]
      have hmv0 := hY.good.mv hYn
      have hYo : Y.old ≠ [] := fun hh => by rw [hh] at hmv0; simp at hmv0
      have hGo : G.old ≠ [] := fun hh => by have := hw.old; rw [hh] at this; exact hYo (List.length_eq_zero_iff.1 this.symm)
      have hold : (KX_ G).old = (KX_ Y).old := by
        have h3 : keysE (bare (openL G1)) = (KX_ Y).old := congrArg keysE hG1o
        rw [← h3]
        show keysE (bare (openL G)) = _
        rw [openL_of hGo, openL_of (by rw [← hgo]; exact hGo), hgo]
      unfold drop1
      simp only [hno, Bool.false_eq_true, if_false, false_or]
      rw [if_pos ⟨hm3, q1⟩, if_neg (fun hh => hm2 hh.1), if_pos ⟨hm3, q1⟩, hout]
      rcases hw.cond with ⟨z1, z2, z3⟩ | ⟨z1, _⟩
      · have hnw : (KX_ G).new = (KX_ Y).new.set (plN (KX_ Y) key) (A.map Prod.fst ++ C.map Prod.fst) := by
          rw [← hG1n]
          have hgg : G.new = G1.new := by
            rcases hgn with g | ⟨g1, _⟩
            · exact g
            · exact absurd g1 hYn
          show keysE (bare G.new) = _
          rw [hgg]; rfl
        have hmv : (KX_ G).moved = (KX_ Y).moved := by
          have hGn : G.new ≠ [] := fun hh => by rw [hh] at z1; exact hYn (List.length_eq_zero_iff.1 z1.symm)
          rw [KX_moved, KX_moved, z2, if_neg hGn, if_neg hYn]
        rw [e4, hsd, hold, hnw, hmv]
      · exact absurd z1.1 hYn

end Go.Proofs.YtdldgiicblmknaaDoor

/-
  The walks of the document's Fresh and of the law's did, the document's Drop being given. A table's shape; the bounds that Go's own numbers have.
-/
namespace Go.Proofs.YtdldgiicblmknaaDoor
open Go.RowKit

/-- What the document's Drop does. -/
def DropOk : Prop := ∀ (B T : Nat) (t : KT) (vo vn : Value) (w : World), RAt B T t vo vn w → KOk t → KOk (stepK t) → ((∀ c ∈ (stepK t).old, c.Nodup) ∧ ∀ c ∈ (stepK t).new, c.Nodup) → ∀ (key : ByteArray), key.size ≤ 1000 →
    Calls Tryd.prog 28 #[.pointer (some ⟨T, 0, none⟩), .string key] w fun e w' => ∃ b : Bool, e = .returned (.bool b) ∧ ∃ vo' vn', RAt B T (dropK t key) vo' vn' w' ∧ RO B w w'
variable {B T : Nat} {vo vn : Value} {w : World}
theorem stepN_steps {X : Tb} (hI : Inv X) : ∀ n, n ≤ rem X → Steps X (stepN n X) n := by
  intro n
  induction n with
  | zero => intro _; exact Steps.zero hI
  | succ n ih =>
    intro hn
    have hS := ih (by omega)
    have hne : (stepN n X).new ≠ [] := fun hh => by
      have h1 := (rem_zero hS.inv).2 hh
      have := hS.rem
      omega
    have := hS.more hne
    rw [stepN_snoc]
    exact this
theorem moved_ge {Y : Tb} : decide (0 ≤ (KX_ Y).moved) = !decide (Y.new = []) := by
  have := @moved_neg Y
  by_cases h : Y.new = []
  · have h1 := this.2 h
    simp [h]; omega
  · have h1 : ¬(KX_ Y).moved < 0 := fun hh => h (this.1 hh)
    simp [h]; omega

set_option maxHeartbeats 4000000 in
theorem did_at (hD : DropOk) {B0 : Nat} {X G : Tb} {kd v : Int} {key : ByteArray} {w1 w2 : World} (h : RAt B T (KX_ X) vo vn w) (hI : Inv X) (hd : Did B0 X G kd key v w1 w2) (hd2 : kd = 1 → ∃ gone w3 w4, DropRes2 B0 X G key gone w3 w4) (hk : key.size ≤ 1000) (hv : -9223372036854775808 ≤ v ∧ v ≤ 9223372036854775807) (hcn : X.count + 1 ≤ 1000000) :
    Calls Tryd.prog 12 #[.pointer (some ⟨T, 0, none⟩), .agg #[.int .i64 kd, .string key, .int .i64 v]] w fun e w' => e = .returned (.tuple #[]) ∧ ∃ vo' vn', RAt B T (KX_ G) vo' vn' w' ∧ RO B w w' := by
  have hB := h.pos
  have hcntY : ∀ {Y : Tb}, Inv Y → cntK (KX_ Y) = Y.count := fun {Y} hY => by
    have hf := congrArg List.length (KX_flat hY)
    rw [List.length_append, kys_len, ← hY.cnt] at hf
    exact hf
  by_cases h0 : kd = 0
  · subst h0
    obtain ⟨new, w3, w4, hp⟩ : ∃ new w3 w4, PutRes B0 X G key v new w3 w4 := by
      rcases hd.how with ⟨_, hh⟩ | ⟨h1, _⟩ | ⟨h1, _⟩
      · exact hh
      · omega
      · omega
    have hG := kt_put hI hp
    obtain ⟨Y, m, hS, hm, _⟩ := hp.how
    have hY := kt_one hI hS hm
    have hal : Below w.heap.size w (w.alloc (.cells #[.int .i64 0, .string key, .int .i64 v] 34)) := (Below.refl _ _).alloc (Nat.le_refl _) _
    have hpt := Lib.hid (put_ref (h.after hal) (KX_ok hI) (by rw [← hY]; exact KX_ok hS.inv) key hk v (by rw [← hY, hcntY hS.inv, hS.T.2.2]; exact hcn))
    have hoH := Lib.hid (ro_below hal hB)
    rw [← hG] at hpt
    clear hal hG hY hS hm hp hd hd2 h
    go_enter Tryd.func12, Tryd.ntmps12
    go_wp2_with (go_at_call 27; ((with_reducible refine (hpt.out).mono ?_); rintro r w5 ⟨b, rfl, vo', vn', hR, hO⟩; have hRH := Lib.hid hR; have hOH := Lib.hid hO; clear hR hO))
    go_end0
    exact ⟨rfl, vo', vn', hRH.out, hoH.out.trans hOH.out⟩
  · have hz0 : (kd == 0) = false := by simpa using h0
    have hz1 : decide (kd = 0) = false := by simpa using h0
    by_cases h1 : kd = 1
    · subst h1
      obtain ⟨gone, w3, w4, hp⟩ := hd2 rfl
      have hG := kt_drop hI hp
      obtain ⟨Y, m, hS, hm, _⟩ := hp.how
      have hY := kt_one hI hS hm
      have hal : Below w.heap.size w (w.alloc (.cells #[.int .i64 1, .string key, .int .i64 v] 34)) := (Below.refl _ _).alloc (Nat.le_refl _) _
      have hpt := Lib.hid (hD _ _ _ _ _ _ (h.after hal) (KX_ok hI) (by rw [← hY]; exact KX_ok hS.inv) (by rw [← hY]; exact KX_nodup hS.inv) key hk)
      have hoH := Lib.hid (ro_below hal hB)
      rw [← hG] at hpt
      clear hal hG hY hS hm hp hd hd2 h
      go_enter Tryd.func12, Tryd.ntmps12
      go_wp2_with (go_at_call 28; ((with_reducible refine (hpt.out).mono ?_); rintro r w5 ⟨b, rfl, vo', vn', hR, hO⟩; have hRH := Lib.hid hR; have hOH := Lib.hid hO; clear hR hO))
      go_end0
      exact ⟨rfl, vo', vn', hRH.out, hoH.out.trans hOH.out⟩
    · have hz2 : (kd == 1) = false := by simpa using h1
      have hz3 : decide (kd = 1) = false := by simpa using h1
      obtain ⟨m, hm, hS⟩ : ∃ m, m = min v.toNat (rem X) ∧ Steps X G m := by
        rcases hd.how with ⟨h2, _⟩ | ⟨h2, _⟩ | ⟨_, _, hh⟩
        · omega
        · omega
        · exact hh
      have hal : Below w.heap.size w (w.alloc (.cells #[.int .i64 kd, .string key, .int .i64 v] 34)) := (Below.refl _ _).alloc (Nat.le_refl _) _
      have hbx := Lib.cell_of_heap (heap_alloc_new w (.cells #[.int .i64 kd, .string key, .int .i64 v] 34))
      have hbl := heap_alloc_new w (.cells #[.int .i64 kd, .string key, .int .i64 v] 34)
      have hRA := Lib.hid (h.after hal)
      have hOA := Lib.hid (ro_below hal hB)
      have hblH := Lib.hid hbl
      have hmH := Lib.hid (And.intro hm hS)
      have hIH := Lib.hid hI
      clear hbx hbl hd hd2 h hm hS hI
      go_enter Tryd.func12, Tryd.ntmps12
      go_wp2_with fail
      go_loopw [4] (fun s4 wr => ∃ n : Nat, n ≤ m ∧ s4 = .int .i64 n ∧ Hid (∃ vo' vn', RAt B T (KX_ (stepN n X)) vo' vn' wr) ∧ Hid (RO B w wr) ∧ Hid (wr.heap[w.heap.size]? = some (.cells #[.int .i64 kd, .string key, .int .i64 v] 34 (0, 0)))) (fun s4 _ => m - (intOf s4).toNat)
      case atStart => exact ⟨0, by omega, rfl, Lib.hid ⟨vo, vn, hRA.out⟩, hOA, hblH⟩
      case round =>
        obtain ⟨n, hn, rfl, hR, hO, hb⟩ := hrel
        have d0 := Lib.cell_of_heap hb.out 2
        have hmm := hmH.out.1
        have hSn := stepN_steps hIH.out n (by omega)
        obtain ⟨vo', vn', hR1⟩ := hR.out
        have hst := step_ref hR1 (KX_ok hSn.inv)
        rw [moved_ge] at hst
        by_cases hlt : (n : Int) < v
        · by_cases hne : (stepN n X).new = []
          · have hr : rem X = n := by have := (rem_zero hSn.inv).2 hne; have := hSn.rem; omega
            have hnm : n = m := by omega
            have hdn : decide ((stepN n X).new = []) = true := by simpa using hne
            have hk0 : stepK (KX_ (stepN n X)) = KX_ (stepN n X) := kt_still hne
            rw [hdn, hk0] at hst
            simp only [Bool.not_true] at hst
            have hstH := Lib.hid hst
            have hGe := Lib.hid (show G = stepN n X by rw [hnm]; exact hmH.out.2.eq)
            clear hst hSn hR1 hmm hr hnm hdn hne hk0
            go_wp2_with (go_at_call 29; ((with_reducible refine (hstH.out).mono ?_); rintro r w5 ⟨rfl, vo2, vn2, hR2, hO2⟩; have hRH := Lib.hid hR2; have hOH := Lib.hid hO2; clear hR2 hO2))
            go_end0
            first
              | exact ⟨rfl, vo2, vn2, by rw [hGe.out]; exact hRH.out, hO.out.trans hOH.out⟩
              | exact ⟨rfl, ⟨vo2, vn2, by rw [hGe.out]; exact hRH.out⟩, hO.out.trans hOH.out⟩
          · have hr : n < rem X := by
              have h9 : rem (stepN n X) ≠ 0 := fun hh => hne ((rem_zero hSn.inv).1 hh)
              have := hSn.rem
              omega
            have hdn : decide ((stepN n X).new = []) = false := by simpa using hne
            have hks : stepK (KX_ (stepN n X)) = KX_ (stepN (n + 1) X) := by rw [stepN_snoc]; exact (kt_step hSn.inv hne).symm
            rw [hdn, hks] at hst
            simp only [Bool.not_false] at hst
            have hstH := Lib.hid hst
            have hblk := Lib.hid (show isRef wr.heap[w.heap.size]? = false by rw [hb.out]; rfl)
            clear hst hSn hR1 hdn hks hne
            have hnm : n + 1 ≤ m := by omega
            go_wp2_with (go_at_call 29; ((with_reducible refine (hstH.out).mono ?_); rintro r w5 ⟨rfl, vo2, vn2, hR2, hO2⟩; have hRH := Lib.hid hR2; have hOH := Lib.hid hO2; clear hR2 hO2))
            go_roundw
            case rel => exact ⟨n + 1, hnm, by go_num, Lib.hid ⟨vo2, vn2, hRH.out⟩, Lib.hid (hO.out.trans hOH.out), Lib.hid (hOH.out.only.keep hb.out (fun hm => by have := mem_refs.1 hm; rw [hblk.out] at this; cases this))⟩
            case measure => simp [intOf]; omega
        · have hnm : n = m := by omega
          have hGe := Lib.hid (show G = stepN n X by rw [hnm]; exact hmH.out.2.eq)
          have hR1H := Lib.hid hR1
          clear hst hSn hR1 hmm hnm
          go_wp2_with fail
          go_end0
          first
            | exact ⟨rfl, vo', vn', by rw [hGe.out]; exact hR1H.out, hO.out⟩
            | exact ⟨rfl, ⟨vo', vn', by rw [hGe.out]; exact hR1H.out⟩, hO.out⟩
            | exact ⟨⟨vo', vn', by rw [hGe.out]; exact hR1H.out⟩, hO.out⟩

/-- A table of the document's that nobody wrote to. -/
theorem fresh_ref (seed : Int) (w : World) : Calls Tryd.prog 10 #[.int .u64 seed] w fun e w' => ∃ g, e = .returned (.agg #[.int .u64 seed, .slice (some ⟨g, 0, none⟩) 4 4, .slice none 0 0, .int .i64 (-1)]) ∧ Rw w.heap.size w' (.slice (some ⟨g, 0, none⟩) 4 4) (List.replicate 4 []) ∧ Below w.heap.size w w' := by
  have hmk : ∀ w, (Instr.makeSlice 29 (.int .i64 4) (.int .i64 4)).run Tryd.prog w = .ok (.slice (some ⟨w.heap.size, 0, none⟩) 4 4) (w.alloc (rowObj 4)) := fun w => run_rows 4 (by omega) w
  generalize hro : rowObj 4 = ro at *
  go_enter Tryd.func10, Tryd.ntmps10
  go_wp2_with fail
  have ht1 := heap_alloc_new w (.cells #[.int .u64 seed, .slice (some ⟨w.heap.size + 1, 0, none⟩) 4 4, .slice none 0 0, .int .i64 (-1)] 31)
  generalize hW1 : w.alloc (.cells #[.int .u64 seed, .slice (some ⟨w.heap.size + 1, 0, none⟩) 4 4, .slice none 0 0, .int .i64 (-1)] 31) = W1 at *
  have hb1 : Below w.heap.size w W1 := by rw [← hW1]; exact (Below.refl _ _).alloc (Nat.le_refl _) _
  have hs1 : W1.heap.size = w.heap.size + 1 := by rw [← hW1]; simp
  have ht2 := (Below.heap_alloc W1 ro w.heap.size (by omega)).trans ht1
  have hr2 : Rw w.heap.size (W1.alloc ro) (.slice (some ⟨w.heap.size + 1, 0, none⟩) 4 4) (List.replicate 4 []) := by
    rw [← hro, ← hs1]
    exact Rw.made W1 (by omega) 4 (by omega)
  have c0 := Lib.cell_of_heap ht2 0
  have c1 := Lib.cell_of_heap ht2 1
  have c2 := Lib.cell_of_heap ht2 2
  have c3 := Lib.cell_of_heap ht2 3
  refine bodyPost_ret (v := .agg #[.int .u64 seed, .slice (some ⟨w.heap.size + 1, 0, none⟩) 4 4, .slice none 0 0, .int .i64 (-1)]) ?_ rfl ⟨_, rfl, hr2, hb1.alloc (by omega) ro⟩
  generalize W1.alloc ro = W2 at *
  show (results Tryd.f10 _).run _ _ = _
  unfold results
  go_simp

end Go.Proofs.YtdldgiicblmknaaDoor
