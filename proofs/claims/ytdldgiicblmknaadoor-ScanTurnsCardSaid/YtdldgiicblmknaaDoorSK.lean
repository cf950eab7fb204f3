/-
  The walk of the law's alive. The table of factors holds what the program's text lays.
-/
import Derived.Test.YtdldgiicblmknaaDoorSJ
namespace Go.Proofs.YtdldgiicblmknaaDoor
open Go.RowKit

theorem alive_size {X : Tb} (hI : Inv X) (hP : Par X) (h0 : X.old.length = 4) (h1 : X.new.length = 8) : tS X = 2 := by
  obtain ⟨_, _, h | h | h⟩ := shape hI hP
  · rw [h.1] at h1; simp at h1
  · exact pw_inj (h.2.1.symm.trans h0)
  · have h2 := h.2.2.1; rw [h0] at h2
    have h3 := h.2.1; rw [h1] at h3
    rw [pw_succ, ← h3] at h2; omega
theorem new_size (T : Nat) (seed : Int) : tS (newX T seed) = 2 := by unfold tS newX; simp
theorem new_scan {T : Nat} {seed : Int} (hU : U seed) (count f : Nat) (hc : 0 < count) (hf : 4 ≤ f) : scanF (tS (newX T seed)) (tK (newX T seed)) count f 0 [] = (0, []) := by
  obtain ⟨K, h1, h2⟩ := scan_whole (new_inv T seed hU) (par_new T seed) count f hc (by rw [new_size]; exact hf)
  have : K = [] := by
    have h3 := h2.length_eq
    rw [kys_len] at h3
    exact List.length_eq_zero_iff.1 h3
  rw [h1, this]

set_option maxHeartbeats 4000000 in
theorem alive_any (w : World) (hFac : Fac w) (hz : 0 < w.heap.size) : Calls Tryd.prog 8 #[] w fun e w' => e = .returned (.bool true) ∧ Below w.heap.size w w' := by
  have hFH := Lib.hid hFac
  clear hFac
  go_enter Tryd.func8, Tryd.ntmps8
  go_wp2_with (go_at_call 9; ((with_reducible refine (new_any 1 _).mono ?_); rintro r w1 ⟨rfl, hw1⟩))
  have h1 : (w.alloc (newX w.heap.size 1).head).heap[w.heap.size]? = some (newX w.heap.size 1).head := heap_alloc_new w _
  have hs1 : (w.alloc (newX w.heap.size 1).head).heap.size = w.heap.size + 1 := by simp
  have h2 := heap_alloc_new (w.alloc (newX w.heap.size 1).head) (.cells #[.string ⟨#[97]⟩, .string ⟨#[98]⟩, .string ⟨#[99]⟩, .string ⟨#[100]⟩, .string ⟨#[101]⟩] 9)
  rw [hs1] at h2
  have h1' := (Lib.alloc_old (w.alloc (newX w.heap.size 1).head) (.cells #[.string ⟨#[97]⟩, .string ⟨#[98]⟩, .string ⟨#[99]⟩, .string ⟨#[100]⟩, .string ⟨#[101]⟩] 9) w.heap.size (by omega)).trans h1
  have hb2 := ((Below.refl w.heap.size w).alloc (Nat.le_refl _) (newX w.heap.size 1).head).alloc (by omega) (.cells #[.string ⟨#[97]⟩, .string ⟨#[98]⟩, .string ⟨#[99]⟩, .string ⟨#[100]⟩, .string ⟨#[101]⟩] 9)
  clear hs1
  generalize (w.alloc (newX w.heap.size 1).head).alloc (.cells #[.string ⟨#[97]⟩, .string ⟨#[98]⟩, .string ⟨#[99]⟩, .string ⟨#[100]⟩, .string ⟨#[101]⟩] 9) = w2 at *
  have hF2 : Fac w2 := ⟨(hb2.cell (p := ⟨0, 0, none⟩) hz).trans hFH.out.1, (hb2.cell (p := ⟨0, 1, none⟩) hz).trans hFH.out.2⟩
  have hok := new_ok (B := w.heap.size) w.heap.size 1 (by unfold U; omega) hF2 hz (Nat.le_refl _) h1'
  have hal : AliveAt 0 (newX w.heap.size 1) := ⟨rfl, fun e he => by simp [Tb.ents, newX] at he, fun h => by omega, fun _ => ⟨rfl, rfl⟩, fun h => by omega⟩
  have hokH := Lib.hid hok
  have halH := Lib.hid (And.intro hal (And.intro (show AliveHas 0 (newX w.heap.size 1) from fun j hj => by omega) (par_new w.heap.size 1)))
  have hkrH := Lib.hid (show KRow w2 (w.heap.size + 1) from h2)
  have hbH := Lib.hid hb2
  have hnbH := Lib.hid (show w.heap.size + 1 ∉ (newX w.heap.size 1).blocks by simp [newX, Tb.blocks, Tb.ents])
  clear hok hal h2 hb2 h1 h1' hF2
  go_loopw [2, 3, 13] (fun s2 s3 s13 wr => ∃ (i : Nat) (X : Tb), i ≤ 5 ∧ s13 = .int .i64 i ∧ Hid (AliveAt i X ∧ AliveHas i X ∧ Par X) ∧ Hid (Ok w.heap.size X wr) ∧ Hid (X.T = w.heap.size) ∧ Hid (KRow wr (w.heap.size + 1)) ∧ Hid (w.heap.size + 1 ∉ X.blocks) ∧ Hid (Below w.heap.size w wr)) (fun s2 s3 s13 _ => 5 - (intOf s13).toNat)
  case atStart => exact ⟨0, _, by omega, rfl, halH, hokH, Lib.hid rfl, hkrH, hnbH, hbH⟩
  case round =>
    obtain ⟨i, X, hi, rfl, hA, hO, hT, hK, hN, hB⟩ := hrel
    by_cases hlt : i < 5
    · have hcell := krow_cell hK.out hlt
      have hpt := put_any hO.out (kk i) (kk_size i) (i : Int) (by rw [hA.out.1.cnt]; omega)
      rw [hT.out] at hpt
      have hptH := Lib.hid hpt
      have hdi : decide ((i : Int) < 5) = true := by simp; omega
      clear hpt
      have hltH := Lib.hid hlt
      generalize hki : kk i = ki at *
      have hkiH := Lib.hid hki
      clear hki
      go_wp2_with (first
        | (go_at_call 24; ((with_reducible refine (hptH.out).mono ?_); rintro r w4 ⟨G, new, rfl, hG⟩; have hGH := Lib.hid hG; clear hG; obtain ⟨hnew, hA2⟩ := alive_put hA.out.1 hltH.out hO.out.inv (by rw [hkiH.out]; exact hGH.out); subst hnew; have hA2H := Lib.hid hA2; clear hA2)))
      go_roundw
      case rel =>
        have hg := hGH.out
        have hk := hK.out
        unfold KRow at hk
        have hg2 := hg
        rw [← hkiH.out] at hg2
        refine ⟨i + 1, G, by omega, by go_num, Lib.hid ⟨hA2H.out, alive_has hA.out.1 hA.out.2.1 hltH.out hO.out.inv hg2, par_put hO.out.inv hA.out.2.2 hg⟩, Lib.hid hg.ok, Lib.hid (hg.same.1.trans hT.out), Lib.hid ?_, Lib.hid ?_, Lib.hid ?_⟩
        · exact hg.only.keep hk hN.out
        · intro hm
          have := some_lt hk
          rcases hg.blk _ hm with h3 | h3
          · exact hN.out h3
          · omega
        · exact hB.out.trans (hg.only.below hB.out.size (fun x hx => hO.out.live.own x hx))
      case measure => simp [intOf]; omega
    · have hi5 : i = 5 := by omega
      subst hi5
      obtain ⟨hnl, hmv0, hol⟩ := hA.out.1.top rfl
      have hsz := alive_size hO.out.inv hA.out.2.2 hol hnl
      obtain ⟨K, hK1, hK2⟩ := scan_whole hO.out.inv hA.out.2.2 100 1000 (by rw [hA.out.1.cnt]; omega) (by rw [hsz]; decide)
      have hsc : Hid (Calls Tryd.prog 15 #[.pointer (some ⟨w.heap.size, 0, none⟩), .int .u64 0, .int .i64 100] wr fun r w' => ∃ v', r = .returned (.tuple #[.int .u64 0, v']) ∧ RowT w' wr.heap.size v' K ∧ Below wr.heap.size wr w') := Lib.hid (by
        have h := scan_at hO.out hA.out.2.2 0 (by omega) 100 (by omega)
        rw [show cntN 100 = 100 from rfl, show turnsN 100 = 1000 from rfl, hK1, hT.out] at h
        exact h)
      have hents : X.ents.length = 5 := by rw [← hO.out.inv.cnt, hA.out.1.cnt]
      have hKl : K.length = 5 := by rw [hK2.length_eq, kys_len, hents]
      obtain ⟨pk, hpk⟩ : ∃ x, (kys X.ents)[2]? = some x := ⟨_, List.getElem?_eq_getElem (by rw [kys_len, hents]; omega)⟩
      have hpkK : pk ∈ K := hK2.mem_iff.2 (List.mem_of_getElem? hpk)
      have heK : (⟨#[101]⟩ : ByteArray) ∈ K := by
        obtain ⟨b, hb⟩ := hA.out.2.1 4 (by omega)
        exact hK2.mem_iff.2 (kys_mem.2 ⟨_, hb, rfl⟩)
      have hpi : Hid (∀ w1, Below wr.heap.size wr w1 → Calls Tryd.prog 17 #[.pointer (some ⟨w.heap.size, 0, none⟩), .int .u64 7] w1 fun r w' => r = .returned (.tuple #[.string pk, .bool true]) ∧ Below w1.heap.size w1 w') := Lib.hid fun w1 hb => by
        have h := pick_at (hO.out.after hb) 7 (by omega)
        rw [hents, hT.out, show 7 % 5 = 2 from rfl, show (kys X.ents).getD 2 ⟨#[]⟩ = pk by simp [hpk]] at h
        exact h
      have hhas : Hid (∀ w1 v, RowT w1 wr.heap.size v K → ∀ s, s ∈ K → Calls Tryd.prog 21 #[v, .string s] w1 fun r w' => r = .returned (.bool true) ∧ Only [] w1 w') := Lib.hid fun w1 v hr s hs => by
        have h := has_at hr s (by omega)
        rw [hasB_mem.2 hs] at h
        exact h
      have hFr : Fac wr := fac_below hFH.out hz hB.out
      have hnw : Hid (∀ w1, Below wr.heap.size wr w1 → Calls Tryd.prog 15 #[.pointer (some ⟨w1.heap.size, 0, none⟩), .int .u64 0, .int .i64 1] (w1.alloc (newX w1.heap.size 1).head) fun r w' => ∃ v', r = .returned (.tuple #[.int .u64 0, v']) ∧ RowT w' (w1.alloc (newX w1.heap.size 1).head).heap.size v' [] ∧ Below w1.heap.size w1 w') := Lib.hid fun w1 hb => by
        have hbw : Below w.heap.size w w1 := onB hB.out hb hB.out.size
        have hba := hbw.alloc hbw.size (newX w1.heap.size 1).head
        have hok := new_ok (B := w.heap.size) w1.heap.size 1 (by unfold U; omega) (fac_below hFH.out hz hba) hz hbw.size (heap_alloc_new w1 _)
        have h := scan_at hok (par_new _ _) 0 (by omega) 1 (by omega)
        rw [show cntN 1 = 1 from rfl, show turnsN 1 = 10 from rfl, new_scan (by unfold U; omega) 1 10 (by omega) (by omega)] at h
        refine h.mono ?_
        rintro r w' ⟨v', rfl, h1, h2⟩
        exact ⟨v', rfl, h1, ((Below.refl w1.heap.size w1).alloc (Nat.le_refl _) _).trans (h2.mono (by simp))⟩
      have hpkH := Lib.hid hpkK
      have heKH := Lib.hid heK
      have hKlH := Lib.hid hKl
      clear hnl hmv0 hol hsz hK1 hK2 hents hKl hpk hpkK heK hFr
      go_upto_region 9 with (first
        | (go_at_call 15; ((with_reducible refine (hsc.out).mono ?_); rintro r w5 ⟨v5, rfl, how5, hb5⟩; obtain ⟨A5, c5, hv5⟩ := how5.len; rw [hKlH.out] at hv5; subst hv5; have how5H := Lib.hid how5; have hb5H := Lib.hid hb5; clear how5 hb5))
        | (go_at_call 17; ((with_reducible refine (hpi.out _ hb5H.out).mono ?_); rintro r w6 ⟨rfl, hb6⟩)))
      have how6H := Lib.hid (how5H.out.stay hb6)
      have hb6H := Lib.hid (onB hb5H.out hb6 hb5H.out.size)
      clear hb6
      go_upto_region 10 with (first
        | (go_at_call 9; ((with_reducible refine (new_any 1 _).mono ?_); rintro r w7 ⟨rfl, hw7⟩))
        | (go_at_call 15; ((with_reducible refine (hnw.out _ hb6H.out).mono ?_); rintro r w8 ⟨v8, rfl, how8, hb8⟩; obtain ⟨A8, c8, hv8⟩ := how8.len; rw [List.length_nil] at hv8; subst hv8; have hb8H := Lib.hid hb8; clear how8 hb8)))
      have how8H := Lib.hid (how6H.out.stay hb8H.out)
      have hb9 := Lib.hid (onB hB.out (onB hb6H.out hb8H.out hb6H.out.size) hB.out.size)
      have hhe := Lib.hid (hhas.out _ _ how8H.out _ heKH.out)
      have hhp := Lib.hid (fun (w9 : World) (ho : Only [] w8 w9) => hhas.out w9 _ (how8H.out.only ho (by simp)) _ hpkH.out)
      go_wp2_with (first
        | (go_at_call 21; ((with_reducible refine (hhe.out).mono ?_); rintro r w9 ⟨rfl, ho9⟩; have ho9H := Lib.hid ho9; clear ho9))
        | (go_at_call 21; ((with_reducible refine (hhp.out _ ho9H.out).mono ?_); rintro r w10 ⟨rfl, ho10⟩; have ho10H := Lib.hid ho10; clear ho10)))
      go_ret
      exact ⟨rfl, (hb9.out.trans (ho9H.out.below (B := w.heap.size) hb9.out.size (by simp))).trans (ho10H.out.below (B := w.heap.size) (by have := hb9.out.size; have := ho9H.out.size; omega) (by simp))⟩

end Go.Proofs.YtdldgiicblmknaaDoor
