/-
  The walk of fit: a timer's row and map are laid anew where there is far more room than is needed. Premises: a timer as it lies.
-/
import Derived.Test.YtbaghdfalhlhcaaG
import Derived.Test.YtbaghdfalhlhcaaH
namespace Go.Proofs.Ytbaghdfalhlhcaa
open Go.RowKit

/-- What is noted of the first places. -/
def notes (h : List Sc) : Nat → (ByteArray → Option Nat)
  | 0 => fun _ => none
  | k + 1 => note (notes h k) (el h k).1 k
theorem notes_dom (h : List Sc) : ∀ (k : Nat) (q : ByteArray), notes h k q ≠ none → ∃ i, i < k ∧ (el h i).1 = q
  | 0, q, hq => absurd rfl hq
  | k + 1, q, hq => by
    by_cases e : q = (el h k).1
    · exact ⟨k, by omega, e.symm⟩
    · have hq' : note (notes h k) (el h k).1 k q ≠ none := hq
      rw [note_other _ _ e] at hq'
      obtain ⟨i, hi, he⟩ := notes_dom h k q hq'
      exact ⟨i, by omega, he⟩
theorem notes_at {h : List Sc} (hu : Uniq h) : ∀ {k : Nat}, k ≤ h.length → ∀ i, i < k → notes h k (el h i).1 = some i
  | 0, _, i, hi => by omega
  | k + 1, hk, i, hi => by
    show note (notes h k) (el h k).1 k (el h i).1 = some i
    by_cases e : i = k
    · subst e
      exact note_at _ _ _
    · rw [note_other _ _ (fun e2 => e (uniq_at hu (el_get (by omega)) (el_get (by omega)) e2))]
      exact notes_at hu (by omega) i (by omega)
/-- What a call that may write leaves of a timer. -/
def Done (w : World) (p : Nat) (O : List Nat) (h' : List Sc) (w' : World) : Prop := ∃ O', Tm w' p O' h' ∧ Only O w w' ∧ ∀ b ∈ O', b ∈ O ∨ w.heap.size ≤ b
theorem Done.same {w w' : World} {p : Nat} {O : List Nat} {h : List Sc} (k : Tm w p O h) (ho : Only [] w w') : Done w p O h w' := ⟨O, k.keep ho (by simp), ho.mono (by simp), fun _ hb => Or.inl hb⟩
/-- The new row and the new map, the first k places noted. -/
structure Ft (w W : World) (p : Nat) (A : Option Addr) (n c m k : Nat) (h : List Sc) : Prop where
  head : W.heap[p]? = some (.cells #[.slice A n c, .map (some m)] 53 (0, 0))
  row : RowS W w.heap.size (.slice A n c) h
  map : MapAt W m k (notes h k)
  mnew : w.heap.size ≤ m
  ap : (Value.slice A n c).ownBlock ≠ some m
  only : Only [p] w W
theorem Ft.same {w W W' : World} {p n c m k : Nat} {A : Option Addr} {h : List Sc} (s : Ft w W p A n c m k h) (ho : Only [] W W') : Ft w W' p A n c m k h :=
  ⟨ho.keep s.head (by simp), s.row.none ho, s.map.keep ho (by simp), s.mnew, s.ap, only_nil s.only ho⟩
theorem Ft.step {w W W' : World} {p n c m k : Nat} {A : Option Addr} {h : List Sc} (s : Ft w W p A n c m k h) (hp : p < w.heap.size) (hm : MapAt W' m (k + 1) (note (notes h k) (el h k).1 k)) (ho : Only [m] W W') : Ft w W' p A n c m (k + 1) h := by
  have h1 := s.mnew
  refine ⟨ho.keep s.head (fun e => by have := List.mem_singleton.1 e; omega), s.row.only ho (fun b hb e => s.ap (by rw [hb, List.mem_singleton.1 e])), hm, s.mnew, s.ap, s.only.trans ho (fun x hx => Or.inr (by rw [List.mem_singleton.1 hx]; exact h1))⟩
theorem Ft.done {w W : World} {p n c m : Nat} {A : Option Addr} {h : List Sc} {O : List Nat} (s : Ft w W p A n c m n h) (hp : p < w.heap.size) (hpO : p ∈ O) (hn : h.length = n) (hk : ∀ x ∈ h, x.1.size ≤ maxLen) (hfew : n ≤ 1000000) (hu : Uniq h) (hh : Hp (el h) n) : Done w p O h W := by
  subst hn
  have h1 := s.mnew
  have h2 := fun b hb => (s.row.lt b hb).1
  refine ⟨own p (.slice A h.length c) (some m), Or.inr ⟨_, m, notes h h.length, ⟨s.head, s.row.base (Nat.zero_le _), s.map, by omega, fun e => by have := h2 _ e; omega, by omega, s.ap, hk, hfew, hu, fun q hq => ?_⟩, fun k x hx => ?_, hh, rfl⟩, s.only.mono (fun x hx => by rw [List.mem_singleton.1 hx]; exact hpO), fun b hb => ?_⟩
  · obtain ⟨i, hi, e⟩ := notes_dom h _ q hq
    exact ⟨el h i, List.mem_of_getElem? (el_get hi), e⟩
  · obtain ⟨hl, _⟩ := List.getElem?_eq_some_iff.1 hx
    have := notes_at hu (Nat.le_refl _) k hl
    rw [el_at hx] at this
    exact this
  · rcases mem_own.1 hb with rfl | hb | rfl
    · exact Or.inl hpO
    · exact Or.inr (h2 _ hb)
    · exact Or.inr h1
theorem run_makeMap_n (w : World) (n : Int) : (Instr.makeMap 51 (some (.int .i64 n))).run Try.prog w = .ok (.map (some w.heap.size)) (w.alloc (.map #[] 0)) := by
  simp [Instr.makeMap, run_underlying Try.underlying51, asInt, Result.andThen, go_sem]
set_option maxHeartbeats 8000000 in
theorem fit_any {w : World} {p : Nat} {O : List Nat} {h : List Sc} (hT : Tm w p O h) :
    Calls Try.prog 26 #[.pointer (some ⟨p, 0, none⟩)] w fun e w' => e = .returned (.tuple #[]) ∧ Done w p O h w' := by
  obtain ⟨hv, mv, h1, h2, h3, hpO⟩ := hT.heads
  have hfew := hT.few
  have hTH := Lib.hid hT
  have hplt := Lib.hid (hT.lt hpO)
  have hpOH := Lib.hid hpO
  obtain ⟨cap, hcap, A0, hAe⟩ : ∃ cap, cap ≤ maxLen ∧ ∃ A0, hv = .slice A0 h.length cap := by
    rcases h2.form with ⟨rfl, rfl⟩ | ⟨g, cap, rfl, _⟩
    · exact ⟨0, Nat.zero_le _, none, rfl⟩
    · exact ⟨cap, (rowS_block h2).2.2.1, _, rfl⟩
  subst hAe
  have c0 : w.cell? ⟨p, 0, none⟩ = some (.slice A0 h.length cap) := Lib.cell_of_heap h1 0
  unfold maxLen at hcap
  obtain ⟨n, hnn⟩ : ∃ n, n = h.length := ⟨_, rfl⟩
  have hnH := Lib.hid hnn
  rw [← hnn] at c0 hfew h1 h2
  have hfewH := Lib.hid hfew
  have hwr : IntKind.i64.wrap (4 * (n : Int)) = 4 * (n : Int) := wrap_small (by omega)
  have hh1 := Lib.hid h1
  have hrow := Lib.hid h2
  by_cases hc8 : cap ≤ 8
  · have hd : decide ((cap : Int) ≤ 8) = true := decide_eq_true (by omega)
    clear h1 h2 h3 hT hpO hfew hnn
    go_enter Try.func26, Try.ntmps26
    go_wp2_with fail
    go_quiet (fail)
    go_wp2_with fail
    (try simp only [Exit.inBlock, Exit.then]); refine bodyPost_ret (results_none rfl _ _ _) rfl ?_
    exact ⟨rfl, Done.same hTH.out ((Only.refl [] w).drewN _)⟩
  · have hd : decide ((cap : Int) ≤ 8) = false := decide_eq_false (by omega)
    by_cases h4 : cap ≤ 4 * n
    · have hd4 : decide ((cap : Int) ≤ 4 * (n : Int)) = true := decide_eq_true (by omega)
      clear h1 h2 h3 hT hpO hfew hnn
      go_enter Try.func26, Try.ntmps26
      go_wp2_with fail
      go_quiet (fail)
      go_wp2_with fail
      (try simp only [Exit.inBlock, Exit.then]); refine bodyPost_ret (results_none rfl _ _ _) rfl ?_
      exact ⟨rfl, Done.same hTH.out ((Only.refl [] w).drewN _)⟩
    · have hd4 : decide ((cap : Int) ≤ 4 * (n : Int)) = false := decide_eq_false (by omega)
      have hc8' : ¬ (cap : Int) ≤ 8 := by omega
      have h4' : ¬ (cap : Int) ≤ 4 * (n : Int) := by omega
      clear h1 h2 h3 hT hpO hfew hnn
      go_enter Try.func26, Try.ntmps26
      go_wp2_with fail
      go_quiet (fail)
      go_upto_region 1 with (fail)
      have ho1 : Hid (Only [] w (w.drewN nq)) := Lib.hid ((Only.refl [] w).drewN _)
      generalize w.drewN nq = w1 at *
      have hh2 := Lib.hid (ho1.out.keep hh1.out (by simp))
      have hrow2 := Lib.hid (hrow.out.none ho1.out)
      have hT2 := Lib.hid (hTH.out.keep ho1.out (by simp))
      have c02 : w1.cell? ⟨p, 0, none⟩ = some (.slice A0 n cap) := Lib.cell_of_heap hh2.out 0
      have hplt2 := Lib.hid (hT2.out.lt hpOH.out)
      clear hd hd4 hc8 hc8' h4 h4' c0 hwr
      have hsrc := Lib.hid (hrow2.out.src)
      have c03 := fun o => cell_past c02 o
      go_upto_region 2 with (first
        | (at_builtin; (refine wpList_append_s (o := ⟨some 30, _, _, _, _, _⟩) (by rfl) (.tmp 25) (.tmp 29) (by rfl) w1.heap.size (.slice (some ⟨w1.heap.size, 0, none⟩) 0 0) (.slice A0 n cap) [] h (by rfl) (by rfl) (rowS_mk (L := []) (C := #[]) (heap_alloc_new w1 _) rfl (by simp) (fun j x hj => by simp at hj) (Nat.le_refl _)) (hsrc.out.none ((Only.refl [] w1).alloc _)) (by have := hfewH.out; have := hnH.out; simp; omega) (by simp) ?_; intro v3 w3 hR3 hO3 hv3; have hO13 := Lib.hid (own_newS hO3 ((Only.refl [] w1).alloc _) (fun k hk => by cases hk; exact Nat.le_refl _)); have hR4 := Lib.hid (show RowS w3 w1.heap.size v3 h from hR3); obtain ⟨A3, c3, hve⟩ := hR4.out.len; rw [← hnH.out] at hve; subst hve; have hh3 := Lib.hid (hO13.out.keep hh2.out (by simp)); have e0 := Lib.cell_of_heap hh3.out 0; have f0 : w3.frozen? ⟨p, 0, none⟩ = false := Joins.unfrozen_of_block hh3.out 0; clear hR3 hO3 hv3)))
      have hh4 := Lib.hid (Joins.block_setCell (i := 0) hh3.out (.slice A3 n c3))
      have ho14 := Lib.hid (((hO13.out.mono (O' := [p]) (by simp)).set (p := ⟨p, 0, none⟩) (Or.inl (by simp)) (.slice A3 n c3)))
      have hlt4 := Lib.hid (hR4.out.lt)
      have hR5 : Hid (RowS (w3.setCell ⟨p, 0, none⟩ (.slice A3 n c3)) w1.heap.size (.slice A3 n c3) h) := Lib.hid (hR4.out.only (((Only.refl [p] w3).set (p := ⟨p, 0, none⟩) (Or.inl (by simp)) _)) (fun b hb e => by have := (hR4.out.lt b hb).1; have := hplt2.out; have := List.mem_singleton.1 e; omega))
      generalize w3.setCell ⟨p, 0, none⟩ (.slice A3 n c3) = w4 at *
      have hmk := fun w => run_makeMap_n w (n : Int)
      have d0 : w4.cell? ⟨p, 0, none⟩ = some (.slice A3 n c3) := Lib.cell_of_heap hh4.out 0
      have hh5 := Lib.hid (((Only.refl [] w4).alloc (.map #[] 0)).keep hh4.out (by simp))
      have d1 := Lib.cell_of_heap hh5.out 1
      have f1 : (w4.alloc (.map #[] 0)).frozen? ⟨p, 1, none⟩ = false := Joins.unfrozen_of_block hh5.out 1
      go_upto_region 3 with (fail)
      have hft : Hid (Ft w ((w4.alloc (.map #[] 0)).setCell ⟨p, 1, none⟩ (.map (some w4.heap.size))) p A3 n c3 w4.heap.size 0 h) := Lib.hid (by
        have hm4 : p < w4.heap.size := some_lt hh4.out
        have o1 : Only [] w4 (w4.alloc (.map #[] 0)) := (Only.refl [] w4).alloc _
        have o2 : Only [p] (w4.alloc (.map #[] 0)) ((w4.alloc (.map #[] 0)).setCell ⟨p, 1, none⟩ (.map (some w4.heap.size))) := (Only.refl [p] _).set (p := ⟨p, 1, none⟩) (Or.inl (by simp)) _
        have hr5 := hR5.out
        have h14 := ho14.out.size
        refine ⟨Joins.block_setCell (i := 1) hh5.out _, ((hr5.none o1).only o2 (fun b hb e => ?_)).base ho1.out.size, map_made.keep o2 (fun e => by have := List.mem_singleton.1 e; omega), by have := ho1.out.size; omega, fun e => ?_, ?_⟩
        · have := (hr5.lt b hb).1
          have := hplt2.out
          have := List.mem_singleton.1 e
          omega
        · have := (hr5.lt _ e).2
          omega
        · exact ((ho1.out.mono (O' := [p]) (by simp)).trans ho14.out (fun x hx => Or.inl hx)).trans ((o1.mono (O' := [p]) (by simp)).trans o2 (fun x hx => Or.inl hx)) (fun x hx => Or.inl hx))
      clear hh5 d0 d1 f1 hh4 hR5 hlt4 ho14 hh3 hR4 hO13 hsrc c03 hplt2 c02 hT2 hrow2 hh2 e0 f0 hmk
      generalize hw5 : (w4.alloc (.map #[] 0)).setCell ⟨p, 1, none⟩ (.map (some w4.heap.size)) = w5 at *
      generalize w4.heap.size = m at *
      clear hw5
      have d0 : w5.cell? ⟨p, 0, none⟩ = some (.slice A3 n c3) := Lib.cell_of_heap hft.out.head 0
      have hle1 : Hid (n ≤ 1000000) := hfewH
      go_wp2_with fail
      clear d0
      go_loopw [47] (fun s47 wr => ∃ k : Nat, k ≤ n ∧ s47 = .int .i64 k ∧ Hid (Ft w wr p A3 n c3 m k h)) (fun s47 _ => n - (intOf s47).toNat)
      case atStart => exact ⟨0, by omega, rfl, hft⟩
      case round =>
        obtain ⟨k, hk, rfl, hs⟩ := hrel
        have hkb : (k : Int) ≤ 1000000 := by have := hfewH.out; omega
        by_cases hkn : k < n
        · have hform := hs.out.row.form
          have hkl : k < h.length := by rw [← hnH.out]; exact hkn
          rcases hform with ⟨_, hz⟩ | ⟨g, cap', he, _, _, _, hc⟩
          · rw [hz] at hkl; simp at hkl
          · have hA : A3 = some ⟨g, 0, none⟩ := by injection he
            clear he
            subst hA
            obtain ⟨c0, c1⟩ := hc k _ (el_get hkl)
            have hix := run_ixS g k n c3 hkn
            have hkey := Lib.hid (hTH.out.keys _ (List.mem_of_getElem? (el_get hkl)))
            have hstp := Lib.hid (fun W (ho : Only [] wr W) => hs.out.same ho)
            have hlt : decide ((k : Int) < (n : Int)) = true := decide_eq_true (by omega)
            have hput : Hid (∀ W, Ft w W p (some ⟨g, 0, none⟩) n c3 m k h → ∃ W', (Instr.mapUpdate 51 (.map (some m)) (.string (el h k).1) (.int .i64 (k : Int))).run Try.prog W = .ok () W' ∧ Ft w W' p (some ⟨g, 0, none⟩) n c3 m (k + 1) h) := Lib.hid (fun W s => by
              obtain ⟨W', hr, hm, ho⟩ := s.map.put (el h k).1 hkey.out k (by have := hfewH.out; omega) (by have := hfewH.out; omega) (c' := k + 1) (Or.inr (Nat.le_refl _))
              exact ⟨W', hr, s.step hplt.out hm ho⟩)
            have hknH := Lib.hid hkn
            clear hkl hc hkn hkey
            generalize el h k = x at *
            obtain ⟨xa, xs⟩ := x
            simp only at c0 c1 hput
            have hb6 := heap_alloc_new wr (.cells #[.string xa, .int .i64 xs] 44)
            have ho6 : Only [] wr (wr.alloc (.cells #[.string xa, .int .i64 xs] 44)) := (Only.refl [] wr).alloc _
            go_upto_region 6 with (fail)
            generalize wr.alloc (.cells #[.string xa, .int .i64 xs] 44) = w6 at *
            generalize wr.heap.size = b at *
            have hs6 := hstp.out _ ho6
            have d1 : w6.cell? ⟨p, 1, none⟩ = some (.map (some m)) := Lib.cell_of_heap hs6.head 1
            have d2 : w6.cell? ⟨b, 0, none⟩ = some (.string xa) := Lib.cell_of_heap hb6 0
            have hs7 := Lib.hid (hs6.same ((Only.refl [] w6).drew))
            clear hs6 ho6 hb6 c0 c1
            go_still_tail 7, (by kernel_rfl)
            change wpList _ _ _ _ _ w6.drew
            generalize w6.drew = w7 at *
            obtain ⟨w8, hr8, hs8⟩ := hput.out _ hs7.out
            have hs8H := Lib.hid hs8
            clear hs8
            go_wp2
            go_roundw
            case rel => exact ⟨k + 1, by have := hknH.out; omega, by go_num, hs8H⟩
            case measure => have := hknH.out; simp [intOf]; omega
        · have hkn' : k = n := by omega
          subst hkn'
          go_wp2_with fail
          go_end0
          have hTo := hTH.out
          exact ⟨rfl, hs.out.done hplt.out hpOH.out hnH.out.symm hTo.keys hfewH.out hTo.uq (by rw [hnH.out]; exact hTo.hp)⟩
end Go.Proofs.Ytbaghdfalhlhcaa
