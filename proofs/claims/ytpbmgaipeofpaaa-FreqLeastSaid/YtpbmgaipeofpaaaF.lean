/-
  A touch and a drop of a ring's key. Premises: a ring as it lies, of at most a million keys.
-/
import Derived.Test.YtpbmgaipeofpaaaE
import Derived.Deep.RegionLaw
import Derived.Deep.RegionHeld3
namespace Go.Proofs.Ytpbmgaipeofpaaa
open Go.RowKit
variable {w w' : World} {g m room : Nat} {bs : Nds} {nx pv : Nat → Nat} {f : ByteArray → Option Nat}

theorem drew_only (w : World) : Only [] w w.drew := (Only.refl [] w).drew
theorem cells_only (w : World) (g : Nat) (i : Nat) : w.drew.cell? ⟨g, i, none⟩ = w.cell? ⟨g, i, none⟩ := rfl
theorem Rg.moved {bs' : Nds} {nx' pv' : Nat → Nat} (h : Rg w g m room bs nx pv f) (hp : bs'.Perm bs) (hr : Raw w' g m room 0 bs' nx' pv') (hl : Lk nx' pv' g (blk bs') g) (hm : MapAt w' m bs.length f) : Rg w' g m room bs' nx' pv' f where
  raw := hr
  lk := hl
  apart := ((hp.map Prod.fst).cons g).nodup_iff.2 h.apart
  map := by rw [hp.length_eq]; exact hm
  uq := (hp.map Prod.snd).nodup_iff.2 h.uq
  sizes := fun q hq => h.sizes q (hp.mem_iff.1 hq)
  notes := fun q hq => h.notes q (hp.mem_iff.1 hq)
  dom := fun k hk => (hp.map Prod.snd).mem_iff.2 (h.dom k hk)
  few := by rw [hp.length_eq]; exact h.few
  rfew := h.rfew
theorem tip_perm (xs ys : Nds) (q : Nat × ByteArray) : (xs ++ ys ++ [q]).Perm (xs ++ q :: ys) := by
  rw [List.append_assoc]
  exact List.Perm.append_left xs (List.perm_append_comm (l₁ := ys) (l₂ := [q]))
set_option maxHeartbeats 4000000 in
theorem touch_old {xs ys : Nds} {b : Nat} {key : ByteArray} (h : Rg w g m room (xs ++ (b, key) :: ys) nx pv f) (hk : key.size ≤ maxLen) :
    Calls Try.prog 36 #[ptr g, .string key] w fun e w' => e = .returned (.bool false) ∧ (∃ nx' pv', Rg w' g m room (xs ++ ys ++ [(b, key)]) nx' pv' f) ∧ Only (own g m (xs ++ (b, key) :: ys)) w w' := by
  have hm : (b, key) ∈ xs ++ (b, key) :: ys := by simp
  have hf : f key = some b := h.notes _ hm
  have c3 : w.cell? ⟨g, 3, none⟩ = some (.map (some m)) := Lib.cell_of_heap h.raw.head 3
  obtain ⟨v, hlook, hv⟩ := h.map.look key hk
  rw [hv b hf, hf] at hlook
  have hlook : (Instr.lookup 74 (.map (some m)) (.string key) true).run Try.prog w = .ok (.tuple #[ptr b, .bool true]) w := hlook
  have hA : (blk (xs ++ (b, key) :: ys)) = blk xs ++ b :: blk ys := by simp
  have hap := h.apart
  rw [hA] at hap
  have hbn : b ∉ g :: blk (xs ++ ys) := by
    rw [blk_app]
    grind
  have hap2 : (g :: blk (xs ++ ys)).Nodup := by
    rw [blk_app]
    grind
  have hleave := Lib.hid (leave_out h.raw h.lk h.apart)
  have hH := Lib.hid h
  have hvH := Lib.hid hm
  clear hv hf hA hap h hm
  go_enter Try.func36, Try.ntmps36
  go_wp2_with (go_at_call 42; ((with_reducible refine (hleave.out).mono ?_); rintro e w1 ⟨rfl, ⟨nx1, pv1, k1, k2, u, v, k3⟩, o1⟩; have c1 := (k1.cells (p := g) (by simp)).1; have hen := Lib.hid (fun W (hW : Only [] w1 W) => enter_in (w := W) (k1.keep hW (by simp)) k2 hap2 hbn (hW.keep k3 (by simp)) (cell_keep hW c1)); have k1H := Lib.hid k1; have o1H := Lib.hid o1; clear k1 k2 k3 o1))
  go_region_with (first | (go_at_call 43; (with_reducible refine (hen.out _ (Only.refl _ _)).mono ?_); rintro e w2 ⟨rfl, hq2, o2⟩) | (go_at_call 43; (with_reducible refine (hen.out _ (drew_only _)).mono ?_); rintro e w2 ⟨rfl, hq2, o2⟩))
  go_wp2_with fail
  go_ret
  obtain ⟨nx2, pv2, q1, q2⟩ := hq2
  have hB : b ∈ blk (xs ++ (b, key) :: ys) := mem_blk hvH.out
  have o3 : Only (g :: blk (xs ++ (b, key) :: ys)) w w2 := o1H.out.drew.trans o2 (fun x hx => Or.inl (by
    rcases List.mem_cons.1 hx with rfl | hx
    · exact List.mem_cons_of_mem _ hB
    · rcases List.mem_cons.1 hx with rfl | hx
      · simp
      · rw [blk_app] at hx
        simp only [blk, List.map_append, List.map_cons, List.mem_append, List.mem_cons] at hx ⊢
        rcases hx with hx | hx
        · exact Or.inr (Or.inl hx)
        · exact Or.inr (Or.inr (Or.inr hx))))
  exact ⟨rfl, ⟨nx2, pv2, hH.out.moved (tip_perm _ _ _) q1 q2 (hH.out.map.keep o3 hH.out.m_apart)⟩, o3.mono (fun x hx => mem_own.2 (Or.inr hx))⟩
set_option maxHeartbeats 4000000 in
theorem touch_new {key : ByteArray} (h : Rg w g m room bs nx pv f) (hk : key.size ≤ maxLen) (hn : key ∉ keysN bs) (hl : bs.length < 1000000) :
    Calls Try.prog 36 #[ptr g, .string key] w fun e w' => e = .returned (.bool true) ∧ (∃ b room' nx' pv' f', w.heap.size ≤ b ∧ Rg w' g m room' (bs ++ [(b, key)]) nx' pv' f') ∧ Only (own g m bs) w w' := by
  have hf : f key = Option.none := h.none hn
  have c3 : w.cell? ⟨g, 3, none⟩ = some (.map (some m)) := Lib.cell_of_heap h.raw.head 3
  obtain ⟨v, hlook, _⟩ := h.map.look key hk
  rw [hf] at hlook
  have hlook : (Instr.lookup 74 (.map (some m)) (.string key) true).run Try.prog w = .ok (.tuple #[v, .bool false]) w := hlook
  have hgn := Lib.hid (h.lt (b := g) (mem_own.2 (Or.inr (by simp))))
  obtain ⟨W1, hW1⟩ : ∃ W1, W1 = w.alloc (.cells #[.string key, .pointer none, .pointer none] 73 (0, 0)) := ⟨_, rfl⟩
  have o1 : Only [] w W1 := by rw [hW1]; exact (Only.refl [] w).alloc _
  have hB1 : W1.heap[w.heap.size]? = some (.cells #[.string key, .pointer none, .pointer none] 73 (0, 0)) := by rw [hW1]; exact heap_alloc_new w _
  have h1 := h.keep o1 (by simp)
  obtain ⟨w2, hput, hm2, o2⟩ := h1.map.put key hk w.heap.size (by omega) hf
  have c31 : W1.cell? ⟨g, 3, none⟩ = some (.map (some m)) := cell_keep o1 c3
  have hW1H := Lib.hid hW1
  have hH := Lib.hid h
  have o1H := Lib.hid o1
  have o2H := Lib.hid o2
  have hB1H := Lib.hid hB1
  have hm2H := Lib.hid hm2
  have hnH := Lib.hid hn
  have hlH := Lib.hid hl
  clear hf h h1 o1 o2 hm2 hB1 hW1 hn hl
  go_enter Try.func36, Try.ntmps36
  go_upto_region 5 with (fail)
  rw [← hW1H.out]
  go_upto_region 6 with (fail)
  have hma := hH.out.m_apart
  have hR2 := (hH.out.raw.keep o1H.out (by simp)).keep o2H.out (fun b hb hm => hma (by rw [← List.mem_singleton.1 hm]; exact hb))
  have c32 : w2.cell? ⟨g, 3, none⟩ = some (.map (some m)) := Lib.cell_of_heap hR2.head 3
  have c42 : w2.cell? ⟨g, 4, none⟩ = some (.int .i64 (room : Int)) := Lib.cell_of_heap hR2.head 4
  have z42 : w2.frozen? ⟨g, 4, none⟩ = false := block_frozen hR2.head
  have hlen : ∀ ty, (Builtin.len_ #[74] ty #[.map (some m)]).run Try.prog w2.drew = .ok (.int .i64 ((bs.length + 1 : Nat) : Int)) w2.drew := fun ty => (hm2H.out.keep (drew_only w2) (by simp)).len ty
  obtain ⟨n1, hn1⟩ : ∃ n1 : Nat, n1 = bs.length + 1 := ⟨_, rfl⟩
  rw [← hn1] at hlen
  have hn1H := Lib.hid hn1
  have hR2H := Lib.hid hR2
  have hmaH := Lib.hid hma
  clear hn1 hR2 hma c3 c31 hput hlook
  have hr2 : ∃ r2 : Nat, (if room < n1 then (n1 : Int) else (room : Int)) = (r2 : Int) ∧ r2 ≤ 1000000 := by
    have h1 := hn1H.out
    have h2 := hlH.out
    have h3 := hH.out.rfew
    by_cases hc : room < n1
    · exact ⟨n1, if_pos hc, by omega⟩
    · exact ⟨room, if_neg hc, h3⟩
  obtain ⟨r2, hr2, hr2b⟩ := hr2
  have hr2H := Lib.hid hr2
  have hr2bH := Lib.hid hr2b
  clear hr2 hr2b
  go_region
  all_goals go_upto_region 7 with (fail)
  rw [hr2H.out]
  obtain ⟨W3, hW3⟩ : ∃ W3, W3 = (w2.setCell ⟨g, 4, none⟩ (.int .i64 (r2 : Int))).drew := ⟨_, rfl⟩
  rw [← hW3]
  have o3 : Only [g] w2 W3 := by rw [hW3]; exact (((Only.refl [g] w2).set (p := ⟨g, 4, none⟩) (Or.inl (by simp)) _)).drew
  have hgb : g ∉ blk bs := (List.nodup_cons.1 hH.out.apart).1
  have hR3 : Raw W3 g m r2 0 bs nx pv := by
    refine ⟨?_, fun q hq => ?_⟩
    · rw [hW3]
      show (w2.setCell ⟨g, 4, none⟩ (.int .i64 (r2 : Int))).heap[g]? = _
      rw [Joins.block_setCell hR2H.out.head]
      rfl
    · exact o3.keep (hR2H.out.node q hq) (fun hm => hgb (by rw [← List.mem_singleton.1 hm]; exact mem_blk hq))
  obtain ⟨b, hbe⟩ : ∃ b, b = w.heap.size := ⟨_, rfl⟩
  rw [← hbe]
  have hmlt : m < w.heap.size := hH.out.map.lt
  have hglt := hgn.out
  have hB3 : W3.heap[b]? = some (.cells #[.string key, .pointer none, .pointer none] 73 (0, 0)) := by
    rw [hbe]
    exact o3.keep (o2H.out.keep hB1H.out (fun hm => by have := List.mem_singleton.1 hm; omega)) (fun hm => by have := List.mem_singleton.1 hm; omega)
  have hbn : b ∉ g :: blk bs := fun hm => by
    have := hH.out.raw.lt hm
    omega
  have hm3 := hm2H.out.keep o3 (fun hm => hmaH.out (by rw [List.mem_singleton.1 hm]; simp))
  rw [← hbe] at hm3
  have c1 := (hR3.cells (p := g) (by simp)).1
  have hen := Lib.hid (fun W (hW : Only [] W3 W) => enter_in (w := W) (hR3.keep hW (by simp)) hH.out.lk hH.out.apart hbn (hW.keep hB3 (by simp)) (cell_keep hW c1))
  have hbeH := Lib.hid hbe
  have o3H := Lib.hid o3
  have hm3H := Lib.hid hm3
  have hbnH := Lib.hid hbn
  clear hW3 hR3 hB3 hbe hmlt hglt hm3 hbn o3 c32 c42 z42 hlen hgb
  go_region_with (first | (go_at_call 43; (with_reducible refine (hen.out _ (Only.refl _ _)).mono ?_); rintro e w4 ⟨rfl, hq2, o4⟩) | (go_at_call 43; (with_reducible refine (hen.out _ (drew_only _)).mono ?_); rintro e w4 ⟨rfl, hq2, o4⟩))
  go_wp2_with fail
  go_ret
  obtain ⟨nx2, pv2, q1, q2⟩ := hq2
  have hn := hnH.out
  have hbe := hbeH.out
  have hbn := hbnH.out
  have hR := hH.out
  have hbm : b ≠ m := fun e => by have := hR.map.lt; omega
  have o5 : Only (own g m bs) w w4 := by
    have a1 : Only (own g m bs) w W3.drew := (((o1H.out.mono (by simp)).trans o2H.out (fun x hx => Or.inl (mem_own.2 (Or.inl (List.mem_singleton.1 hx))))).trans o3H.out (fun x hx => Or.inl (mem_own.2 (Or.inr (by rw [List.mem_singleton.1 hx]; simp))))).drew
    refine a1.trans o4 (fun x hx => ?_)
    rcases List.mem_cons.1 hx with rfl | hx
    · exact Or.inr (by omega)
    · exact Or.inl (mem_own.2 (Or.inr hx))
  refine ⟨rfl, ⟨b, r2, nx2, pv2, note f key b, by omega, ?_⟩, o5⟩
  exact {
    raw := q1
    lk := q2
    apart := by
      rw [blk_app]
      have := hR.apart
      grind
    map := by
      rw [List.length_append]
      exact (hm3H.out.keep (drew_only _) (by simp)).keep o4 (fun hm => by
        rcases List.mem_cons.1 hm with e | hm
        · exact hbm e.symm
        · exact hmaH.out hm)
    uq := by
      have := hR.uq
      simp only [keysN, List.map_append, List.map_cons, List.map_nil] at this hn ⊢
      grind
    sizes := fun q hq => by
      rcases List.mem_append.1 hq with hq | hq
      · exact hR.sizes q hq
      · rw [List.mem_singleton.1 hq]; exact hk
    notes := fun q hq => by
      rcases List.mem_append.1 hq with hq | hq
      · have hqk : q.2 ≠ key := fun e => hn (by rw [← e]; exact List.mem_map.2 ⟨q, hq, rfl⟩)
        rw [note_other _ _ hqk]
        exact hR.notes q hq
      · rw [List.mem_singleton.1 hq]; exact note_at _ _ _
    dom := fun k hk' => by
      by_cases e : k = key
      · subst e
        simp
      · rw [note_other _ _ e] at hk'
        have := hR.dom k hk'
        simp only [keysN, List.map_append, List.mem_append] at this ⊢
        exact Or.inl this
    few := by
      have := hlH.out
      simp
      omega
    rfew := hr2bH.out }
end Go.Proofs.Ytpbmgaipeofpaaa
