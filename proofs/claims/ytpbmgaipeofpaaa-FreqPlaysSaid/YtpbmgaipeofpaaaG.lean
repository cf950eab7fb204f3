/-
  A drop of a ring's key; a new ring. Premises: a ring as it lies, of at most a million keys; a row of keys, each once.
-/
import Derived.Test.YtpbmgaipeofpaaaF
namespace Go.Proofs.Ytpbmgaipeofpaaa
open Go.RowKit
variable {w w' : World} {g m room : Nat} {bs : Nds} {nx pv : Nat → Nat} {f : ByteArray → Option Nat}

set_option maxHeartbeats 4000000 in
theorem drop_any {xs ys : Nds} {b : Nat} {key : ByteArray} (h : Rg w g m room (xs ++ (b, key) :: ys) nx pv f) (hk : key.size ≤ maxLen) :
    Calls Try.prog 38 #[ptr g, .string key] w fun e w' => e = .returned (.tuple #[]) ∧ (∃ nx' pv' f', Rg w' g m room (xs ++ ys) nx' pv' f') ∧ Only (own g m (xs ++ (b, key) :: ys)) w w' := by
  have hm : (b, key) ∈ xs ++ (b, key) :: ys := by simp
  have hf : f key = some b := h.notes _ hm
  have c3 : w.cell? ⟨g, 3, none⟩ = some (.map (some m)) := Lib.cell_of_heap h.raw.head 3
  have hlook := h.map.look1 key hk hf
  have hleave := Lib.hid (leave_out h.raw h.lk h.apart)
  have hdel := Lib.hid (fun W (hW : Only (g :: blk (xs ++ (b, key) :: ys)) w W) ty => (h.map.keep hW h.m_apart).del key hk hf ty)
  have hH := Lib.hid h
  have hkH := Lib.hid hk
  clear hm hf h hk
  go_enter Try.func38, Try.ntmps38
  go_upto_region 1 with (go_at_call 42; ((with_reducible refine (hleave.out).mono ?_); rintro e w1 ⟨rfl, ⟨nx1, pv1, k1, k2, u, v, k3⟩, o1⟩; have c31 : w1.cell? ⟨g, 3, none⟩ = some (.map (some m)) := Lib.cell_of_heap k1.head 3; have o1H := Lib.hid o1; have k1H := Lib.hid k1; have k2H := Lib.hid k2; clear k1 k2 k3 o1))
  obtain ⟨w2, hd, hm2, o2⟩ := hdel.out w1 o1H.out 0
  have hm2H := Lib.hid hm2
  have o2H := Lib.hid o2
  clear hm2 o2 c3 hlook
  go_wp2_with fail
  go_end0
  have hR := hH.out
  have hma := hR.m_apart
  have hxy : ∀ x ∈ g :: blk (xs ++ ys), x ∈ g :: blk (xs ++ (b, key) :: ys) := fun x hx => by
    simp only [blk, List.map_append, List.map_cons, List.mem_append, List.mem_cons] at hx ⊢
    grind
  have hsub : ∀ q ∈ xs ++ ys, q ∈ xs ++ (b, key) :: ys := fun q hq => by
    rcases List.mem_append.1 hq with h2 | h2
    · exact List.mem_append_left _ h2
    · exact List.mem_append_right _ (List.mem_cons_of_mem _ h2)
  have hu := hR.uq
  have hkn : key ∉ keysN (xs ++ ys) := by
    simp only [keysN, List.map_append, List.map_cons] at hu ⊢
    grind
  refine ⟨rfl, ⟨nx1, pv1, unnote f key, ?_⟩, ?_⟩
  · exact {
      raw := k1H.out.keep o2H.out (fun x hx hm => hma (by rw [← List.mem_singleton.1 hm]; exact hxy x hx))
      lk := k2H.out
      apart := by
        have := hR.apart
        simp only [blk, List.map_append, List.map_cons] at this ⊢
        grind
      map := by
        have e : (xs ++ (b, key) :: ys).length - 1 = (xs ++ ys).length := by simp
        rw [← e]
        exact hm2H.out
      uq := by
        simp only [keysN, List.map_append, List.map_cons] at hu ⊢
        grind
      sizes := fun q hq => hR.sizes q (hsub q hq)
      notes := fun q hq => by
        have hqk : q.2 ≠ key := fun e => hkn (by rw [← e]; exact List.mem_map.2 ⟨q, hq, rfl⟩)
        unfold unnote
        rw [if_neg hqk]
        exact hR.notes q (hsub q hq)
      dom := fun k hk' => by
        unfold unnote at hk'
        by_cases e : k = key
        · rw [if_pos e] at hk'
          exact absurd rfl hk'
        · rw [if_neg e] at hk'
          have := hR.dom k hk'
          simp only [keysN, List.map_append, List.map_cons, List.mem_append, List.mem_cons] at this ⊢
          grind
      few := by
        have := hR.few
        simp at this ⊢
        omega
      rfew := hR.rfew }
  · refine (o1H.out.mono (fun x hx => mem_own.2 (Or.inr hx))).trans o2H.out (fun x hx => Or.inl (mem_own.2 (Or.inl (List.mem_singleton.1 hx))))
end Go.Proofs.Ytpbmgaipeofpaaa
