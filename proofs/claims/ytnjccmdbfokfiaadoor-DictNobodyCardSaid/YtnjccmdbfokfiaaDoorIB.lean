/-
  The walk of the law of a table that is none, or that nobody made. The table of factors holds what the program's text lays.
-/
import Derived.Test.YtnjccmdbfokfiaaDoorIA
namespace Go.Proofs.YtnjccmdbfokfiaaDoor
open Go.RowKit

theorem one_put {B T : Nat} {seed : Int} {G : Tb} {key : ByteArray} {v : Int} {n : Bool} {w w' : World} (h : PutRes B (newX T seed) G key v n w w') : G.new = [] ∧ G.old.length = 4 ∧ ∃ b, G.ents = [(b, key, v)] := by
  obtain ⟨Y, m, hS, _, hh⟩ := h.how
  have hr : rem (newX T seed) = 0 := by simp [rem, newX]
  obtain rfl : Y = newX T seed := steps_zero hS (by have := hS.rem; omega)
  rcases hh with ⟨_, hv⟩ | ⟨_, _, hc⟩
  · obtain ⟨b, old, R, h1, _⟩ := hv.ents
    have := h1.length_eq
    simp [Tb.ents, newX] at this
  · have ho : openLen (newX T seed) = 4 := by simp [openLen, newX]
    obtain ⟨b, hb⟩ := hc.ents
    have he : (newX T seed).ents = [] := by simp [Tb.ents, newX]
    rw [he] at hb
    refine ⟨?_, by rw [hc.old, ho], b, List.perm_singleton.1 hb⟩
    rcases hc.new with ⟨h1, _⟩ | ⟨_, h1, _⟩ | ⟨_, h1, _⟩
    · exact absurd rfl h1
    · exact h1
    · rw [ho] at h1; simp [newX] at h1
theorem one_chain {G : Tb} {b : Nat} {key : ByteArray} {v : Int} (hi : Inv G) (hn : G.new = []) (ho : G.old.length = 4) (he : G.ents = [(b, key, v)]) (n : Int) : (chOf G n).map (fun e => e.2.1) = if n = ((num G.seed key % 4 : Nat) : Int) then [key] else [] := by
  have hfl : G.old.flatten = [(b, key, v)] := by
    have h1 : G.ents = G.old.flatten := by unfold Tb.ents; rw [hn, hi.ext]; simp
    rw [← h1]; exact he
  have hmem : ∀ (i : Nat) (c : List En), G.old[i]? = some c → ∀ e ∈ c, e = (b, key, v) ∧ num G.seed key % 4 = i := by
    intro i c hc e hec
    have h1 : e ∈ G.old.flatten := List.mem_flatten.2 ⟨c, List.mem_of_getElem? hc, hec⟩
    rw [hfl] at h1
    have h2 : e = (b, key, v) := by simpa using h1
    have h3 := hi.pl0 i c hc e hec
    rw [ho, h2] at h3
    exact ⟨h2, h3⟩
  unfold chOf
  by_cases hin : 0 ≤ n ∧ n < G.old.length
  · rw [if_pos hin]
    obtain ⟨i, rfl⟩ := Int.eq_ofNat_of_zero_le hin.1
    have hil : i < G.old.length := by omega
    obtain ⟨c, hc⟩ : ∃ c, G.old[i]? = some c := ⟨_, List.getElem?_eq_getElem hil⟩
    have hg : G.old.getD (Int.toNat (i : Int)) [] = c := by simp [hc]
    rw [hg]
    by_cases hp : (i : Int) = ((num G.seed key % 4 : Nat) : Int)
    · rw [if_pos hp]
      have hm : ((b, key, v) : En) ∈ G.old.flatten := by rw [hfl]; simp
      obtain ⟨d, hd1, hd2⟩ := List.mem_flatten.1 hm
      obtain ⟨j, hj⟩ := List.getElem?_of_mem hd1
      have hji := (hmem j d hj _ hd2).2
      have hij : j = i := by omega
      subst hij
      have hdc : d = c := Option.some.inj (hj.symm.trans hc)
      rw [hdc] at hd2
      have hlen : c.length ≤ 1 := by
        obtain ⟨hi2, hc2⟩ := List.getElem?_eq_some_iff.1 hc
        have h4 : G.old.flatten = (G.old.take j).flatten ++ (G.old.drop j).flatten := by rw [← List.flatten_append, List.take_append_drop]
        have h5 := congrArg List.length h4
        rw [hfl, List.drop_eq_getElem_cons hi2, hc2, List.flatten_cons, List.length_append, List.length_append] at h5
        simp only [List.length_cons, List.length_nil] at h5
        omega
      clear hc hdc hg
      match c, hd2, hlen with
      | [x], hd2, _ =>
        have hx : (b, key, v) = x := by simpa using hd2
        rw [← hx]; rfl
    · rw [if_neg hp]
      have : c = [] := by
        match c, hc with
        | [], _ => rfl
        | x :: c, hc =>
          have := (hmem i _ hc x (List.mem_cons_self ..)).2
          exact absurd (by omega) hp
      rw [this]; rfl
  · rw [if_neg hin, if_neg]
    · rfl
    · intro hh
      apply hin
      have := Nat.mod_lt (num G.seed key) (show 0 < 4 by omega)
      rw [ho]; omega
theorem below_only {s : Nat} {w w' : World} (h : Below s w w') (hs : w.heap.size ≤ s) : Only [] w w' := ⟨h.mono (Nat.zero_le _), fun k hk _ => h.block k (by omega)⟩

set_option maxRecDepth 100000 in
set_option maxHeartbeats 8000000 in
theorem nobody_law (key : ByteArray) (v n : Int) (w : World) (hF : Fac w) (hz : 0 < w.heap.size) :
    Calls Tryd.prog 5 #[.string key, .int .i64 v, .int .i64 n] w fun e w' => e = .returned (.bool true) ∧ Below w.heap.size w w' := by
  have hFH := Lib.hid hF
  clear hF
  have hal : Hid (∀ w1, Below w.heap.size w w1 → Calls Tryd.prog 7 #[] w1 fun e w' => e = .returned (.bool true) ∧ Below w1.heap.size w1 w') := Lib.hid (fun w1 hb => alive_any w1 (fac_below hFH.out hz hb) (by have := hb.size; omega))
  by_cases hks : 200 < key.size
  · have hd : decide (200 < key.size) = true := by simpa using hks
    go_enter Tryd.func5, Tryd.ntmps5
    go_wp2_with (go_at_call 7; ((with_reducible refine (hal.out _ (Below.refl _ _)).mono ?_); rintro e w2 ⟨rfl, hb2⟩))
    all_goals first
      | (exfalso; omega)
      | (go_ret; exact ⟨rfl, hb2⟩)
  · have hksH := Lib.hid hks
    go_enter Tryd.func5, Tryd.ntmps5
    go_upto_region 10 with (first
      | (go_at_call 12; ((with_reducible refine (get_nil key _).mono ?_); rintro r w1 ⟨rfl, h1⟩; have h1H := Lib.hid h1; clear h1))
      | (go_at_call 16; ((with_reducible refine (clear_nil _).mono ?_); rintro r w' ⟨rfl, rfl⟩))
      | (go_at_call 9; ((with_reducible refine (put_nil key v _).mono ?_); rintro r w' ⟨rfl, rfl⟩))
      | (go_at_call 10; ((with_reducible refine (drop_nil key _).mono ?_); rintro r w' ⟨rfl, rfl⟩))
      | (go_at_call 11; ((with_reducible refine (step_nil n _).mono ?_); rintro r w' ⟨rfl, rfl⟩))
      | (go_at_call 14; ((with_reducible refine (len_nil _).mono ?_); rintro r w' ⟨rfl, rfl⟩))
      | (go_at_call 17; ((with_reducible refine (size_nil _).mono ?_); rintro r w' ⟨rfl, rfl⟩))
      | (go_at_call 15; ((with_reducible refine (moved_nil _).mono ?_); rintro r w' ⟨rfl, rfl⟩))
      | (go_at_call 18; ((with_reducible refine (toward_nil _).mono ?_); rintro r w' ⟨rfl, rfl⟩))
      | (go_at_call 13; ((with_reducible refine (keys_nil _).mono ?_); rintro r w' ⟨rfl, rfl⟩))
      | (go_at_call 19; ((with_reducible refine (chain_nil true n _).mono ?_); rintro r w' ⟨rfl, rfl⟩))
      | (go_at_call 8; ((with_reducible refine (new_any _ _).mono ?_); rintro r w2 ⟨rfl, hw2⟩)))
    all_goals first
      | (exfalso; omega)
      | skip
    have hs1 : (w1.alloc (newX w1.heap.size 0).head).heap.size = w1.heap.size + 1 := by simp
    have hb1 : Below w.heap.size w w1 := h1H.out.below (Nat.le_refl _) (by simp)
    have ht1 := heap_alloc_new w1 (newX w1.heap.size 0).head
    have hb2 := hb1.alloc hb1.size (newX w1.heap.size 0).head
    have ht2 := heap_alloc_new (w1.alloc (newX w1.heap.size 0).head) (newX (w1.heap.size + 1) 0).head
    rw [hs1] at ht2
    have ht1' := (Lib.alloc_old (w1.alloc (newX w1.heap.size 0).head) (newX (w1.heap.size + 1) 0).head w1.heap.size (by omega)).trans ht1
    have hb3 := hb2.alloc hb2.size (newX (w1.heap.size + 1) 0).head
    have hwz := hb1.size
    have hc0 : (Obj.cells #[Value.int IntKind.u64 0, Value.slice none 0 0, Value.slice none 0 0, Value.int IntKind.i64 0, Value.int IntKind.i64 0] 45) = (newX w1.heap.size 0).head := rfl
    rw [hc0]
    clear hs1 ht1 hb2 hb1 hw2 hc0
    generalize (w1.alloc (newX w1.heap.size 0).head).alloc (newX (w1.heap.size + 1) 0).head = w3 at *
    have hF3 := fac_below hFH.out hz hb3
    have hU0 : U 0 := by unfold U; omega
    have htwo : Two w.heap.size (newX w1.heap.size 0) (newX (w1.heap.size + 1) 0) 0 w3 :=
      ⟨new_ok (B := w.heap.size) w1.heap.size 0 hU0 hF3 hz hwz ht1', new_ok (B := w.heap.size) (w1.heap.size + 1) 0 hU0 hF3 hz (by omega) ht2,
        fun key o hv => by
          cases o with
          | some v => obtain ⟨b, hb⟩ := hv; simp [Tb.ents, newX] at hb
          | none => exact fun e he => by simp [Tb.ents, newX] at he, rfl, Nat.le_refl _, by simp [newX, Tb.blocks, Tb.ents]⟩
    have hkz : key.size ≤ 1000 := by omega
    have hv0 : View (newX w1.heap.size 0) key none := fun e he => by simp [Tb.ents, newX] at he
    have htwoH := Lib.hid htwo
    have hb3H := Lib.hid hb3
    have hkzH := Lib.hid hkz
    have hgt : Hid (Calls Tryd.prog 12 #[.pointer (some ⟨w1.heap.size, 0, none⟩), .string key] w3 fun r w' => r = .returned (.tuple #[.int .i64 0, .bool false]) ∧ Only [] w3 w') := Lib.hid ((get_any htwo.a key hkz).mono (fun r w' hr => show r = .returned (.tuple #[.int .i64 0, .bool false]) ∧ Only [] _ w' from by
      obtain ⟨h3, ⟨e, he, _⟩ | ⟨_, rfl⟩⟩ := hr
      · simp [Tb.ents, newX] at he
      · exact ⟨rfl, h3⟩))
    clear htwo hb3 ht1' ht2 hF3 hwz hkz
    go_upto_region 11 with (go_at_call 12; ((with_reducible refine (hgt.out).mono ?_); rintro r w4 ⟨rfl, h4⟩))
    have htw4 := two_on htwoH.out h4
    have hB4 := hb3H.out.trans (h4.below (B := w.heap.size) hb3H.out.size (by simp))
    have hsa : Calls Tryd.prog 17 #[.pointer (some ⟨w1.heap.size, 0, none⟩)] w4 fun e w' => e = .returned (.int .i64 2) ∧ w4 = w' := size_at htw4.a (k := 2) (Or.inl ⟨rfl, rfl⟩)
    have hsb : Calls Tryd.prog 17 #[.pointer (some ⟨w1.heap.size + 1, 0, none⟩)] w4 fun e w' => e = .returned (.int .i64 2) ∧ w4 = w' := size_at htw4.b (k := 2) (Or.inl ⟨rfl, rfl⟩)
    have hma : Calls Tryd.prog 15 #[.pointer (some ⟨w1.heap.size, 0, none⟩)] w4 fun e w' => e = .returned (.int .i64 (-1)) ∧ w4 = w' := by
      have h6 := moved_at htw4.a
      rw [if_pos (show (newX w1.heap.size 0).new = [] from rfl)] at h6
      exact h6
    have hpa : Calls Tryd.prog 9 #[.pointer (some ⟨w1.heap.size, 0, none⟩), .string key, .int .i64 v] w4 fun r w' => ∃ G, r = .returned (.bool true) ∧ PutRes w.heap.size (newX w1.heap.size 0) G key v true w4 w' := put_told (v := v) htw4.a hv0 hkzH.out (by simp [newX])
    have hsaH := Lib.hid hsa
    have hsbH := Lib.hid hsb
    have hmaH := Lib.hid hma
    have hpaH := Lib.hid hpa
    have htw4H := Lib.hid htw4
    have hB4H := Lib.hid hB4
    have hpb : Hid (∀ w5 G, PutRes w.heap.size (newX w1.heap.size 0) G key v true w4 w5 → Calls Tryd.prog 9 #[.pointer (some ⟨w1.heap.size + 1, 0, none⟩), .string key, .int .i64 v] w5 fun r w' => ∃ G2, r = .returned (.bool true) ∧ PutRes w.heap.size (newX (w1.heap.size + 1) 0) G2 key v true w5 w') := Lib.hid (fun w5 G hG => by
      have hoB := htw4H.out.b.beside hG.only (fun b hb hm => htw4H.out.apart b hm hb) htw4H.out.a.live.zero
      exact put_told (o := none) hoB (fun e he => by simp [Tb.ents, newX] at he) hkzH.out (by simp [newX]))
    clear hsa hsb hma hpa htw4 hB4 hv0 h4
    generalize w1.heap.size = T at *
    go_upto_region 13 with (first
      | (go_at_call 17; ((with_reducible refine (hsaH.out).mono ?_); rintro r w' ⟨rfl, rfl⟩))
      | (go_at_call 17; ((with_reducible refine (hsbH.out).mono ?_); rintro r w' ⟨rfl, rfl⟩))
      | (go_at_call 15; ((with_reducible refine (hmaH.out).mono ?_); rintro r w' ⟨rfl, rfl⟩))
      | (go_at_call 9; ((with_reducible refine (hpaH.out).mono ?_); rintro r w5 ⟨G, rfl, hG⟩; have hGAH := Lib.hid hG; clear hG))
      | (go_at_call 9; ((with_reducible refine (hpb.out _ _ hGAH.out).mono ?_); rintro r w6 ⟨G2, rfl, hG⟩; have hGBH := Lib.hid hG; clear hG)))
    have htw6 := two_put htw4H.out hGAH.out hGBH.out
    have hB6 : Below w.heap.size w w6 := (hB4H.out.trans (hGAH.out.only.below hB4H.out.size (fun x hx => htw4H.out.a.live.own x hx))).trans (hGBH.out.only.below (by have := hB4H.out.size; have := hGAH.out.only.size; omega) (fun x hx => htw4H.out.b.live.own x hx))
    obtain ⟨n1, o1, b1, e1⟩ := one_put hGAH.out
    obtain ⟨n2, o2, b2, e2⟩ := one_put hGBH.out
    have hTa : G.T = T := hGAH.out.same.1
    have hTb : G2.T = T + 1 := hGBH.out.same.1
    have hch : (chOf G n).map (fun e => e.2.1) = (chOf G2 n).map fun e => e.2.1 := by
      rw [one_chain htw6.a.inv n1 o1 e1 n, one_chain htw6.b.inv n2 o2 e2 n, hGAH.out.same.2, hGBH.out.same.2]; rfl
    have hke : G.ents.map (fun e => e.2.1) = G2.ents.map fun e => e.2.1 := by rw [e1, e2]; rfl
    have hoa : G.old ≠ [] := fun hh => by rw [hh] at o1; simp at o1
    have hob : G2.old ≠ [] := fun hh => by rw [hh] at o2; simp at o2
    have hcl : (chOf G n).length ≤ 1000000 := by
      have h7 := congrArg List.length (one_chain htw6.a.inv n1 o1 e1 n)
      rw [List.length_map] at h7
      rw [h7]; split <;> simp
    have hk1 : Hid (Calls Tryd.prog 13 #[.pointer (some ⟨T, 0, none⟩)] w6 fun r w' => ∃ (A : Option Addr) (c : Nat), r = .returned (.slice A G.ents.length c) ∧ KeysAt w' A G.ents ∧ Below w6.heap.size w6 w') := Lib.hid (by have := keys_at htw6.a; rw [hTa] at this; exact this)
    have hk2 : Hid (∀ w7, Below w6.heap.size w6 w7 → Calls Tryd.prog 13 #[.pointer (some ⟨T + 1, 0, none⟩)] w7 fun r w' => ∃ (A : Option Addr) (c : Nat), r = .returned (.slice A G2.ents.length c) ∧ KeysAt w' A G2.ents ∧ Below w7.heap.size w7 w') := Lib.hid (fun w7 h7 => by
      have := keys_at (two_on htw6 (below_only h7 (Nat.le_refl _))).b
      rw [hTb] at this; exact this)
    have hc1 : Hid (∀ w7, Below w6.heap.size w6 w7 → Calls Tryd.prog 19 #[.pointer (some ⟨T, 0, none⟩), .bool true, .int .i64 n] w7 fun r w' => ∃ (A : Option Addr) (c : Nat), r = .returned (.slice A (chOf G n).length c) ∧ KeysAt w' A (chOf G n) ∧ Below w7.heap.size w7 w') := Lib.hid (fun w7 h7 => by
      have := chain_any (two_on htw6 (below_only h7 (Nat.le_refl _))).a hoa n
      rw [hTa] at this; exact this)
    have hc2 : Hid (∀ w7, Below w6.heap.size w6 w7 → Calls Tryd.prog 19 #[.pointer (some ⟨T + 1, 0, none⟩), .bool true, .int .i64 n] w7 fun r w' => ∃ (A : Option Addr) (c : Nat), r = .returned (.slice A (chOf G2 n).length c) ∧ KeysAt w' A (chOf G2 n) ∧ Below w7.heap.size w7 w') := Lib.hid (fun w7 h7 => by
      have := chain_any (two_on htw6 (below_only h7 (Nat.le_refl _))).b hob n
      rw [hTb] at this; exact this)
    have hal6 : Hid (∀ w7, Below w6.heap.size w6 w7 → Calls Tryd.prog 7 #[] w7 fun e w' => e = .returned (.bool true) ∧ Below w7.heap.size w7 w') := Lib.hid (fun w7 h7 => hal.out w7 (onB hB6 h7 hB6.size))
    have hs1 : Hid (∀ w7 A A' c c', KeysAt w7 A G.ents → KeysAt w7 A' G2.ents → Calls Tryd.prog 20 #[.slice A G.ents.length c, .slice A' G2.ents.length c'] w7 fun r w' => r = .returned (.bool true) ∧ Only [] w7 w') := Lib.hid (fun w7 A A' c c' h7 h8 => same_any h7 h8 hke (by rw [e1]; simp))
    have hs2 : Hid (∀ w7 A A' c c', KeysAt w7 A (chOf G n) → KeysAt w7 A' (chOf G2 n) → Calls Tryd.prog 20 #[.slice A (chOf G n).length c, .slice A' (chOf G2 n).length c'] w7 fun r w' => r = .returned (.bool true) ∧ Only [] w7 w') := Lib.hid (fun w7 A A' c c' h7 h8 => same_any h7 h8 hch hcl)
    have hB6H := Lib.hid hB6
    clear htw6 hB6 n1 o1 e1 n2 o2 e2 hTa hTb hch hke hoa hob hcl
    generalize G.ents = EA at *
    generalize G2.ents = EB at *
    generalize chOf G n = CA at *
    generalize chOf G2 n = CB at *
    go_wp2_with (first
      | (go_at_call 13; ((with_reducible refine (hk1.out).mono ?_); rintro r w7 ⟨A7, c7, rfl, hka, hb7⟩; have hkaH := Lib.hid hka; have hb7H := Lib.hid hb7; clear hka hb7))
      | (go_at_call 13; ((with_reducible refine (hk2.out _ hb7H.out).mono ?_); rintro r w8 ⟨A8, c8, rfl, hkb, hb8⟩; have hkbH := Lib.hid hkb; have hb8H := Lib.hid (onB hb7H.out hb8 hb7H.out.size); have hka2 := Lib.hid (keys_on hkaH.out hb8); clear hkb hb8))
      | (go_at_call 20; ((with_reducible refine (hs1.out _ _ _ _ _ hka2.out hkbH.out).mono ?_); rintro r w9 ⟨rfl, h9⟩; have hb9H := Lib.hid (hb8H.out.trans (h9.below (B := w6.heap.size) hb8H.out.size (by simp))); clear h9))
      | (go_at_call 19; ((with_reducible refine (hc1.out _ hb9H.out).mono ?_); rintro r w10 ⟨A10, c10, rfl, hkc, hb10⟩; have hkcH := Lib.hid hkc; have hb10H := Lib.hid (onB hb9H.out hb10 hb9H.out.size); clear hkc hb10))
      | (go_at_call 19; ((with_reducible refine (hc2.out _ hb10H.out).mono ?_); rintro r w11 ⟨A11, c11, rfl, hkd, hb11⟩; have hkdH := Lib.hid hkd; have hb11H := Lib.hid (onB hb10H.out hb11 hb10H.out.size); have hkc2 := Lib.hid (keys_on hkcH.out hb11); clear hkd hb11))
      | (go_at_call 20; ((with_reducible refine (hs2.out _ _ _ _ _ hkc2.out hkdH.out).mono ?_); rintro r w12 ⟨rfl, h12⟩; have hb12H := Lib.hid (hb11H.out.trans (h12.below (B := w6.heap.size) hb11H.out.size (by simp))); clear h12))
      | (go_at_call 7; ((with_reducible refine (hal6.out _ hb12H.out).mono ?_); rintro e w13 ⟨rfl, hb13⟩; have hb13H := Lib.hid (onB hb12H.out hb13 hb12H.out.size); clear hb13)))
    go_ret
    exact ⟨rfl, onB hB6H.out hb13H.out hB6H.out.size⟩

end Go.Proofs.YtnjccmdbfokfiaaDoor
