/-
  The walk of a step of a parted table. The table of factors holds what the program's text lays; a table's shape.
-/
import Derived.Test.YtdldgiicblmknaaDoorHJ
import Derived.Deep.RegionWith
import Derived.RegionCalls
namespace Go.Proofs.YtdldgiicblmknaaDoor
open Go.RowKit

theorem hd_nil : hd [] = none := rfl
theorem hd_cons (e : En) (L : List En) : hd (e :: L) = some ⟨e.1, 0, none⟩ := rfl
/-- What a table's shape is. -/
structure Good (X : Tb) : Prop where
  seed : U X.seed
  s0 : ∃ k, SzOk X.old.length k
  s1 : ∃ k, SzOk X.new.length k
  mv : X.new ≠ [] → X.moved < X.old.length
  ks : ∀ e ∈ X.ents, e.2.1.size ≤ 1000
  ct : X.count ≤ 1000000
/-- Where a table lies: behind all that was there. -/
structure Live (B : Nat) (X : Tb) (w : World) : Prop where
  here : Here X w
  good : Good X
  fac : Fac w
  pos : 0 < B
  le : B ≤ w.heap.size
  own : ∀ b ∈ X.blocks, B ≤ b
theorem fac_only {O : List Nat} {w w' : World} (h : Fac w) (hz : 0 < w.heap.size) (ho : Only O w w') (hO : 0 ∉ O) : Fac w' := by
  have hb := ho.2 0 hz hO
  exact ⟨(World.cell?_of_block (w := w) hb).trans h.1, (World.cell?_of_block (w := w) hb).trans h.2⟩
theorem Here.drew {X : Tb} {w : World} (h : Here X w) : Here X w.drew := h.on ((Only.refl [] w).drewN 1) (fun _ _ => by simp)
theorem Live.zero {B : Nat} {X : Tb} {w : World} (h : Live B X w) : 0 ∉ X.blocks := fun hm => by have := h.own 0 hm; have := h.pos; omega

def stepX (X : Tb) : Tb :=
  if X.moved + 1 = X.old.length then { X with p0 := X.p1, p1 := none, old := (X.old.getD X.moved []).foldl (pushL X.seed) X.new, new := [], moved := X.moved + 1, ext := [] }
  else { X with old := X.old.set X.moved [], new := (X.old.getD X.moved []).foldl (pushL X.seed) X.new, moved := X.moved + 1, ext := [] }

theorem of_key (seed : Int) (k : ByteArray) (hU : U seed) (hk : k.size ≤ 1000) (w : World) (hF : Fac w) : Calls Tryd.prog 42 #[.int .u64 seed, .string k] w fun e w' => e = .returned (.int .u64 ((num seed k : Nat) : Int)) ∧ w = w' := by
  have := of_any seed k hU (by unfold maxLen; omega) w hF
  rw [(num_int seed k).1]
  exact this

set_option maxHeartbeats 4000000 in
theorem step_any {B : Nat} {X : Tb} {w : World} (h : Live B X w) (hx : X.ext = []) (hn : X.new ≠ []) :
    Calls Tryd.prog 49 #[.pointer (some ⟨X.T, 0, none⟩)] w fun e w' => e = .returned (.tuple #[]) ∧ Only X.blocks w w' ∧ Here (stepX X) w' := by
  have hmv := h.good.mv hn
  obtain ⟨b0, hp0⟩ : ∃ b, X.p0 = some b := by
    cases hp : X.p0 with
    | none => have := h.here.p0.1 hp; rw [this] at hmv; simp at hmv
    | some b => exact ⟨b, rfl⟩
  obtain ⟨b1, hp1⟩ : ∃ b, X.p1 = some b := by
    cases hp : X.p1 with
    | none => exact absurd (h.here.p1.1 hp) hn
    | some b => exact ⟨b, rfl⟩
  obtain ⟨c, hc⟩ : ∃ c, X.old[X.moved]? = some c := ⟨_, List.getElem?_eq_getElem hmv⟩
  have htab := h.here.tab
  rw [hp0, hp1] at htab
  obtain ⟨c0, c1, c2, c3, c4, f0, f1, f2, f3, f4⟩ := tab_facts htab
  simp only [adr, Option.map_some] at c1 c2
  have hpl := h.here.at_ _ (mem_p0 hp0)
  obtain ⟨pc, pf⟩ := pl_cell hpl hc
  have hsz := h.good.s0
  have hl0 : X.old.length ≤ 65536 := by obtain ⟨k, hk⟩ := hsz; exact hk.le
  have hH := Lib.hid h
  have hcH := Lib.hid hc
  clear htab hpl hsz h hc
  go_enter Tryd.func49, Tryd.ntmps49
  go_wp2_with fail
  go_region
  go_wp2_with fail
  have hY := re_nil hH.out.here hx hp0 hcH.out (w' := (w.setCell ⟨b0, X.moved, none⟩ (.pointer none)).drew) (((Only.refl [b0] w).set (p := ⟨b0, _, none⟩) (Or.inl (by simp)) (.pointer none)).drewN 1) (pl_set (c := []) (hH.out.here.at_ _ (mem_p0 hp0)) X.moved)
  have hO : Only X.blocks w (w.setCell ⟨b0, X.moved, none⟩ (.pointer none)).drew := ((Only.refl X.blocks w).set (p := ⟨b0, _, none⟩) (Or.inl (by simp [Tb.blocks, hp0])) (.pointer none)).drewN 1
  have hYH := Lib.hid hY
  have hOH := Lib.hid hO
  clear hY hO
  generalize (w.setCell ⟨b0, X.moved, none⟩ (.pointer none)).drew = w1 at *
  clear c0 c1 c2 c3 c4 f0 f1 f2 f3 f4 pc pf
  have hpl1 : Hid (∃ k, SzOk X.new.length k) := Lib.hid hH.out.good.s1
  have hl1 : 0 < X.new.length := List.length_pos_iff.2 hn
  go_loopg [4, 5] c.length (fun k s4 s5 wr => ∃ (N : List (List En)) (L : List En), k = L.length ∧ s4 = .pointer (hd L) ∧ Hid (Only X.blocks w wr) ∧ Hid (Here { X with old := X.old.set X.moved [], new := N, ext := L } wr) ∧ Hid (L.foldl (pushL X.seed) N = c.foldl (pushL X.seed) X.new) ∧ Hid (N.length = X.new.length) ∧ Hid (∀ e ∈ L, e.2.1.size ≤ 1000 ∧ e.1 ∈ X.blocks))
  case atStart => exact ⟨X.new, c, rfl, rfl, hOH, hYH, Lib.hid rfl, Lib.hid rfl, Lib.hid (fun e he => by
    have hm : e ∈ X.ents := by unfold Tb.ents; simp only [List.mem_append, List.mem_flatten]; exact Or.inl ⟨c, List.mem_of_getElem? hcH.out, he⟩
    exact ⟨hH.out.good.ks e hm, by unfold Tb.blocks; simp only [List.mem_cons, List.mem_append]; exact Or.inr (Or.inr (Or.inr (List.mem_map_of_mem hm)))⟩)⟩
  case round =>
    obtain ⟨N, L, rfl, rfl, hOr, hHr, hfo, hlen, hks⟩ := hrel
    have htab := hHr.out.tab
    simp only [List.length_set] at htab
    rw [hp0, hp1, hlen.out] at htab
    obtain ⟨c0, c1, c2, c3, c4, f0, f1, f2, f3, f4⟩ := tab_facts htab
    simp only [adr, Option.map_some] at c1 c2
    have htabH := Lib.hid htab
    clear htab
    cases L with
    | nil =>
      simp only [hd_nil]
      have hcast := Lib.hid (show ((X.moved : Int) + 1) = ((X.moved + 1 : Nat) : Int) by omega)
      have hN : N = (X.old.getD X.moved []).foldl (pushL X.seed) X.new := by
        have h1 := hfo.out
        have h2 : X.old.getD X.moved [] = c := by simp [hcH.out]
        rw [h2, ← h1]; rfl
      have hNH := Lib.hid hN
      clear hN hfo
      go_wp2_with fail
      · next he =>
        have hdone : X.moved + 1 = X.old.length := by simp at he; omega
        go_end0
        have hT : ∀ x ∈ [X.T], x ∈ X.blocks := by intro x hx; simp at hx; subst hx; simp [Tb.blocks]
        have ho : Only [X.T] wr (((wr.setCell ⟨X.T, 3, none⟩ (.int .i64 ((X.moved : Int) + 1))).setCell ⟨X.T, 1, none⟩ (.slice (some ⟨b1, 0, none⟩) X.new.length X.new.length)).setCell ⟨X.T, 2, none⟩ (.slice none 0 0)) :=
          (((Only.refl [X.T] wr).set (Or.inl (by simp)) _).set (Or.inl (by simp)) _).set (Or.inl (by simp)) _
        refine ⟨rfl, hOr.out.trans ho (fun x hx => Or.inl (hT x hx)), ?_⟩
        have ht := tab_set2 (tab_set1 (tab_set3 htabH.out (X.moved + 1)) (some ⟨b1, 0, none⟩) X.new.length) none 0
        have h3 := re_done hHr.out (X.moved + 1) ho (by rw [hcast.out]; unfold TabC at ht; rw [ht]; simp [Tb.head, adr, hp1, hlen.out])
        unfold stepX
        rw [if_pos hdone, ← hNH.out]
        exact h3
      · next he =>
        have hdone : ¬ X.moved + 1 = X.old.length := by simp at he; omega
        go_end0
        have hT : ∀ x ∈ [X.T], x ∈ X.blocks := by intro x hx; simp at hx; subst hx; simp [Tb.blocks]
        have ho : Only [X.T] wr (wr.setCell ⟨X.T, 3, none⟩ (.int .i64 ((X.moved : Int) + 1))) := (Only.refl [X.T] wr).set (Or.inl (by simp)) _
        refine ⟨rfl, hOr.out.trans ho (fun x hx => Or.inl (hT x hx)), ?_⟩
        have ht := tab_set3 htabH.out (X.moved + 1)
        have h3 := re_head hHr.out (X.moved + 1) X.count ho (by rw [hcast.out]; unfold TabC at ht; rw [ht]; simp [Tb.head, adr, hp0, hp1, hlen.out])
        unfold stepX
        rw [if_neg hdone, ← hNH.out]
        exact h3
    | cons e L =>
      obtain ⟨e0, e1, e2, _⟩ := entry_facts (hHr.out.at_ (e.1, entry e (hd L)) ((objs_iff _ _).2 (Or.inr (Or.inr (Or.inr (Or.inr (Or.inr (List.mem_cons_self ..))))))))
      simp only [hd_cons]
      have hkey := (hks.out e (List.mem_cons_self ..)).1
      have hF : Fac wr := fac_only hH.out.fac (by have := hH.out.pos; have := hH.out.le; omega) hOr.out hH.out.zero
      have hOf := Lib.hid (of_key X.seed e.2.1 hH.out.good.seed hkey wr.drew hF)
      obtain ⟨k1, hk1⟩ := hpl1.out
      have hM : num X.seed e.2.1 % N.length < N.length := Nat.mod_lt _ (by rw [hlen.out]; exact hl1)
      have hcN : N[num X.seed e.2.1 % N.length]? = some (N.getD (num X.seed e.2.1 % N.length) []) := by simp [hM]
      have hPl := hHr.out.at_ (b1, plObj N) ((objs_iff _ _).2 (Or.inr (Or.inr (Or.inl ⟨b1, hp1, rfl⟩))))
      have hsp := hHr.out.sep'
      simp only [hp1, Option.toList_some, List.map_cons] at hsp
      have hne : b1 ≠ e.1 := by intro h; rw [h] at hsp; grind
      have hPu := hput_any b1 k1 N (N.getD (num X.seed e.2.1 % N.length) []) e (hd L) (num X.seed e.2.1) wr.drew hPl (hHr.out.at_ (e.1, entry e (hd L)) ((objs_iff _ _).2 (Or.inr (Or.inr (Or.inr (Or.inr (Or.inr (List.mem_cons_self ..)))))))) hne (by rw [hlen.out]; exact hk1) (by rw [hlen.out]; exact hl1) (num_int _ _).2 hcN
      rw [hlen.out] at hPu
      have hPuH := Lib.hid hPu
      have hcNH := Lib.hid hcN
      clear hPu hcN hM hPl hsp hkey hF
      generalize hnn : num X.seed e.2.1 = nn at *
      have hnnH := Lib.hid hnn
      clear hnn
      go_wp2_with fail
      go_region_with (first
        | (go_at_call 42; ((with_reducible refine (hOf.out).mono ?_); rintro r w' ⟨rfl, rfl⟩))
        | (go_at_call 45; ((with_reducible refine (hPuH.out).mono ?_); rintro r w' ⟨rfl, ho, hent, hpl'⟩)))
      all_goals
        have hpn : N.set (nn % X.new.length) (e :: N.getD (nn % X.new.length) []) = pushL X.seed N e := by unfold pushL; rw [hnnH.out, hlen.out]
        have hnew := push_new (X := { X with old := X.old.set X.moved [], new := N, ext := e :: L }) (w := wr.drew) (w' := w') hHr.out.drew hp1 rfl (hlen.out ▸ hcNH.out) ho hent hpl'
        simp only at hnew
        rw [hpn] at hnew
        have hin : ∀ x ∈ [e.1, b1], x ∈ X.blocks ∨ w.heap.size ≤ x := by
          intro x hx
          simp only [List.mem_cons, List.not_mem_nil, or_false] at hx
          rcases hx with rfl | rfl
          · exact Or.inl (hks.out e (List.mem_cons_self ..)).2
          · exact Or.inl (by simp [Tb.blocks, hp1])
        have honly : Only X.blocks w w' := hOr.out.trans (((Only.refl [e.1, b1] wr).drewN 1).trans ho (fun x hx => Or.inl hx)) hin
        have hnewH := Lib.hid hnew
        have honlyH := Lib.hid honly
        have hfoldH := Lib.hid (show (L.foldl (pushL X.seed) (pushL X.seed N e)) = c.foldl (pushL X.seed) X.new from hfo.out)
        have hlenH := Lib.hid (show (pushL X.seed N e).length = X.new.length by rw [pushL_len]; exact hlen.out)
        clear hnew honly ho hent hpl' hin hpn
        go_wp2_with fail
        go_roundg L.length
        case measure => simp
        case rel => exact ⟨_, L, rfl, rfl, honlyH, hnewH, hfoldH, hlenH, Lib.hid (fun x hx => hks.out x (List.mem_cons_of_mem _ hx))⟩

end Go.Proofs.YtdldgiicblmknaaDoor
