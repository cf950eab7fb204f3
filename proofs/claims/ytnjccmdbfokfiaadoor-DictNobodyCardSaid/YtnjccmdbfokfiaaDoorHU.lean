/-
  The walks of the laws' far and alive. The table of factors holds what the program's text lays.
-/
import Derived.Test.YtnjccmdbfokfiaaDoorHT
namespace Go.Proofs.YtnjccmdbfokfiaaDoor
open Go.RowKit

theorem stepN_len : ∀ (m : Nat) (X : Tb), Inv X → m ≤ rem X → ((stepN m X).new.length = X.new.length ∧ (stepN m X).old.length = X.old.length) ∨ ((stepN m X).new = [] ∧ (stepN m X).old.length = X.new.length ∧ 0 < m) := by
  intro m
  induction m with
  | zero => intro X _ _; exact Or.inl ⟨rfl, rfl⟩
  | succ m ih =>
    intro X h hm
    have hn : X.new ≠ [] := fun hh => by have := (rem_zero h).2 hh; omega
    have hr := rem_step h hn
    obtain ⟨h1, _, _⟩ := foldP X.seed (X.old.getD X.moved []) X.new (List.length_pos_iff.2 hn)
    show (((stepN m (stepX X)).new.length = _ ∧ _) ∨ ((stepN m (stepX X)).new = [] ∧ _ ∧ _))
    by_cases hd : X.moved + 1 = X.old.length
    · have hz : rem (stepX X) = 0 := by unfold rem stepX; rw [if_pos hd]; simp
      have hm0 : m = 0 := by omega
      subst hm0
      refine Or.inr ⟨?_, ?_, by omega⟩
      · show (stepX X).new = []
        unfold stepX; rw [if_pos hd]
      · show (stepX X).old.length = _
        unfold stepX; rw [if_pos hd]; exact h1
    · have hln : (stepX X).new.length = X.new.length := by unfold stepX; rw [if_neg hd]; exact h1
      have hlo : (stepX X).old.length = X.old.length := by unfold stepX; rw [if_neg hd]; simp
      rcases ih (stepX X) (stepX_inv h hn) (by omega) with ⟨h2, h3⟩ | ⟨h2, h3, h4⟩
      · exact Or.inl ⟨h2.trans hln, h3.trans hlo⟩
      · exact Or.inr ⟨h2, h3.trans hln, by omega⟩

theorem ent_one : ∀ {l : List En}, (l.map fun e => e.2.1).Nodup → ∀ e ∈ l, ∀ e' ∈ l, e.2.1 = e'.2.1 → e = e' := by
  intro l
  induction l with
  | nil => intro _ e he; cases he
  | cons x l ih =>
    intro hn e he e' he' hk
    rw [List.map_cons, List.nodup_cons] at hn
    rcases List.mem_cons.1 he with h1 | h1
    · rcases List.mem_cons.1 he' with h2 | h2
      · rw [h1, h2]
      · exact absurd (by rw [← h1, hk]; exact List.mem_map_of_mem (f := fun e : En => e.2.1) h2) hn.1
    · rcases List.mem_cons.1 he' with h2 | h2
      · exact absurd (by rw [← h2, ← hk]; exact List.mem_map_of_mem (f := fun e : En => e.2.1) h1) hn.1
      · exact ih hn.2 e h1 e' h2 hk
theorem Ok.on {B : Nat} {X : Tb} {w w' : World} {O : List Nat} (h : Ok B X w) (ho : Only O w w') (hO : ∀ x ∈ O, x ∉ X.blocks) (hz : 0 ∉ O) : Ok B X w' :=
  ⟨⟨h.live.here.on ho (fun b hb hm => hO b hm hb), h.inv.good, fac_only h.live.fac (by have := h.live.pos; have := h.live.le; omega) ho hz, h.live.pos, by have := h.live.le; have := ho.size; omega, h.live.own⟩, h.inv⟩

/-- The keys of alive. -/
def kk : Nat → ByteArray
  | 0 => ⟨#[97]⟩
  | 1 => ⟨#[98]⟩
  | 2 => ⟨#[99]⟩
  | 3 => ⟨#[100]⟩
  | _ => ⟨#[101]⟩
theorem kk_size (i : Nat) : (kk i).size ≤ 1000 := by
  unfold kk; split <;> (show (1 : Nat) ≤ 1000; omega)
theorem kk_ne {i j : Nat} (hi : i < 5) (hj : j < i) : kk j ≠ kk i := by
  have hall : ∀ a b : Fin 5, b.val < a.val → kk b.val ≠ kk a.val := by decide
  exact hall ⟨i, hi⟩ ⟨j, by omega⟩ hj
structure AliveAt (i : Nat) (X : Tb) : Prop where
  cnt : X.count = i
  keys : ∀ e ∈ X.ents, ∃ j, j < i ∧ e.2.1 = kk j
  has : 3 ≤ i → ∃ b, (b, kk 2, (2 : Int)) ∈ X.ents
  low : i ≤ 4 → X.new = [] ∧ X.old.length = (if i = 0 then 0 else 4)
  top : i = 5 → X.new.length = 8 ∧ X.moved = 0 ∧ X.old.length = 4
theorem steps_zero {X Y : Tb} {m : Nat} (h : Steps X Y m) (hm : m = 0) : Y = X := by rw [h.eq, hm]; rfl
theorem alive_put {B i : Nat} {X G : Tb} {w w' : World} {new : Bool} (ha : AliveAt i X) (hi : i < 5) (hX : Inv X) (hp : PutRes B X G (kk i) (i : Int) new w w') : new = true ∧ AliveAt (i + 1) G := by
  obtain ⟨hn, hol⟩ := ha.low (by omega)
  have hr : rem X = 0 := (rem_zero hX).2 hn
  obtain ⟨Y, m, hS, hm, hh⟩ := hp.how
  obtain rfl : Y = X := steps_zero hS (by omega)
  rcases hh with ⟨_, hv⟩ | ⟨hnew, hno, hc⟩
  · obtain ⟨b, old, R, h1, _⟩ := hv.ents
    obtain ⟨j, hj, hk⟩ := ha.keys (b, kk i, old) (h1.mem_iff.2 (List.mem_cons_self ..))
    exact absurd hk.symm (kk_ne hi hj)
  · refine ⟨hnew, ?_⟩
    obtain ⟨b, he⟩ := hc.ents
    have hopen : openLen Y = 4 := by
      unfold openLen
      by_cases h0 : i = 0
      · rw [if_pos ⟨hn, List.length_eq_zero_iff.1 (by rw [hol, if_pos h0])⟩]
      · split
        · rfl
        · rw [hol, if_neg h0]
    have hcn := ha.cnt
    refine ⟨by rw [hc.count, hcn], ?_, ?_, ?_, ?_⟩
    · intro e hm
      rcases List.mem_cons.1 (he.mem_iff.1 hm) with rfl | hm
      · exact ⟨i, by omega, rfl⟩
      · obtain ⟨j, hj, hk⟩ := ha.keys e hm
        exact ⟨j, by omega, hk⟩
    · intro h3
      by_cases h2 : i = 2
      · subst h2; exact ⟨b, he.mem_iff.2 (List.mem_cons_self ..)⟩
      · obtain ⟨b', hb'⟩ := ha.has (by omega)
        exact ⟨b', he.mem_iff.2 (List.mem_cons_of_mem _ hb')⟩
    · intro h4
      refine ⟨?_, by rw [hc.old, hopen]; simp⟩
      rcases hc.new with ⟨h5, _⟩ | ⟨_, h5, _⟩ | ⟨_, h5, _⟩
      · exact absurd hn h5
      · exact h5
      · rw [hopen] at h5; omega
    · intro h5
      rcases hc.new with ⟨h6, _⟩ | ⟨_, _, h6⟩ | ⟨_, h6, h7, h8⟩
      · exact absurd hn h6
      · rw [hopen] at h6; have := h6 (by omega); omega
      · exact ⟨by rw [h7, hopen], h8, by rw [hc.old, hopen]⟩

/-- The table's own row of keys. -/
def KRow (w : World) (g : Nat) : Prop := w.heap[g]? = some (.cells #[.string ⟨#[97]⟩, .string ⟨#[98]⟩, .string ⟨#[99]⟩, .string ⟨#[100]⟩, .string ⟨#[101]⟩] 9 (0, 0))
theorem krow_cell {w : World} {g : Nat} (h : KRow w g) {i : Nat} (hi : i < 5) : w.cell? ⟨g, i, none⟩ = some (.string (kk i)) := by
  have := Lib.cell_of_heap h i
  rw [this]
  rcases i with _ | _ | _ | _ | _ | i
  · rfl
  · rfl
  · rfl
  · rfl
  · rfl
  · omega

set_option maxHeartbeats 4000000 in
theorem alive_any (w : World) (hFac : Fac w) (hz : 0 < w.heap.size) : Calls Tryd.prog 7 #[] w fun e w' => e = .returned (.bool true) ∧ Below w.heap.size w w' := by
  have hFH := Lib.hid hFac
  clear hFac
  go_enter Tryd.func7, Tryd.ntmps7
  go_wp2_with (go_at_call 8; ((with_reducible refine (new_any 1 _).mono ?_); rintro r w1 ⟨rfl, hw1⟩))
  have h1 : (w.alloc (newX w.heap.size 1).head).heap[w.heap.size]? = some (newX w.heap.size 1).head := heap_alloc_new w _
  have hs1 : (w.alloc (newX w.heap.size 1).head).heap.size = w.heap.size + 1 := by simp
  have h2 := heap_alloc_new (w.alloc (newX w.heap.size 1).head) (.cells #[.string ⟨#[97]⟩, .string ⟨#[98]⟩, .string ⟨#[99]⟩, .string ⟨#[100]⟩, .string ⟨#[101]⟩] 9)
  rw [hs1] at h2
  have h1' := (Lib.alloc_old (w.alloc (newX w.heap.size 1).head) (.cells #[.string ⟨#[97]⟩, .string ⟨#[98]⟩, .string ⟨#[99]⟩, .string ⟨#[100]⟩, .string ⟨#[101]⟩] 9) w.heap.size (by omega)).trans h1
  have hb2 := ((Below.refl w.heap.size w).alloc (Nat.le_refl _) (newX w.heap.size 1).head).alloc (by omega) (.cells #[.string ⟨#[97]⟩, .string ⟨#[98]⟩, .string ⟨#[99]⟩, .string ⟨#[100]⟩, .string ⟨#[101]⟩] 9)
  clear hs1
  generalize (w.alloc (newX w.heap.size 1).head).alloc (.cells #[.string ⟨#[97]⟩, .string ⟨#[98]⟩, .string ⟨#[99]⟩, .string ⟨#[100]⟩, .string ⟨#[101]⟩] 9) = w2 at *
  have hF2 : Fac w2 := ⟨(hb2.cell (p := ⟨0, 0, none⟩) hz).trans hFH.out.1, (hb2.cell (p := ⟨0, 1, none⟩) hz).trans hFH.out.2⟩
  have hok := new_ok (B := w.heap.size) w.heap.size 1 (by unfold U; omega) hF2 hz (Nat.le_refl _) h1'
  have hal : AliveAt 0 (newX w.heap.size 1) := ⟨rfl, fun e he => by simp [Tb.ents, newX] at he, fun h => by omega, fun _ => ⟨rfl, rfl⟩, fun h => by omega⟩
  have hokH := Lib.hid hok
  have halH := Lib.hid hal
  have hkrH := Lib.hid (show KRow w2 (w.heap.size + 1) from h2)
  have hbH := Lib.hid hb2
  have hnbH := Lib.hid (show w.heap.size + 1 ∉ (newX w.heap.size 1).blocks by simp [newX, Tb.blocks, Tb.ents])
  clear hok hal h2 hb2 h1 h1' hF2
  go_loopw [2, 3, 9] (fun s2 s3 s9 wr => ∃ (i : Nat) (X : Tb), i ≤ 5 ∧ s9 = .int .i64 i ∧ Hid (AliveAt i X) ∧ Hid (Ok w.heap.size X wr) ∧ Hid (X.T = w.heap.size) ∧ Hid (KRow wr (w.heap.size + 1)) ∧ Hid (w.heap.size + 1 ∉ X.blocks) ∧ Hid (Below w.heap.size w wr)) (fun s2 s3 s9 _ => 5 - (intOf s9).toNat)
  case atStart => exact ⟨0, _, by omega, rfl, halH, hokH, Lib.hid rfl, hkrH, hnbH, hbH⟩
  case round =>
    obtain ⟨i, X, hi, rfl, hA, hO, hT, hK, hN, hB⟩ := hrel
    by_cases hlt : i < 5
    · have hcell := krow_cell hK.out hlt
      have hmv := moved_at hO.out
      obtain ⟨hn, _⟩ := hA.out.low (by omega)
      rw [if_pos hn, hT.out] at hmv
      have hmvH := Lib.hid hmv
      have hpt := put_any hO.out (kk i) (kk_size i) (i : Int) (by rw [hA.out.cnt]; omega)
      rw [hT.out] at hpt
      have hptH := Lib.hid hpt
      have hdi : decide ((i : Int) < 5) = true := by simp; omega
      clear hmv hpt hn
      have hltH := Lib.hid hlt
      generalize hki : kk i = ki at *
      have hkiH := Lib.hid hki
      clear hki
      go_wp2_with (first
        | (go_at_call 15; ((with_reducible refine (hmvH.out).mono ?_); rintro r w' ⟨rfl, rfl⟩))
        | (go_at_call 9; ((with_reducible refine (hptH.out).mono ?_); rintro r w4 ⟨G, new, rfl, hG⟩; have hGH := Lib.hid hG; clear hG; obtain ⟨hnew, hA2⟩ := alive_put hA.out hltH.out hO.out.inv (by rw [hkiH.out]; exact hGH.out); subst hnew; have hA2H := Lib.hid hA2; clear hA2)))
      go_roundw
      case rel =>
        have hg := hGH.out
        have hk := hK.out
        unfold KRow at hk
        refine ⟨i + 1, G, by omega, by go_num, hA2H, Lib.hid hg.ok, Lib.hid (hg.same.1.trans hT.out), Lib.hid ?_, Lib.hid ?_, Lib.hid ?_⟩
        · exact hg.only.keep hk hN.out
        · intro hm
          have := some_lt hk
          rcases hg.blk _ hm with h3 | h3
          · exact hN.out h3
          · omega
        · exact hB.out.trans (hg.only.below hB.out.size (fun x hx => hO.out.live.own x hx))
      case measure => simp [intOf]; omega
    · have hi5 : i = 5 := by omega
      subst hi5
      obtain ⟨hnl, hmv0, hol⟩ := hA.out.top rfl
      have hn : X.new ≠ [] := fun hh => by rw [hh] at hnl; simp at hnl
      have hgt := get_any hO.out ⟨#[99]⟩ (by show (1 : Nat) ≤ 1000; omega)
      rw [hT.out] at hgt
      have hgtH := Lib.hid (hgt.mono (fun r w' hr => show r = .returned (.tuple #[.int .i64 2, .bool true]) ∧ Only [] _ w' from by
        obtain ⟨h1, h2⟩ := hr
        obtain ⟨b, hb⟩ := hA.out.has (by omega)
        rcases h2 with ⟨e, he, hk, rfl⟩ | ⟨hno, _⟩
        · obtain rfl := ent_one hO.out.inv.nd e he _ hb hk
          exact ⟨rfl, h1⟩
        · exact absurd rfl (hno _ hb)))
      have hshH := Lib.hid (And.intro hnl (And.intro hmv0 (And.intro hol hn)))
      clear hgt hn hnl hmv0 hol
      go_upto_region 9 with (go_at_call 12; ((with_reducible refine (hgtH.out).mono ?_); rintro r w5 ⟨rfl, h5⟩))
      obtain ⟨hnl, hmv0, hol, hn⟩ := hshH.out
      have hO5 := hO.out.on h5 (by simp) (by simp)
      have hmv := moved_at hO5
      rw [if_neg hn, hmv0, hT.out] at hmv
      simp only [Int.natCast_zero] at hmv
      have hmvH := Lib.hid hmv
      have hsz := size_at hO5 (k := 2) (Or.inr ⟨by omega, by omega, by rw [hol]; rfl⟩)
      rw [hT.out] at hsz
      have hszH := Lib.hid hsz
      have hln := len_at hO5
      rw [hT.out, hA.out.cnt] at hln
      have hlnH := Lib.hid hln
      have hst := steps_any hO5 9 ⟨by omega, by omega⟩
      rw [hT.out] at hst
      have hstH := Lib.hid (hst.mono (fun r w' hr => show r = .returned (.int .i64 4) ∧ (∀ w6, w6 = w' → Calls Tryd.prog 17 #[.pointer (some ⟨w.heap.size, 0, none⟩)] w6 fun e w7 => e = .returned (.int .i64 3) ∧ w6 = w7) ∧ Only X.blocks _ w' from by
        obtain ⟨m, Y, rfl, hm, hS, hY, ho⟩ := hr
        have hrem : rem X = 4 := by unfold rem; rw [if_neg hn, hol, hmv0]
        have hm4 : m = 4 := by rw [hm, hrem]; rfl
        refine ⟨by rw [hm4]; rfl, ?_, ho⟩
        rintro w6 rfl
        have hz : rem Y = 0 := by have := hS.rem; omega
        have hYn := (rem_zero hS.inv).1 hz
        have hYo : Y.old.length = 8 := by
          rcases stepN_len m X hO5.inv (by omega) with ⟨h1, _⟩ | ⟨_, h2, _⟩
          · rw [← hS.eq, hYn, hnl] at h1; simp at h1
          · rw [← hS.eq] at h2; rw [h2, hnl]
        have hsz3 := size_at hY (k := 3) (Or.inr ⟨by omega, by omega, by rw [hYo]; rfl⟩)
        rw [hS.T.1, hT.out] at hsz3
        exact hsz3))
      have h5H := Lib.hid h5
      clear hmv hsz hln hst hn hnl hmv0 hol h5 hO5
      go_wp2_with (first
        | (go_at_call 15; ((with_reducible refine (hmvH.out).mono ?_); rintro r w' ⟨rfl, rfl⟩))
        | (go_at_call 14; ((with_reducible refine (hlnH.out).mono ?_); rintro r w' ⟨rfl, rfl⟩))
        | (go_at_call 11; ((with_reducible refine (hstH.out).mono ?_); rintro r w6 ⟨rfl, hs6, h6⟩; have hs6H := Lib.hid hs6; have h6H := Lib.hid h6; clear hs6 h6))
        | (go_at_call 17; ((with_reducible refine (hszH.out).mono ?_); rintro r w' ⟨rfl, rfl⟩))
        | (go_at_call 17; ((with_reducible refine (hs6H.out _ rfl).mono ?_); rintro r w' ⟨rfl, rfl⟩)))
      go_ret
      exact ⟨rfl, (hB.out.trans (h5H.out.below (B := w.heap.size) hB.out.size (by simp))).trans (h6H.out.below (by have := hB.out.size; have := h5H.out.size; omega) (fun x hx => hO.out.live.own x hx))⟩

end Go.Proofs.YtnjccmdbfokfiaaDoor
