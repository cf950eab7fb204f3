/-
  A book of the call's own: what was there when the call began lies as it lay. Premises: keys of at most so many bytes as the model's texts have; fewer than a million keys.
-/
import Derived.Test.YtpbmgaipeofpaaaU
import Derived.Test.YtpbmgaipeofpaaaNI
import Derived.Test.YtpbmgaipeofpaaaNJ
import Derived.Test.YtpbmgaipeofpaaaNM
namespace Go.Proofs.Ytpbmgaipeofpaaa
open Go.RowKit

theorem rowF_go (L : List Sc) (key : ByteArray) (m : Int) : rowF (goF L key) m = goK (rowF L m) key := by
  induction L with
  | nil => rfl
  | cons a L ih =>
    rw [goF_cons]
    have hr : ∀ (M : List Sc), rowF (a :: M) m = if a.2 = m then a.1 :: rowF M m else rowF M m := fun M => by
      unfold rowF
      rw [List.filter_cons]
      by_cases h : a.2 = m <;> simp [h]
    rw [hr L]
    by_cases h1 : a.1 = key
    · rw [if_pos h1, ih]
      by_cases h2 : a.2 = m
      · rw [if_pos h2, goK_cons, if_pos h1]
      · rw [if_neg h2]
    · rw [if_neg h1, hr, ih]
      by_cases h2 : a.2 = m
      · rw [if_pos h2, if_pos h2, goK_cons, if_neg h1]
      · rw [if_neg h2, if_neg h2]
theorem map_go (L : List Sc) (key : ByteArray) : (goF L key).map Prod.fst = goK (L.map Prod.fst) key := by
  induction L with
  | nil => rfl
  | cons a L ih =>
    rw [goF_cons, List.map_cons, goK_cons]
    split
    · exact ih
    · rw [List.map_cons, ih]
theorem map_tip (L : List Sc) (key : ByteArray) : (tipF L key).map Prod.fst = tipK (L.map Prod.fst) key := by
  unfold tipF tipK
  rw [List.map_append, map_go]
  rfl
theorem row_not {L : List Sc} (hu : Uniq L) {key : ByteArray} {m : Int} (h : m ≠ cntF L key) : key ∉ rowF L m := fun hm => h (cntF_mem hu (mem_rowF.1 hm)).symm
theorem go_row {L : List Sc} (hu : Uniq L) (key : ByteArray) (m : Int) : upF' (rowF L) (cntF L key) (goK (rowF L (cntF L key)) key) m = rowF (goF L key) m := by
  rw [rowF_go]
  unfold upF'
  by_cases e : m = cntF L key
  · rw [if_pos e, ← e]
  · rw [if_neg e, goK_none (row_not hu e)]
theorem touch_row {L : List Sc} (hu : Uniq L) (hc : Cnt L) (key : ByteArray) (m : Int) : touchF (rowF L) (cntF L key) key m = rowF (tipF L key) m := by
  have hr := cntF_range hc key
  unfold tipF
  rw [rowF_snoc]
  by_cases h : cntF L key < 255
  · rw [touchF_low _ _ h]
    have hup : upF (cntF L key) = cntF L key + 1 := by unfold upF; rw [if_neg (by omega)]
    simp only [hup]
    by_cases e : m = cntF L key + 1
    · subst e
      rw [if_pos rfl]
      show (if cntF L key + 1 = cntF L key + 1 then _ else _) = _
      rw [if_pos rfl, go_row hu]
      unfold tipK
      rw [rowF_go, goK_none (L := goK _ _) (fun hm => (mem_goK.1 hm).2 rfl)]
    · rw [if_neg (fun e' => e e'.symm), List.append_nil, ← go_row hu]
      show (if m = cntF L key + 1 then _ else _) = _
      rw [if_neg e]
  · have h5 : cntF L key = 255 := by omega
    have hup : upF (cntF L key) = 255 := by rw [h5]; decide
    simp only [hup]
    rw [h5, touchF_top]
    by_cases e : m = 255
    · subst e
      rw [if_pos rfl]
      show (if (255 : Int) = 255 then _ else _) = _
      rw [if_pos rfl, rowF_go]
      rfl
    · rw [if_neg (fun e' => e e'.symm), List.append_nil, rowF_go, goK_none (row_not hu (by rw [h5]; exact e))]
      show (if m = 255 then _ else _) = _
      rw [if_neg e]
theorem keys_nodup {L : List Sc} (hu : Uniq L) : (L.map Prod.fst).Nodup := by
  unfold List.Nodup
  rw [List.pairwise_map]
  exact hu
theorem go_len {L : List Sc} (hu : Uniq L) {key : ByteArray} {x : Int} (h : (key, x) ∈ L) : (goF L key).length = L.length - 1 := by
  have hm : key ∈ L.map Prod.fst := List.mem_map.2 ⟨_, h, rfl⟩
  obtain ⟨i, hi⟩ := List.getElem?_of_mem hm
  have hlt := (List.getElem?_eq_some_iff.1 hi).1
  have e := congrArg List.length (goK_at (keys_nodup hu) hi)
  rw [← map_go, List.length_map] at e
  rw [e]
  simp at hlt ⊢
  omega
theorem go_none {L : List Sc} {key : ByteArray} (h : ∀ x ∈ L, x.1 ≠ key) : goF L key = L := by
  unfold goF
  rw [List.filter_eq_self]
  intro x hx
  simp [h x hx]
variable {c c' : Cd} {L : List Sc}
theorem CL.none (h : CL c L) {key : ByteArray} (hc : c key = none) : ∀ x ∈ L, x.1 ≠ key := fun x hx e => by
  obtain ⟨b, hb⟩ := (h x.1 x.2).2 hx
  rw [e, hc] at hb
  cases hb
theorem CL.cnt (h : CL c L) (hu : Uniq L) (key : ByteArray) : cntC c key = cntF L key := by
  unfold cntC
  cases hc : c key with
  | none => exact (cntF_none (h.none hc)).symm
  | some q =>
    obtain ⟨b, x⟩ := q
    exact (cntF_mem hu ((h key x).1 ⟨b, hc⟩)).symm
theorem CL.tip (h : CL c L) {key : ByteArray} (hk : ∃ b, c' key = some (b, upF (cntF L key))) (ho : ∀ k, k ≠ key → c' k = c k) : CL c' (tipF L key) := fun k x => by
  unfold tipF
  rw [List.mem_append, List.mem_singleton]
  by_cases e : k = key
  · subst e
    obtain ⟨b, hb⟩ := hk
    rw [hb]
    constructor
    · rintro ⟨b', e⟩
      cases e
      exact Or.inr rfl
    · rintro (e | e)
      · exact absurd rfl (mem_goF.1 e).2
      · cases e
        exact ⟨b, rfl⟩
  · rw [ho k e, h k x, mem_goF]
    constructor
    · exact fun hm => Or.inl ⟨hm, e⟩
    · rintro (hm | hm)
      · exact hm.1
      · exact absurd (congrArg Prod.fst hm) e
theorem CL.go (h : CL c L) (key : ByteArray) : CL (upC c key Option.none) (goF L key) := fun k x => by
  rw [mem_goF]
  by_cases e : k = key
  · subst e
    rw [upC_at]
    exact ⟨fun ⟨b, hb⟩ => (by cases hb), fun hm => absurd rfl hm.2⟩
  · rw [upC_other _ _ e, h k x]
    exact ⟨fun hm => ⟨hm, e⟩, fun hm => hm.1⟩
/-- The call (begun in the world w0) has a book p of its own, its blocks O, whose keys with counts, in the order of their last touches, are L. -/
def Pl (w0 w : World) (p : Nat) (O : List Nat) (L : List Sc) : Prop :=
  ∃ c, Bk none w p c (rowF L) (L.map Prod.fst) L.length O ∧ CL c L ∧ Uniq L ∧ Cnt L ∧ (∀ x ∈ L, x.1.size ≤ maxLen) ∧ Only [] w0 w ∧ ∀ b ∈ O, w0.heap.size ≤ b
section
variable {w0 w : World} {p : Nat} {O : List Nat} {R : List Sc}
theorem Pl.uniq (h : Pl w0 w p O R) : Uniq R := by obtain ⟨c, _, _, h1, _⟩ := h; exact h1
theorem Pl.cnt (h : Pl w0 w p O R) : Cnt R := by obtain ⟨c, _, _, _, h1, _⟩ := h; exact h1
theorem Pl.most (h : Pl w0 w p O R) : Only [] w0 w := by obtain ⟨c, _, _, _, _, _, h1, _⟩ := h; exact h1
theorem Pl.lt (h : Pl w0 w p O R) {b : Nat} (hb : b ∈ O) : b < w.heap.size := by obtain ⟨c, h1, _⟩ := h; exact h1.lt hb
theorem Pl.ge (h : Pl w0 w p O R) {b : Nat} (hb : b ∈ O) : w0.heap.size ≤ b := by obtain ⟨c, _, _, _, _, _, _, h1⟩ := h; exact h1 b hb
theorem Pl.same {w' : World} (h : Pl w0 w p O R) (ho : Only [] w w') : Pl w0 w' p O R := by
  obtain ⟨c, h1, h2, h3, h4, h5, h6, h7⟩ := h
  exact ⟨c, h1.same ho, h2, h3, h4, h5, h6.trans ho (by simp), h7⟩
theorem Pl.step {w' : World} {O' : List Nat} {R' : List Sc} (h : Pl w0 w p O R) (hb : Bk none w' p c' (rowF R') (R'.map Prod.fst) R'.length O') (hc : CL c' R') (hu : Uniq R') (hn : Cnt R') (hs : ∀ x ∈ R', x.1.size ≤ maxLen) (m : Move O w w' O') : Pl w0 w' p O' R' := by
  obtain ⟨c, h1, h2, h3, h4, h5, h6, h7⟩ := h
  have h8 := h6.size
  exact ⟨c', hb, hc, hu, hn, hs, h6.trans m.1 (fun x hx => Or.inr (h7 x hx)), fun b hb => (m.2 b hb).elim (h7 b) (fun e => by omega)⟩
theorem bk_made (w : World) : Bk none (w.alloc (.cells (headA none none (.pointer none) 0) 55 (0, 0))) w.heap.size (fun _ => none) (rowF []) [] 0 [w.heap.size] :=
  ⟨none, none, .pointer none, 0, fun _ => none, [], [], [], ⟨Ord.x ⟨heap_alloc_new _ _, by simp, Or.inl ⟨rfl, rfl, rfl⟩⟩, ⟨⟨rfl, fun _ => rfl⟩, fun _ _ _ h => (by cases h), ⟨fun _ h => (by cases h), fun _ _ _ h => (by cases h)⟩, by simp⟩,
    ⟨⟨by decide, fun _ => rfl⟩, fun _ _ _ _ h => (by cases h), ⟨fun _ h => (by cases h), fun _ _ _ _ h => (by cases h)⟩, fun _ _ _ _ _ _ _ _ h => (by cases h), fun _ h => (by cases h), fun _ h => absurd rfl h, by simp⟩, by simp, by simp, by simp, by simp, by simp, by omega, by omega⟩, fun _ => rfl, rfl⟩
theorem pl_made (ho : Only [] w0 w) : Pl w0 (w.alloc (.cells (headA none none (.pointer none) 0) 55 (0, 0))) w.heap.size [w.heap.size] [] :=
  ⟨_, bk_made w, fun k x => ⟨fun ⟨b, hb⟩ => (by cases hb), fun h => (by cases h)⟩, List.Pairwise.nil, fun x hx => (by cases hx), fun x hx => (by cases hx), ho.alloc _, fun b hb => by rw [List.mem_singleton.1 hb]; exact ho.size⟩
theorem pl_new (ho : Only [] w0 w) : Calls Try.prog 9 #[] w fun e w' => ∃ p O, e = .returned (.pointer (some ⟨p, 0, none⟩)) ∧ Pl w0 w' p O [] ∧ Only [] w w' := by
  have hP := Lib.hid (pl_made ho)
  clear ho
  go_enter Try.func9, Try.ntmps9
  go_wp2
  go_ret
  exact ⟨_, _, rfl, hP.out, (Only.refl [] w).alloc _⟩
theorem Pl.touch (h : Pl w0 w p O R) (hl : R.length < 1000000) (key : ByteArray) (hkey : key.size ≤ maxLen) :
    Calls Try.prog 10 #[.pointer (some ⟨p, 0, none⟩), .string key] w fun e w' => e = .returned (.int .i64 (upF (cntF R key))) ∧ ∃ O', Pl w0 w' p O' (tipF R key) ∧ Move O w w' O' := by
  have h' := h
  obtain ⟨c, h1, h2, h3, h4, h5, h6, h7⟩ := h
  have hcn := h2.cnt h3 key
  have hrl : ∀ m, (rowF R m).length < 1000000 := fun m => by
    unfold rowF
    rw [List.length_map]
    exact Nat.lt_of_le_of_lt (List.length_filter_le _ _) hl
  refine (h1.touch hl hkey hrl (by rw [List.length_map]; exact hl) (by rw [hcn]; exact cntF_range h4 key)).mono ?_
  rintro e w' ⟨rfl, c', O', k1, k2, k3, k4⟩
  rw [hcn] at k1 k3 ⊢
  have k := k1.ext (touch_row h3 h4 key)
  refine ⟨rfl, O', h'.step (c' := c') ?_ (h2.tip k3 k4) (tipF_uniq h3 key) (tipF_cnt h4 key) (fun x hx => ?_) k2, k2⟩
  · rw [map_tip]
    have hn : (if (c key).isSome then R.length else R.length + 1) = (tipF R key).length := by
      unfold tipF
      rw [List.length_append]
      cases hc : c key with
      | none => rw [go_none (h2.none hc)]; rfl
      | some q =>
        obtain ⟨b, x⟩ := q
        have hm := (h2 key x).1 ⟨b, hc⟩
        rw [go_len h3 hm]
        have := List.length_pos_of_mem hm
        simp
        omega
    rw [← hn]
    exact k
  · rcases List.mem_append.1 hx with hx | hx
    · exact h5 x (mem_goF.1 hx).1
    · rw [List.mem_singleton.1 hx]; exact hkey
theorem Pl.drop (h : Pl w0 w p O R) (key : ByteArray) (hkey : key.size ≤ maxLen) :
    Calls Try.prog 12 #[.pointer (some ⟨p, 0, none⟩), .string key] w fun e w' => e = .returned (.bool (hasF R key)) ∧ ∃ O', Pl w0 w' p O' (goF R key) ∧ Move O w w' O' := by
  have h' := h
  obtain ⟨c, h1, h2, h3, h4, h5, h6, h7⟩ := h
  unfold hasF
  cases hc : c key with
  | none =>
    have hg := go_none (h2.none hc)
    have hC := h1.count key hkey
    have h0 : cntC c key = 0 := by unfold cntC; rw [hc]
    rw [h0] at hC
    rw [hg, decide_eq_false (Nat.lt_irrefl _)]
    refine (bdrop_zero key hC).mono ?_
    rintro e w' ⟨rfl, rfl⟩
    exact ⟨rfl, O, h', Move.refl _ _⟩
  | some q =>
    obtain ⟨b, x⟩ := q
    have hm := (h2 key x).1 ⟨b, hc⟩
    have hx := h4 _ hm
    have hl := go_len h3 hm
    have hp := List.length_pos_of_mem hm
    have hcx : cntF R key = x := cntF_mem h3 hm
    rw [decide_eq_true (by omega : (goF R key).length < R.length)]
    refine (h1.drop hkey hc hx).mono ?_
    rintro e w' ⟨rfl, O', k1, k2⟩
    refine ⟨rfl, O', h'.step (c' := upC c key Option.none) ?_ (h2.go key) (goF_uniq h3 key) (goF_cnt h4 key) (fun z hz => h5 z (mem_goF.1 hz).1) k2, k2⟩
    rw [map_go, hl]
    refine k1.ext (fun m => ?_)
    rw [← go_row h3, hcx]
theorem Pl.halve (h : Pl w0 w p O R) : Calls Try.prog 14 #[.pointer (some ⟨p, 0, none⟩)] w fun e w' => e = .returned (.int .i64 (lessF R : Nat)) ∧ ∃ O', Pl w0 w' p O' (halveF R) ∧ Move O w w' O' := by
  have h' := h
  obtain ⟨c, h1, h2, h3, h4, h5, h6, h7⟩ := h
  refine (h1.halve h3 h2 h4 h5 h1.few).mono ?_
  rintro e w' ⟨rfl, c', O', k1, k2, k3⟩
  have hm : (halveF R).map Prod.fst = R.map Prod.fst := by
    unfold halveF
    rw [List.map_map]
    exact List.map_congr_left (fun x _ => halfO_key x)
  have hl : (halveF R).length = R.length := by unfold halveF; rw [List.length_map]
  refine ⟨rfl, O', h'.step (by rw [hm, hl]; exact k1) k2 (halveF_uniq h3) (halveF_cnt h4) (fun x hx => ?_) k3, k3⟩
  obtain ⟨y, hy, e⟩ := mem_halve hx
  rw [← e]
  exact h5 y hy
theorem Pl.count (h : Pl w0 w p O R) (key : ByteArray) (hkey : key.size ≤ maxLen) :
    Calls Try.prog 17 #[.pointer (some ⟨p, 0, none⟩), .string key] w fun e w' => e = .returned (.int .i64 (cntF R key)) ∧ Only [] w w' := by
  obtain ⟨c, h1, h2, h3, _⟩ := h
  rw [← h2.cnt h3 key]
  exact (h1.count key hkey).mono fun _ _ ⟨he, hw⟩ => ⟨he, hw ▸ Only.refl [] _⟩
theorem Pl.least (h : Pl w0 w p O R) : Calls Try.prog 20 #[.pointer (some ⟨p, 0, none⟩)] w fun e w' => e = .returned (.tuple #[.string ((allF R).headD ⟨#[]⟩), .bool (decide (0 < (allF R).length))]) ∧ Only [] w w' := by
  obtain ⟨c, h1, _⟩ := h
  exact h1.least.mono fun _ _ ⟨he, hw⟩ => ⟨he, hw ▸ Only.refl [] _⟩
theorem Pl.len (h : Pl w0 w p O R) : Calls Try.prog 16 #[.pointer (some ⟨p, 0, none⟩)] w fun e w' => e = .returned (.int .i64 (R.length : Nat)) ∧ Only [] w w' := by
  obtain ⟨c, h1, _⟩ := h
  exact h1.len.mono fun _ _ ⟨he, hw⟩ => ⟨he, hw ▸ Only.refl [] _⟩
theorem Pl.all (h : Pl w0 w p O R) : Calls Try.prog 22 #[.pointer (some ⟨p, 0, none⟩)] w fun e w' => ∃ v', e = .returned v' ∧ RowT w' w.heap.size v' (allF R) ∧ Only [] w w' := by
  obtain ⟨c, h1, _⟩ := h
  exact h1.all
end
end Go.Proofs.Ytpbmgaipeofpaaa
