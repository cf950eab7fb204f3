/-
  The walk of Put. The table of factors holds what the program's text lays; a table's shape.
-/
import Derived.Test.YtdldgiicblmknaaDoorHQ
import Derived.Deep.Cut
namespace Go.Proofs.YtdldgiicblmknaaDoor
open Go.RowKit

/-- What a table is behind a key that came, the table being Y ahead of it. -/
structure Came (Y G : Tb) (key : ByteArray) (v : Int) : Prop where
  ents : ∃ b, G.ents.Perm ((b, key, v) :: Y.ents)
  count : G.count = Y.count + 1
  old : G.old.length = openLen Y
  new : (Y.new ≠ [] ∧ G.new.length = Y.new.length ∧ G.moved = Y.moved) ∨ (Y.new = [] ∧ G.new = [] ∧ (openLen Y < Y.count + 1 → openLen Y = 65536)) ∨ (Y.new = [] ∧ openLen Y < Y.count + 1 ∧ G.new.length = 2 * openLen Y ∧ G.moved = 0)
  ex : ∃ e : En, e.2 = (key, v) ∧ ((Y.new ≠ [] ∧ G.new = pushL Y.seed Y.new e ∧ G.old = Y.old) ∨ (Y.new = [] ∧ G.old = pushL Y.seed (openL Y) e ∧ (G.new = [] ∨ G.new = List.replicate (2 * openLen Y) [])))
/-- What Put makes of a table. -/
structure PutRes (B : Nat) (X G : Tb) (key : ByteArray) (v : Int) (new : Bool) (w w' : World) : Prop where
  ok : Ok B G w'
  only : Only X.blocks w w'
  same : G.T = X.T ∧ G.seed = X.seed
  blk : ∀ x ∈ G.blocks, x ∈ X.blocks ∨ w.heap.size ≤ x
  how : ∃ Y m, Steps X Y m ∧ m = min 1 (rem X) ∧ ((new = false ∧ Valued Y G key v) ∨ (new = true ∧ (∀ e ∈ Y.ents, e.2.1 ≠ key) ∧ Came Y G key v))

/-- Where a key's value is set. -/
theorem find_val {X : Tb} {w : World} (h : Here X w) (hi : Inv X) {key : ByteArray} (hk : key.size ≤ 1000) {H : Nat} {a : Addr} (hf : fndT key H (adr X.p0) (adr X.p1) X.old X.new = some a) (v : Int) :
    ∃ (e : En) (q : Option Addr), w.cell? a = some (.pointer (some ⟨e.1, 0, none⟩)) ∧ w.heap[e.1]? = some (entry e q) ∧ ∃ G, Here G (w.setCell ⟨e.1, 1, none⟩ (.int .i64 v)) ∧ Only X.blocks w (w.setCell ⟨e.1, 1, none⟩ (.int .i64 v)) ∧ Valued X G key v := by
  rcases find_some h hf with ⟨b, M, A, e, B, hl⟩ | ⟨b, M, A, e, B, hl⟩
  · have hch : ChainAt w (A ++ e :: B) := fun q hq => h.at_ q (mem_old (List.mem_of_getElem? hl.at_) hq)
    obtain ⟨h1, h2⟩ := val_old h hl v
    exact ⟨e, _, by rw [hl.a]; exact lk_cell (pl_cell (h.at_ _ (mem_p0 hl.p)) hl.at_).1 hch, (chain_suffix hch).head, _, h1, h2, valued_old hi hl v hk⟩
  · have hch : ChainAt w (A ++ e :: B) := fun q hq => h.at_ q (mem_new (List.mem_of_getElem? hl.at_) hq)
    obtain ⟨h1, h2⟩ := val_new h hl v
    exact ⟨e, _, by rw [hl.a]; exact lk_cell (pl_cell (h.at_ _ (mem_p1 hl.p)) hl.at_).1 hch, (chain_suffix hch).head, _, h1, h2, valued_new hi hl v hk⟩
/-- Where a key's entry is let go. -/
theorem find_drop {X : Tb} {w : World} (h : Here X w) (hi : Inv X) {key : ByteArray} {H : Nat} {a : Addr} (hf : fndT key H (adr X.p0) (adr X.p1) X.old X.new = some a) :
    ∃ (e : En) (q : Option Addr), w.cell? a = some (.pointer (some ⟨e.1, 0, none⟩)) ∧ w.frozen? a = false ∧ w.heap[e.1]? = some (entry e q) ∧ ∃ G, Here G (w.setCell a (.pointer q)) ∧ Only X.blocks w (w.setCell a (.pointer q)) ∧ Gone X G key := by
  rcases find_some h hf with ⟨b, M, A, e, B, hl⟩ | ⟨b, M, A, e, B, hl⟩
  · have hch : ChainAt w (A ++ e :: B) := fun q hq => h.at_ q (mem_old (List.mem_of_getElem? hl.at_) hq)
    obtain ⟨h1, h2⟩ := drop_old h hl
    obtain ⟨pc, pf⟩ := pl_cell (h.at_ _ (mem_p0 hl.p)) hl.at_
    exact ⟨e, hd B, by rw [hl.a]; exact lk_cell pc hch, by rw [hl.a]; exact lk_frozen pf hch, (chain_suffix hch).head, _, h1, h2, gone_old hi hl⟩
  · have hch : ChainAt w (A ++ e :: B) := fun q hq => h.at_ q (mem_new (List.mem_of_getElem? hl.at_) hq)
    obtain ⟨h1, h2⟩ := drop_new h hl
    obtain ⟨pc, pf⟩ := pl_cell (h.at_ _ (mem_p1 hl.p)) hl.at_
    exact ⟨e, hd B, by rw [hl.a]; exact lk_cell pc hch, by rw [hl.a]; exact lk_frozen pf hch, (chain_suffix hch).head, _, h1, h2, gone_new hi hl⟩
/-- What a table is when an entry came, but for its count. -/
structure Ins (Z G : Tb) (e : En) : Prop where
  inv : Inv G
  ents : G.ents.Perm (e :: Z.ents)
  count : G.count = Z.count + 1
  same : G.T = Z.T ∧ G.seed = Z.seed ∧ G.moved = Z.moved ∧ G.p0 = Z.p0 ∧ G.p1 = Z.p1
  old : G.old.length = Z.old.length
  new : G.new.length = Z.new.length
  ne : G.old ≠ []
  ex : (Z.new ≠ [] ∧ G.new = pushL Z.seed Z.new e ∧ G.old = Z.old) ∨ (Z.new = [] ∧ G.old = pushL Z.seed Z.old e ∧ G.new = [])
theorem put_open {B : Nat} {Z : Tb} {w : World} (h : Ok B Z w) {b : Nat} {vv : Value} (ho : IsOpen Z b vv) (key : ByteArray) (hk : key.size ≤ 1000) (v : Int) (hno : ∀ x ∈ Z.ents, x.2.1 ≠ key) (hc : Z.count + 1 ≤ 1000000) :
    Calls Tryd.prog 45 #[vv, .pointer (some ⟨w.heap.size, 0, none⟩), .int .u64 ((num Z.seed key : Nat) : Int)] (w.alloc (entry (w.heap.size, key, v) none)) fun r w' => r = .returned (.tuple #[]) ∧ Only Z.blocks w w' ∧ ∃ G, Here { G with count := Z.count } w' ∧ Ins Z G (w.heap.size, key, v) := by
  have hnew : (w.alloc (entry (w.heap.size, key, v) none)).heap[w.heap.size]? = some (entry (w.heap.size, key, v) none) := heap_alloc_new w _
  have ha : Only [] w (w.alloc (entry (w.heap.size, key, v) none)) := (Only.refl [] w).alloc _
  have hL : Here { Z with ext := [(w.heap.size, key, v)] } (w.alloc (entry (w.heap.size, key, v) none)) := re_loose h.live.here h.inv.ext (w.heap.size, key, v) (Nat.le_refl _) ha hnew
  have hsep := hL.sep'
  simp only [List.map_cons, List.map_nil] at hsep
  rcases ho with ⟨hn, hp, rfl⟩ | ⟨hn, hold, hp, rfl⟩
  · obtain ⟨k1, hk1⟩ := h.inv.good.s1
    have hpos := List.length_pos_iff.2 hn
    have hM := Nat.mod_lt (num Z.seed key) hpos
    have hcN : Z.new[num Z.seed key % Z.new.length]? = some (Z.new.getD (num Z.seed key % Z.new.length) []) := by simp [hM]
    have hPl := hL.at_ (b, plObj Z.new) ((objs_iff _ _).2 (Or.inr (Or.inr (Or.inl ⟨b, hp, rfl⟩))))
    rw [hp] at hsep
    simp only [Option.toList_some] at hsep
    have hne : b ≠ w.heap.size := by intro hh; rw [hh] at hsep; grind
    have hb : b ∈ Z.blocks := by unfold Tb.blocks; simp [hp]
    refine (hput_any b k1 Z.new _ (w.heap.size, key, v) none (num Z.seed key) _ hPl hnew hne hk1 hpos (num_int _ _).2 hcN).mono ?_
    rintro r w' ⟨rfl, hon, hent, hpl⟩
    have hh := push_new (X := { Z with ext := [(w.heap.size, key, v)] }) hL hp rfl hcN hon hent hpl
    obtain ⟨hinv, hper⟩ := ins_new h.inv (w.heap.size, key, v) hk hno hc hn
    refine ⟨rfl, (ha.mono (by simp)).trans hon (fun x hx => ?_), _, hh, hinv, hper, rfl, ⟨rfl, rfl, rfl, rfl, rfl⟩, rfl, pushL_len _ _ _, ?_, Or.inl ⟨hn, rfl, rfl⟩⟩
    · simp only [List.mem_cons, List.not_mem_nil, or_false] at hx
      rcases hx with rfl | rfl
      · exact Or.inr (Nat.le_refl _)
      · exact Or.inl hb
    · intro hh
      have := h.inv.good.mv hn
      rw [show Z.old = [] from hh] at this
      simp at this
  · obtain ⟨k0, hk0⟩ := h.inv.good.s0
    have hpos := List.length_pos_iff.2 hold
    have hM := Nat.mod_lt (num Z.seed key) hpos
    have hcN : Z.old[num Z.seed key % Z.old.length]? = some (Z.old.getD (num Z.seed key % Z.old.length) []) := by simp [hM]
    have hPl := hL.at_ (b, plObj Z.old) ((objs_iff _ _).2 (Or.inr (Or.inl ⟨b, hp, rfl⟩)))
    rw [hp] at hsep
    simp only [Option.toList_some] at hsep
    have hne : b ≠ w.heap.size := by intro hh; rw [hh] at hsep; grind
    have hb : b ∈ Z.blocks := by unfold Tb.blocks; simp [hp]
    refine (hput_any b k0 Z.old _ (w.heap.size, key, v) none (num Z.seed key) _ hPl hnew hne hk0 hpos (num_int _ _).2 hcN).mono ?_
    rintro r w' ⟨rfl, hon, hent, hpl⟩
    have hh := push_old (X := { Z with ext := [(w.heap.size, key, v)] }) hL hp rfl hcN hon hent hpl
    obtain ⟨hinv, hper⟩ := ins_old h.inv (w.heap.size, key, v) hk hno hc ⟨hn, hold⟩
    refine ⟨rfl, (ha.mono (by simp)).trans hon (fun x hx => ?_), _, hh, hinv, hper, rfl, ⟨rfl, rfl, rfl, rfl, rfl⟩, pushL_len _ _ _, rfl, ?_, Or.inr ⟨hn, rfl, hn⟩⟩
    · simp only [List.mem_cons, List.not_mem_nil, or_false] at hx
      rcases hx with rfl | rfl
      · exact Or.inr (Nat.le_refl _)
      · exact Or.inl hb
    · intro hh
      have h1 : (pushL Z.seed Z.old (w.heap.size, key, v)).length = Z.old.length := pushL_len _ _ _
      rw [show pushL Z.seed Z.old (w.heap.size, key, v) = [] from hh] at h1
      simp at h1; omega

set_option maxHeartbeats 4000000 in
theorem put_any {B : Nat} {X : Tb} {w : World} (h : Ok B X w) (key : ByteArray) (hk : key.size ≤ 1000) (v : Int) (hc : X.count + 1 ≤ 1000000) :
    Calls Tryd.prog 24 #[.pointer (some ⟨X.T, 0, none⟩), .string key, .int .i64 v] w fun r w' => ∃ (G : Tb) (new : Bool), r = .returned (.bool new) ∧ PutRes B X G key v new w w' := by
  have hst := Lib.hid (steps_any h 1 ⟨by omega, by omega⟩)
  have hX := Lib.hid h
  have hcH := Lib.hid hc
  clear h hc
  go_enter Tryd.func24, Tryd.ntmps24
  go_upto_region 4 with (go_at_call 26; ((with_reducible refine (hst.out).mono ?_); rintro r w1 ⟨m, Y, rfl, hm, hS, hY, ho1⟩))
  have hT : Y.T = X.T := hS.T.1
  have htab := hY.live.here.tab
  obtain ⟨c0, c1, c2, c3, c4, _⟩ := tab_facts htab
  have hof := of_key Y.seed key hY.inv.good.seed hk w1 hY.live.fac
  have hfi := find_ok hY key
  rw [hT] at c0 c1 c2 c3 c4 hfi
  have hoH := Lib.hid ho1
  have hSH := Lib.hid hS
  have hYH := Lib.hid hY
  have hmH := Lib.hid hm
  have hofH := Lib.hid hof
  clear ho1 hS hY hof htab hst hm
  cases hf : fndT key (num Y.seed key) (adr Y.p0) (adr Y.p1) Y.old Y.new with
  | some a =>
    have hfH := Lib.hid hf
    rw [hf] at hfi
    obtain ⟨e, q, ha, hq, G, hG1, hG2, hG3⟩ := find_val hYH.out.live.here hYH.out.inv hk hf v
    obtain ⟨e0, e1, e2, f0, f1, f2⟩ := entry_facts hq
    have hG1H := Lib.hid hG1
    have hG2H := Lib.hid hG2
    have hG3H := Lib.hid hG3
    have hfiH := Lib.hid hfi
    have hTH := Lib.hid hT
    clear hfi hf hT hq hG1 hG2 hG3
    generalize num Y.seed key = nn at *
    go_wp2_with (first
      | (go_at_call 42; ((with_reducible refine (hofH.out).mono ?_); rintro e w' ⟨rfl, rfl⟩))
      | (go_at_call 43; ((with_reducible refine (hfiH.out).mono ?_); rintro e w' ⟨rfl, rfl⟩)))
    go_ret
    refine ⟨G, false, rfl, ?_⟩
    have hb : ∀ x ∈ G.blocks, x ∈ Y.blocks ∨ w1.heap.size ≤ x := fun x hx => Or.inl (hG3H.out.blk x hx)
    exact ⟨hYH.out.next hG2H.out hG1H.out hG3H.out.inv hb, hoH.out.trans hG2H.out (fun x hx => Or.inl (hSH.out.blk x hx)), ⟨hG3H.out.same.1.trans hTH.out, hG3H.out.same.2.trans hSH.out.T.2.1⟩, fun x hx => Or.inl (hSH.out.blk x (hG3H.out.blk x hx)), Y, m, hSH.out, hmH.out, Or.inl ⟨rfl, hG3H.out⟩⟩
  | none =>
    rw [hf] at hfi
    have hno := Lib.hid (find_none hYH.out.live.here hYH.out.inv hf)
    have hfiH := Lib.hid hfi
    have hTH := Lib.hid hT
    have hopn := open_ok hYH.out
    rw [hT] at hopn
    have hopH := Lib.hid hopn
    clear hfi hf hT hopn
    generalize hnn : num Y.seed key = nn at *
    have hnnH := Lib.hid hnn
    clear hnn
    go_upto_region 9 with (first
      | (go_at_call 42; ((with_reducible refine (hofH.out).mono ?_); rintro e w' ⟨rfl, rfl⟩))
      | (go_at_call 43; ((with_reducible refine (hfiH.out).mono ?_); rintro e w' ⟨rfl, rfl⟩)))
    have hksz := Lib.hid hk
    go_upto_region 10 with (first
      | (go_at_call 44; ((with_reducible refine (hopH.out).mono ?_); rintro r w2 ⟨Z, b, vv, rfl, hop, hZ, hon2, hents2, hT2, hsd2, hct2, hmv2, hnew2, hold2, holdL2, hblk2⟩; have hput := Lib.hid (put_open hZ hop key hksz.out v (by rw [hents2]; exact hno.out) (by rw [hct2, hSH.out.T.2.2]; exact hcH.out)); rw [hsd2, hnnH.out] at hput; unfold entry at hput; have hopH2 := Lib.hid hop; have hZH := Lib.hid hZ; have hfacts := Lib.hid (And.intro hon2 (And.intro hents2 (And.intro hT2 (And.intro hsd2 (And.intro hct2 (And.intro hmv2 (And.intro hnew2 (And.intro hold2 (And.intro holdL2 hblk2))))))))); clear hop hZ hon2 hents2 hT2 hsd2 hct2 hmv2 hnew2 hold2 holdL2 hblk2))
      | (go_at_call 45; ((with_reducible refine (hput.out).mono ?_); rintro r w4 ⟨rfl, hon4, G, hG, hIns⟩)))
    obtain ⟨hon2, hents2, hT2, hsd2, hct2, hmv2, hnew2, hold2, holdL2, hblk2⟩ := hfacts.out
    have htb := hG.tab
    have hGT : G.T = X.T := hIns.same.1.trans hT2
    simp only at htb
    rw [hGT] at htb
    clear c0 c1 c2 c3 c4
    obtain ⟨c0, c1, c2, c3, c4, f0, f1, f2, f3, f4⟩ := tab_facts htb
    have hcb : Z.count ≤ 1000000 := hZH.out.inv.good.ct
    have hG5 : Here G (w4.setCell ⟨X.T, 4, none⟩ (.int .i64 ((Z.count : Int) + 1))) := by
      have ht5 := tab_set4 htb (Z.count + 1)
      have h5 := re_head hG G.moved (Z.count + 1) (w' := w4.setCell ⟨X.T, 4, none⟩ (.int .i64 ((Z.count : Int) + 1))) ((Only.refl _ w4).set (Or.inl (by simp [hGT])) _) (by unfold TabC at ht5; rw [hGT, show ((Z.count : Int) + 1) = ((Z.count + 1 : Nat) : Int) by omega, ht5]; simp [Tb.head])
      have he : ({ G with count := Z.count + 1 } : Tb) = G := by rw [← hIns.count]
      simp only at h5
      rw [he] at h5
      exact h5
    have hTZ : Z.T ∈ Z.blocks := by simp [Tb.blocks]
    have hon5 : Only Z.blocks w2 (w4.setCell ⟨X.T, 4, none⟩ (.int .i64 ((Z.count : Int) + 1))) := hon4.set (Or.inl (by rw [← hT2]; exact hTZ)) _
    have hblk5 : ∀ x ∈ G.blocks, x ∈ Z.blocks ∨ w2.heap.size ≤ x := by
      intro x hx
      unfold Tb.blocks at hx ⊢
      rw [hIns.same.1, hIns.same.2.2.2.1, hIns.same.2.2.2.2] at hx
      simp only [List.mem_cons, List.mem_append] at hx ⊢
      rcases hx with hx | hx | hx | hx
      · exact Or.inl (Or.inl hx)
      · exact Or.inl (Or.inr (Or.inl hx))
      · exact Or.inl (Or.inr (Or.inr (Or.inl hx)))
      · obtain ⟨y, hy, rfl⟩ := List.mem_map.1 hx
        rcases List.mem_cons.1 (hIns.ents.mem_iff.1 hy) with rfl | hy
        · exact Or.inr (Nat.le_refl _)
        · exact Or.inl (Or.inr (Or.inr (Or.inr (List.mem_map_of_mem hy))))
    have hok5 : Ok B G (w4.setCell ⟨X.T, 4, none⟩ (.int .i64 ((Z.count : Int) + 1))) := hZH.out.next hon5 hG5 hIns.inv hblk5
    have hgr := grow_ok hok5 hIns.ne
    rw [hGT] at hgr
    have hgrH := Lib.hid hgr
    have hon5H := Lib.hid hon5
    have hblk5H := Lib.hid hblk5
    have hInsH := Lib.hid hIns
    clear hgr hok5 hon5 hblk5 hG5 htb hIns hG hon4 hput hon2 hents2 hT2 hsd2 hct2 hmv2 hnew2 hold2 holdL2 hblk2 hTZ hopH2 hopH
    go_upto_region 12 with (go_at_call 46; ((with_reducible refine (hgrH.out).mono ?_); rintro r w6 ⟨rfl, F, hF, hhow⟩))
    have hFH := Lib.hid hF
    have hhowH := Lib.hid hhow
    clear hF hhow
    go_wp2_with fail
    go_ret
    obtain ⟨hon2, hents2, hT2, hsd2, hct2, hmv2, hnew2, hold2, holdL2, hblk2⟩ := hfacts.out
    have hI := hInsH.out
    have hF := hFH.out
    have hs1 := hoH.out.size
    have hs2 := hon2.size
    have hs5 := hon5H.out.size
    have hXT : X.T ∈ X.blocks := by simp [Tb.blocks]
    have hZX : ∀ x ∈ Z.blocks, x ∈ X.blocks ∨ w.heap.size ≤ x := fun x hx => (hblk2 x hx).elim (fun h1 => Or.inl (hSH.out.blk x h1)) (fun h1 => Or.inr (by omega))
    have hGX : ∀ x ∈ G.blocks, x ∈ X.blocks ∨ w.heap.size ≤ x := fun x hx => (hblk5H.out x hx).elim (hZX x) (fun h1 => Or.inr (by omega))
    refine ⟨F, true, rfl, hF.ok, ?_, ⟨hF.same.1.trans hGT, hF.same.2.1.trans (hI.same.2.1.trans (hsd2.trans hSH.out.T.2.1))⟩, fun x hx => (hF.blk x hx).elim (hGX x) (fun h1 => Or.inr (by omega)), Y, m, hSH.out, hmH.out, Or.inr ⟨rfl, hno.out, ?_⟩⟩
    · refine ((hoH.out.trans hon2 (fun x hx => ?_)).trans hon5H.out hZX).trans hF.only (fun x hx => ?_)
      · simp at hx; rw [hx]; exact Or.inl hXT
      · simp at hx; rw [hx, hGT]; exact Or.inl hXT
    · refine ⟨⟨w2.heap.size, by rw [hF.ents, ← hents2]; exact hI.ents⟩, by rw [hF.same.2.2.1, hI.count, hct2], by rw [hF.same.2.2.2, hI.old, hold2], ?_, ?_⟩
      rotate_left
      · refine ⟨(w2.heap.size, key, v), rfl, ?_⟩
        have hgl : G.new.length = Y.new.length := by rw [hI.new, hnew2]
        rcases hI.ex with ⟨z1, z2, z3⟩ | ⟨z1, z2, z3⟩
        · left
          have hyn : Y.new ≠ [] := by rw [← hnew2]; exact z1
          have hop : openL Y = Y.old := by unfold openL; rw [if_neg (fun hh => hyn hh.1)]
          refine ⟨hyn, ?_, by rw [hF.same.2.2.2, z3, holdL2, hop]⟩
          rcases hhowH.out with ⟨rfl, _⟩ | ⟨h1, _⟩
          · rw [z2, hsd2, hnew2]
          · rw [h1] at hgl; exact absurd (List.length_eq_zero_iff.1 hgl.symm) hyn
        · right
          have hyn : Y.new = [] := by rw [← hnew2]; exact z1
          refine ⟨hyn, by rw [hF.same.2.2.2, z2, hsd2, holdL2], ?_⟩
          rcases hhowH.out with ⟨rfl, _⟩ | ⟨_, _, _, _, h5⟩
          · exact Or.inl z3
          · exact Or.inr (by rw [h5, hI.old, hold2])
      have hgl : G.new.length = Y.new.length := by rw [hI.new, hnew2]
      have hol : G.old.length = openLen Y := by rw [hI.old, hold2]
      have hcl : G.count = Y.count + 1 := by rw [hI.count, hct2]
      rcases hhowH.out with ⟨rfl, h2⟩ | ⟨h1, h2, h3, h4, _⟩
      · by_cases hy : Y.new = []
        · have hg : F.new = [] := List.length_eq_zero_iff.1 (by rw [hgl, hy]; rfl)
          refine Or.inr (Or.inl ⟨hy, hg, fun h5 => ?_⟩)
          rw [← hol]
          exact h2 hg (by omega)
        · exact Or.inl ⟨hy, hgl, by rw [hI.same.2.2.1, hmv2]⟩
      · have hy : Y.new = [] := List.length_eq_zero_iff.1 (by rw [← hgl, h1]; rfl)
        exact Or.inr (Or.inr ⟨hy, by omega, by rw [h3, hol], h4⟩)

end Go.Proofs.YtdldgiicblmknaaDoor
