/-
  The walk of settle: the one key that may lie wrong goes up, then down. Premises: what lies of a timer; all but one place is right and noted.
-/
import Derived.Test.YtbaghdfalhlhcaaE
import Derived.Test.YtbaghdfalhlhcaaF
namespace Go.Proofs.Ytbaghdfalhlhcaa
open Go.RowKit

/-- settle on its way: the one key lies at the place i. -/
structure St (w0 W : World) (p m c g cap n b : Nat) (key : ByteArray) (h0 h : List Sc) (f : ByteArray → Option Nat) (i : Nat) : Prop where
  tg : Tg W p (.slice (some ⟨g, 0, none⟩) n cap) m c h f
  nt : Nt h f i
  len : h.length = n
  perm : h.Perm h0
  at_ : (el h i).1 = key
  kn : (f key ≠ none ∧ c ≤ n) ∨ c + 1 ≤ n
  lt : i < n
  box : W.cell? ⟨b, 0, none⟩ = some (.pointer (some ⟨p, 0, none⟩))
  bn : b ∉ own p (.slice (some ⟨g, 0, none⟩) n cap) (some m)
  only : Only (own p (.slice (some ⟨g, 0, none⟩) n cap) (some m)) w0 W
variable {w0 W : World} {p m c g cap n b i : Nat} {key : ByteArray} {h0 h : List Sc} {f : ByteArray → Option Nat}
theorem only_nil {O : List Nat} {a w w' : World} (h : Only O a w) (k : Only [] w w') : Only O a w' := h.trans k (fun x hx => by simp at hx)
theorem St.same {W' : World} (s : St w0 W p m c g cap n b key h0 h f i) (ho : Only [] W W') : St w0 W' p m c g cap n b key h0 h f i :=
  ⟨s.tg.keep ho (by simp), s.nt, s.len, s.perm, s.at_, s.kn, s.lt, cell_keep ho s.box, s.bn, only_nil s.only ho⟩
theorem St.hv (s : St w0 W p m c g cap n b key h0 h f i) : Hv W p g cap h := by
  have := s.tg
  rw [← s.len] at this
  exact this.hv
theorem uniq_at {L : List Sc} (hu : Uniq L) {a b : Nat} {x y : Sc} (ha : L[a]? = some x) (hb : L[b]? = some y) (he : x.1 = y.1) : a = b := by
  obtain ⟨ha', rfl⟩ := List.getElem?_eq_some_iff.1 ha
  obtain ⟨hb', rfl⟩ := List.getElem?_eq_some_iff.1 hb
  rcases Nat.lt_trichotomy a b with h1 | h1 | h1
  · exact absurd he (List.pairwise_iff_getElem.1 hu a b ha' hb' h1)
  · exact h1
  · exact absurd he.symm (List.pairwise_iff_getElem.1 hu b a hb' ha' h1)
theorem St.trade (s : St w0 W p m c g cap n b key h0 h f i) {j : Nat} (hj : j < n) (hne : i ≠ j) :
    Calls Try.prog 32 #[.pointer (some ⟨p, 0, none⟩), .int .i64 (i : Int), .int .i64 (j : Int)] W fun e w' => e = .returned (.int .i64 (j : Int)) ∧ ∃ f', St w0 w' p m c g cap n b key h0 (swL h i j) f' j := by
  obtain ⟨tg, nt, len, perm, at_, kn, lt, box, bn, only⟩ := s
  subst len
  have hyj := el_get hj
  have hyi := el_get lt
  have hfj : f (el h j).1 = some j := nt j _ hyj hne.symm
  refine (trade_any tg lt hj hne (by rw [hfj]; simp)).mono fun e w' ⟨he, ht, ho⟩ => ⟨he, _, ⟨ht, fun k x hk hkj => ?_, swL_len h i j, (swL_perm lt hj).trans perm, ?_, ?_, hj, ?_, bn, only.trans ho (fun x hx => Or.inl hx)⟩⟩
  · rw [swL_get lt hj, if_neg hkj] at hk
    by_cases hki : k = i
    · rw [if_pos hki] at hk
      cases hk
      rw [note_at, hki]
    · rw [if_neg hki] at hk
      rw [note_other f i (fun e => hkj (uniq_at tg.uq hk hyj e))]
      exact nt k x hk hki
  · have : el (swL h i j) j = el h i := by rw [el_swL lt hj, sw_r]
    rw [this]
    exact at_
  · refine kn.imp (fun ⟨a, b⟩ => ⟨?_, b⟩) id
    unfold note
    split
    · simp
    · exact a
  · rw [World.cell?_of_block (w := W) (ho.2 b (cell_lt box) bn)]
    exact box
/-- What child tells. -/
theorem child_spec (h : List Sc) (i : Nat) : (childF h i = 0 ∧ h.length ≤ 2 * i + 1) ∨ (0 < childF h i ∧ childF h i < h.length ∧ (childF h i - 1) / 2 = i ∧ ∀ d, 0 < d → d < h.length → (d - 1) / 2 = i → leS (el h (childF h i)) (el h d)) := by
  unfold childF
  by_cases h1 : h.length ≤ 2 * i + 1
  · rw [if_pos h1]
    exact Or.inl ⟨rfl, h1⟩
  · rw [if_neg h1]
    refine Or.inr ?_
    by_cases h2 : 2 * i + 2 < h.length
    · rw [if_pos h2]
      cases hl : lessS (el h (2 * i + 2)) (el h (2 * i + 1)) with
      | true =>
        rw [if_pos rfl]
        refine ⟨by omega, by omega, by omega, fun d d0 dn dp => ?_⟩
        have : d = 2 * i + 1 ∨ d = 2 * i + 2 := by omega
        rcases this with rfl | rfl
        · exact leS_of_less hl
        · exact leS_refl _
      | false =>
        rw [if_neg Bool.false_ne_true]
        refine ⟨by omega, by omega, by omega, fun d d0 dn dp => ?_⟩
        have : d = 2 * i + 1 ∨ d = 2 * i + 2 := by omega
        rcases this with rfl | rfl
        · exact leS_refl _
        · exact hl
    · rw [if_neg h2]
      refine ⟨by omega, by omega, by omega, fun d d0 dn dp => ?_⟩
      have : d = 2 * i + 1 := by omega
      rw [this]
      exact leS_refl _
theorem parentN_any (i : Nat) (hi : 0 < i ∧ i ≤ 4000000) (w : World) : Calls Try.prog 31 #[.int .i64 (i : Int)] w fun e w' => e = .returned (.int .i64 (((i - 1) / 2 : Nat) : Int)) ∧ w = w' := by
  have := parent_any (i : Int) (by omega) w
  rw [show ((i : Int) - 1) / 2 = (((i - 1) / 2 : Nat) : Int) by omega] at this
  exact this
theorem Up.mid {f : Nat → Sc} {n i : Nat} (h : Up f n i) : Mid f n i := ⟨fun j j0 jn je _ => h.1 j j0 jn je, h.2⟩
/-- The key at the place of settle's end is noted. -/
theorem St.end_ (s : St w0 W p m c g cap n b key h0 h f i) {w' : World} {c' : Nat} (hc : c' = n) (hm : MapAt w' m c' (note f key i)) (ho : Only [m] W w') :
    Tg w' p (.slice (some ⟨g, 0, none⟩) n cap) m n h (note f key i) ∧ NtAll h (note f key i) ∧ Only (own p (.slice (some ⟨g, 0, none⟩) n cap) (some m)) w0 w' := by
  obtain ⟨tg, nt, len, perm, at_, kn, lt, box, bn, only⟩ := s
  subst len hc
  have hyi := el_get lt
  subst at_
  refine ⟨tg.noted (List.mem_of_getElem? hyi) hm (by have := tg.few; omega) ho, fun k x hk => ?_, only.trans ho (fun x hx => Or.inl (by rw [List.mem_singleton.1 hx]; exact own_m _ _ _))⟩
  by_cases hki : k = i
  · subst hki
    rw [hyi] at hk
    cases hk
    exact note_at _ _ _
  · rw [note_other f i (fun e => hki (uniq_at tg.uq hk hyi e))]
    exact nt k x hk hki
theorem St.child (s : St w0 W p m c g cap n b key h0 h f i) : Calls Try.prog 33 #[.pointer (some ⟨p, 0, none⟩), .int .i64 (i : Int), .func (.func 30) #[] #[.pointer (some ⟨b, 0, none⟩)]] W fun e w' => e = .returned (.int .i64 (childF h i : Nat)) ∧ Only [] W w' :=
  child_any s.hv s.box (by rw [s.len]; exact s.lt)
theorem St.ahead (s : St w0 W p m c g cap n b key h0 h f i) {a d : Nat} (ha : a < n) (hd : d < n) : Calls Try.prog 30 #[.int .i64 (a : Int), .int .i64 (d : Int), .pointer (some ⟨b, 0, none⟩)] W fun e w' => e = .returned (.bool (lessS (el h a) (el h d))) ∧ Only [] W w' :=
  ahead_any s.hv s.box (by rw [s.len]; exact ha) (by rw [s.len]; exact hd)
/-- What settle's last operations read. -/
theorem St.reads (s : St w0 W p m c g cap n b key h0 h f i) : W.cell? ⟨p, 0, none⟩ = some (.slice (some ⟨g, 0, none⟩) n cap) ∧ W.cell? ⟨p, 1, none⟩ = some (.map (some m)) ∧ W.cell? ⟨g, i * 2, none⟩ = some (.string key) ∧ W.cell? ⟨b, 0, none⟩ = some (.pointer (some ⟨p, 0, none⟩)) := by
  refine ⟨Lib.cell_of_heap s.tg.head 0, Lib.cell_of_heap s.tg.head 1, ?_, s.box⟩
  rw [← s.at_]
  exact (s.hv.cs i _ (el_get (by rw [s.len]; exact s.lt))).1
theorem St.put (s : St w0 W p m c g cap n b key h0 h f i) : ∃ W6, (Instr.mapUpdate 51 (.map (some m)) (.string key) (.int .i64 (i : Int))).run Try.prog W = .ok () W6 ∧ MapAt W6 m n (note f key i) ∧ Only [m] W W6 := by
  have h1 := s.tg.few
  have h2 := s.lt
  have h3 := s.len
  have h4 := s.tg.cfew
  exact s.tg.map.put key (by rw [← s.at_]; exact s.tg.keys _ (List.mem_of_getElem? (el_get (by rw [s.len]; exact s.lt)))) i (by omega) (by omega) s.kn
set_option maxHeartbeats 32000000 in
theorem settle_any {w : World} (hi : i < n) (hl : h.length = n) (k : Tg w p (.slice (some ⟨g, 0, none⟩) n cap) m c h f) (hm : Mid (el h) n i) (hnt : Nt h f i) (hkn : (f (el h i).1 ≠ none ∧ c ≤ n) ∨ c + 1 ≤ n) :
    Calls Try.prog 24 #[.pointer (some ⟨p, 0, none⟩), .int .i64 (i : Int)] w fun e w' => e = .returned (.tuple #[]) ∧ ∃ h' f', Tg w' p (.slice (some ⟨g, 0, none⟩) n cap) m n h' f' ∧ NtAll h' f' ∧ Hp (el h') n ∧ h'.Perm h ∧ Only (own p (.slice (some ⟨g, 0, none⟩) n cap) (some m)) w w' := by
  have hO1 : Only [] w (w.alloc (.cells #[.pointer (some ⟨p, 0, none⟩)] 25)) := (Only.refl [] w).alloc _
  have hs : Hid (St w (w.alloc (.cells #[.pointer (some ⟨p, 0, none⟩)] 25)) p m c g cap n w.heap.size (el h i).1 h h f i ∧ Mid (el h) n i) := Lib.hid
    ⟨⟨k.keep hO1 (by simp), hnt, hl, List.Perm.refl _, rfl, hkn, hi, Lib.cell_of_heap (heap_alloc_new w _) 0, fun hb => by have := k.lt hb; omega, hO1.mono (by simp)⟩, hm⟩
  have hfew : Hid (n ≤ 1000000) := Lib.hid (by have := k.few; omega)
  generalize (el h i).1 = key at *
  clear k hm hnt hkn hO1 hi hl
  go_enter Try.func24, Try.ntmps24
  go_upto_region 2 with (fail)
  generalize hW1 : w.alloc (.cells #[.pointer (some ⟨p, 0, none⟩)] 25) = W1 at *
  generalize w.heap.size = b at *
  clear hW1
  go_loopw [1] (fun s1 wr => ∃ (i' : Nat) (h' : List Sc) (f' : ByteArray → Option Nat), s1 = .int .i64 i' ∧ Hid (St w wr p m c g cap n b key h h' f' i' ∧ Mid (el h') n i')) (fun s1 _ => (intOf s1).toNat)
  case atStart => exact ⟨i, h, f, rfl, hs⟩
  case round =>
    obtain ⟨i', h', f', rfl, hst⟩ := hrel
    have hfew1 := hfew.out
    have hsi := hst.out.1
    have hmid := Lib.hid hst.out.2
    have hi'n := hsi.lt
    have hbox := hsi.box
    have hch : Hid (∀ W, Only [] wr W → Calls Try.prog 33 #[.pointer (some ⟨p, 0, none⟩), .int .i64 (i' : Int), .func (.func 30) #[] #[.pointer (some ⟨b, 0, none⟩)]] W fun e w' => e = .returned (.int .i64 (childF h' i' : Nat)) ∧ Only [] W w') := Lib.hid (fun W ho => (hsi.same ho).child)
    by_cases h0 : i' = 0
    · have hz : decide ((0 : Int) < (i' : Int)) = false := decide_eq_false (by omega)
      have hz' : (0 < i') = False := by simp [h0]
      have hdn := Lib.hid (hmid.out.down (Or.inl h0))
      clear hi'n hsi hmid h0 hfew1
      go_wp2_with (first
        | (go_at_call 33; ((with_reducible refine (hch.out _ (Only.refl _ _)).mono ?_); rintro e w4 ⟨rfl, ho4⟩; have hs4 := Lib.hid (hst.out.1.same ho4); clear ho4)))
      clear hch hst hbox
      go_loopw [1, 5] (fun s1 s5 wr => ∃ (i2 : Nat) (h2 : List Sc) (f2 : ByteArray → Option Nat), s1 = .int .i64 i2 ∧ s5 = .int .i64 (childF h2 i2 : Nat) ∧ Hid (St w wr p m c g cap n b key h h2 f2 i2 ∧ Down (el h2) n i2)) (fun s1 _ _ => n - (intOf s1).toNat)
      case atStart => exact ⟨i', h', f', rfl, rfl, Lib.hid ⟨hs4.out, hdn.out⟩⟩
      case round =>
        obtain ⟨i2, h2, f2, rfl, rfl, hst2⟩ := hrel
        have hsp := child_spec h2 i2
        rw [hst2.out.1.len] at hsp
        have hbox3 := hst2.out.1.box
        have hi2n := hst2.out.1.lt
        obtain ⟨ch, hchd⟩ : ∃ ch, ch = childF h2 i2 := ⟨_, rfl⟩
        rw [← hchd] at hsp ⊢
        clear hchd
        rcases hsp with ⟨hc0, hlast⟩ | ⟨c1, c2, c3, c4⟩
        · have hzz : decide ((0 : Int) < (ch : Int)) = false := decide_eq_false (by omega)
          have hHp := Lib.hid (hst2.out.2.done (fun j _ jn je => by omega))
          have hs5 := Lib.hid hst2.out.1
          have hz3 : ¬ 0 < ch := by omega
          clear hst2 hlast hi2n
          go_wp2_with fail
          have hW5 := Lib.hid (hs5.out.same ((Only.refl [] wr).drew))
          obtain ⟨d0, d1, d2, d3⟩ := hs5.out.reads
          have hix := run_ixS g i2 n cap hs5.out.lt
          clear hs5
          go_still_tail 13, (by kernel_rfl)
          change wpList _ _ _ _ _ (World.drew wr)
          generalize World.drew wr = W5 at *
          obtain ⟨W6, hr6, hm6, ho6⟩ := hW5.out.put
          have hend := Lib.hid (hW5.out.end_ rfl hm6 ho6)
          clear hm6 ho6
          go_wp2
          go_end0
          exact ⟨rfl, h2, _, hend.out.1, hend.out.2.1, hHp.out, hW5.out.perm, hend.out.2.2⟩
        · have hzz : decide ((0 : Int) < (ch : Int)) = true := decide_eq_true (by omega)
          have hah3 := hst2.out.1.ahead (a := ch) (d := i2) (by omega) (by omega)
          cases hl3 : lessS (el h2 ch) (el h2 i2) with
          | true =>
            rw [hl3] at hah3
            have hah3H := Lib.hid hah3
            have htr3 : Hid (∀ W, Only [] wr W → Calls Try.prog 32 #[.pointer (some ⟨p, 0, none⟩), .int .i64 (i2 : Int), .int .i64 (ch : Int)] W fun e w' => e = .returned (.int .i64 (ch : Int)) ∧ ∃ f'', St w w' p m c g cap n b key h (swL h2 i2 ch) f'' ch) :=
              Lib.hid (fun W ho => (hst2.out.1.same ho).trade (by omega) (by omega))
            have hd' : Hid (Down (el (swL h2 i2 ch)) n ch) := Lib.hid (by
              have e1 := el_swL (L := h2) (i := i2) (j := ch) (by rw [hst2.out.1.len]; omega) (by rw [hst2.out.1.len]; omega)
              rw [e1]
              exact hst2.out.2.step (by omega) (by omega) c3 c4 hl3)
            have hlt2 : Hid (i2 < ch ∧ ch < n) := Lib.hid (by omega)
            clear hah3 hl3 hst2 c2 c3 c4 hi2n
            go_wp2_with (first
              | (go_at_call 30; ((with_reducible refine (hah3H.out).mono ?_); rintro e w6 ⟨rfl, ho6⟩; have hbox6 := cell_keep ho6 hbox3; have ho6H := Lib.hid ho6; clear ho6))
              | (go_at_call 32; ((with_reducible refine (htr3.out _ ho6H.out).mono ?_); rintro e w7 ⟨rfl, f7, h7⟩; have hbox7 := h7.box; have hch7 := Lib.hid h7.child; have h7H := Lib.hid h7; clear h7))
              | (go_at_call 33; ((with_reducible refine (hch7.out).mono ?_); rintro e w8 ⟨rfl, ho8⟩; have h8H := Lib.hid (h7H.out.same ho8); clear ho8)))
            go_roundw
            case rel => exact ⟨ch, swL h2 i2 ch, f7, rfl, rfl, Lib.hid ⟨h8H.out, hd'.out⟩⟩
            case measure => have := hlt2.out; simp [intOf]; omega
          | false =>
            rw [hl3] at hah3
            have hah3H := Lib.hid hah3
            have hHp := Lib.hid (hst2.out.2.done (fun j j0 jn je => leS_trans hl3 (c4 j j0 jn je)))
            have hs50 := Lib.hid hst2.out.1
            clear hah3 hl3 hst2 c2 c3 c4 hi2n
            go_wp2_with (first
              | (go_at_call 30; ((with_reducible refine (hah3H.out).mono ?_); rintro e w6 ⟨rfl, ho6⟩; have hbox6 := cell_keep ho6 hbox3; have hs5 := Lib.hid (hs50.out.same ho6); clear ho6)))
            have hW5 := Lib.hid (hs5.out.same ((Only.refl [] w6).drew))
            obtain ⟨d0, d1, d2, d3⟩ := hs5.out.reads
            have hix := run_ixS g i2 n cap hs5.out.lt
            clear hs5
            go_still_tail 13, (by kernel_rfl)
            change wpList _ _ _ _ _ (World.drew w6)
            generalize World.drew w6 = W5 at *
            obtain ⟨W6, hr6, hm6, ho6⟩ := hW5.out.put
            have hend := Lib.hid (hW5.out.end_ rfl hm6 ho6)
            clear hm6 ho6
            go_wp2
            go_end0
            exact ⟨rfl, h2, _, hend.out.1, hend.out.2.1, hHp.out, hW5.out.perm, hend.out.2.2⟩
    · obtain ⟨q, hq⟩ : ∃ q, q = (i' - 1) / 2 := ⟨_, rfl⟩
      have hqi : q < i' := by omega
      have hi0 : 0 < i' := by omega
      have hz : decide ((0 : Int) < (i' : Int)) = true := decide_eq_true (by omega)
      have hpar := Lib.hid (fun W => parentN_any i' (by omega) W)
      rw [← hq] at hpar
      have hah := hsi.ahead (a := i') (d := q) (by omega) (by omega)
      cases hl : lessS (el h' i') (el h' q) with
      | true =>
        rw [hl] at hah
        have hahH := Lib.hid hah
        have htr : Hid (∀ W, Only [] wr W → Calls Try.prog 32 #[.pointer (some ⟨p, 0, none⟩), .int .i64 (i' : Int), .int .i64 (q : Int)] W fun e w' => e = .returned (.int .i64 (q : Int)) ∧ ∃ f'', St w w' p m c g cap n b key h (swL h' i' q) f'' q) :=
          Lib.hid (fun W ho => (hsi.same ho).trade (by omega) (by omega))
        have hmid' : Hid (Mid (el (swL h' i' q)) n q) := Lib.hid (by
          have e1 := el_swL (L := h') (i := i') (j := q) (by rw [hsi.len]; omega) (by rw [hsi.len]; omega)
          rw [e1, hq]
          rw [hq] at hl
          exact ((hmid.out.up_less (by omega) hl).step (by omega) (by omega) hl).mid)
        clear hah hl hsi hmid hst hi'n h0 hfew1 hch hq
        go_wp2_with (first
          | (go_at_call 31; ((with_reducible refine (hpar.out _).mono ?_); rintro e w2 ⟨rfl, rfl⟩))
          | (go_at_call 30; ((with_reducible refine (hahH.out).mono ?_); rintro e w2 ⟨rfl, ho2⟩; have hbox2 := cell_keep ho2 hbox; have ho2H := Lib.hid ho2; clear ho2)))
        refine wp_region_still_tail 4 (by kernel_rfl) (by kernel_rfl) ?_
        simp only [List.take_succ_cons, List.take_zero, List.drop_succ_cons, List.drop_zero]
        still_step
        still_step
        still_step
        still_call ((hpar.out _).mono (fun _ _ hx => ⟨hx.1, hx.2.symm⟩))
        try refine wpStill_nil ?_
        change wpList _ _ _ _ _ w2.drew
        have ho3 := Lib.hid (only_nil ho2H.out ((Only.refl [] w2).drew))
        generalize w2.drew = w3 at *
        go_wp2_with (first
          | (go_at_call 32; ((with_reducible refine (htr.out _ ho3.out).mono ?_); rintro e w5 ⟨rfl, f5, h5⟩; have h5H := Lib.hid h5; clear h5)))
        go_roundw
        case rel => exact ⟨q, swL h' i' q, f5, rfl, Lib.hid ⟨h5H.out, hmid'.out⟩⟩
        case measure => simp [intOf]; omega
      | false =>
        rw [hl] at hah
        have hahH := Lib.hid hah
        rw [hq] at hl
        have hdn := Lib.hid (hmid.out.down (Or.inr hl))
        clear hah hl hsi hmid hi'n h0 hfew1 hq
        go_wp2_with (first
          | (go_at_call 31; ((with_reducible refine (hpar.out _).mono ?_); rintro e w2 ⟨rfl, rfl⟩))
          | (go_at_call 30; ((with_reducible refine (hahH.out).mono ?_); rintro e w2 ⟨rfl, ho2⟩; have hbox2 := cell_keep ho2 hbox; have ho2H := Lib.hid ho2; clear ho2))
          | (go_at_call 33; ((with_reducible refine (hch.out _ ho2H.out).mono ?_); rintro e w4 ⟨rfl, ho4⟩; have hs4 := Lib.hid (hst.out.1.same (only_nil ho2H.out ho4)); clear ho4)))
        clear hch hst hbox
        go_loopw [1, 5] (fun s1 s5 wr => ∃ (i2 : Nat) (h2 : List Sc) (f2 : ByteArray → Option Nat), s1 = .int .i64 i2 ∧ s5 = .int .i64 (childF h2 i2 : Nat) ∧ Hid (St w wr p m c g cap n b key h h2 f2 i2 ∧ Down (el h2) n i2)) (fun s1 _ _ => n - (intOf s1).toNat)
        case atStart => exact ⟨i', h', f', rfl, rfl, Lib.hid ⟨hs4.out, hdn.out⟩⟩
        case round =>
          obtain ⟨i2, h2, f2, rfl, rfl, hst2⟩ := hrel
          have hsp := child_spec h2 i2
          rw [hst2.out.1.len] at hsp
          have hbox3 := hst2.out.1.box
          have hi2n := hst2.out.1.lt
          obtain ⟨ch, hchd⟩ : ∃ ch, ch = childF h2 i2 := ⟨_, rfl⟩
          rw [← hchd] at hsp ⊢
          clear hchd
          rcases hsp with ⟨hc0, hlast⟩ | ⟨c1, c2, c3, c4⟩
          · have hzz : decide ((0 : Int) < (ch : Int)) = false := decide_eq_false (by omega)
            have hHp := Lib.hid (hst2.out.2.done (fun j _ jn je => by omega))
            have hs5 := Lib.hid hst2.out.1
            have hz3 : ¬ 0 < ch := by omega
            clear hst2 hlast hi2n
            go_wp2_with fail
            have hW5 := Lib.hid (hs5.out.same ((Only.refl [] wr).drew))
            obtain ⟨d0, d1, d2, d3⟩ := hs5.out.reads
            have hix := run_ixS g i2 n cap hs5.out.lt
            clear hs5
            go_still_tail 13, (by kernel_rfl)
            change wpList _ _ _ _ _ (World.drew wr)
            generalize World.drew wr = W5 at *
            obtain ⟨W6, hr6, hm6, ho6⟩ := hW5.out.put
            have hend := Lib.hid (hW5.out.end_ rfl hm6 ho6)
            clear hm6 ho6
            go_wp2
            go_end0
            exact ⟨rfl, h2, _, hend.out.1, hend.out.2.1, hHp.out, hW5.out.perm, hend.out.2.2⟩
          · have hzz : decide ((0 : Int) < (ch : Int)) = true := decide_eq_true (by omega)
            have hah3 := hst2.out.1.ahead (a := ch) (d := i2) (by omega) (by omega)
            cases hl3 : lessS (el h2 ch) (el h2 i2) with
            | true =>
              rw [hl3] at hah3
              have hah3H := Lib.hid hah3
              have htr3 : Hid (∀ W, Only [] wr W → Calls Try.prog 32 #[.pointer (some ⟨p, 0, none⟩), .int .i64 (i2 : Int), .int .i64 (ch : Int)] W fun e w' => e = .returned (.int .i64 (ch : Int)) ∧ ∃ f'', St w w' p m c g cap n b key h (swL h2 i2 ch) f'' ch) :=
                Lib.hid (fun W ho => (hst2.out.1.same ho).trade (by omega) (by omega))
              have hd' : Hid (Down (el (swL h2 i2 ch)) n ch) := Lib.hid (by
                have e1 := el_swL (L := h2) (i := i2) (j := ch) (by rw [hst2.out.1.len]; omega) (by rw [hst2.out.1.len]; omega)
                rw [e1]
                exact hst2.out.2.step (by omega) (by omega) c3 c4 hl3)
              have hlt2 : Hid (i2 < ch ∧ ch < n) := Lib.hid (by omega)
              clear hah3 hl3 hst2 c2 c3 c4 hi2n
              go_wp2_with (first
                | (go_at_call 30; ((with_reducible refine (hah3H.out).mono ?_); rintro e w6 ⟨rfl, ho6⟩; have hbox6 := cell_keep ho6 hbox3; have ho6H := Lib.hid ho6; clear ho6))
                | (go_at_call 32; ((with_reducible refine (htr3.out _ ho6H.out).mono ?_); rintro e w7 ⟨rfl, f7, h7⟩; have hbox7 := h7.box; have hch7 := Lib.hid h7.child; have h7H := Lib.hid h7; clear h7))
                | (go_at_call 33; ((with_reducible refine (hch7.out).mono ?_); rintro e w8 ⟨rfl, ho8⟩; have h8H := Lib.hid (h7H.out.same ho8); clear ho8)))
              go_roundw
              case rel => exact ⟨ch, swL h2 i2 ch, f7, rfl, rfl, Lib.hid ⟨h8H.out, hd'.out⟩⟩
              case measure => have := hlt2.out; simp [intOf]; omega
            | false =>
              rw [hl3] at hah3
              have hah3H := Lib.hid hah3
              have hHp := Lib.hid (hst2.out.2.done (fun j j0 jn je => leS_trans hl3 (c4 j j0 jn je)))
              have hs50 := Lib.hid hst2.out.1
              clear hah3 hl3 hst2 c2 c3 c4 hi2n
              go_wp2_with (first
                | (go_at_call 30; ((with_reducible refine (hah3H.out).mono ?_); rintro e w6 ⟨rfl, ho6⟩; have hbox6 := cell_keep ho6 hbox3; have hs5 := Lib.hid (hs50.out.same ho6); clear ho6)))
              have hW5 := Lib.hid (hs5.out.same ((Only.refl [] w6).drew))
              obtain ⟨d0, d1, d2, d3⟩ := hs5.out.reads
              have hix := run_ixS g i2 n cap hs5.out.lt
              clear hs5
              go_still_tail 13, (by kernel_rfl)
              change wpList _ _ _ _ _ (World.drew w6)
              generalize World.drew w6 = W5 at *
              obtain ⟨W6, hr6, hm6, ho6⟩ := hW5.out.put
              have hend := Lib.hid (hW5.out.end_ rfl hm6 ho6)
              clear hm6 ho6
              go_wp2
              go_end0
              exact ⟨rfl, h2, _, hend.out.1, hend.out.2.1, hHp.out, hW5.out.perm, hend.out.2.2⟩
end Go.Proofs.Ytbaghdfalhlhcaa
