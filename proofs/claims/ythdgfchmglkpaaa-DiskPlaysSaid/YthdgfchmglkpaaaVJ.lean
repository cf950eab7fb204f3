/-
  The library's stable sort of a row of files by the program's order. Premise: a row of one's own, of at most a million files.
-/
import Derived.Test.YthdgfchmglkpaaaChecked
import Derived.Test.YthdgfchmglkpaaaMath
import Derived.Test.YthdgfchmglkpaaaA
import Derived.Test.YthdgfchmglkpaaaC
import Derived.Test.YthdgfchmglkpaaaL
import Derived.Test.YthdgfchmglkpaaaU
import Derived.Test.YthdgfchmglkpaaaS
import Derived.Test.YthdgfchmglkpaaaVM
import Derived.Test.YthdgfchmglkpaaaVN
import Derived.Test.YthdgfchmglkpaaaVS
import Derived.Test.YthdgfchmglkpaaaVF
import Derived.Test.YthdgfchmglkpaaaVH
import Derived.Test.YthdgfchmglkpaaaVI
import Derived.WalkKit
import Derived.WalkSpells
import Derived.WalkLawsBesides
import Derived.Deep.QuietTactic
import Derived.BigQuiet
import Derived.Lib.Hide
import Derived.Lib.SmallJoins
import Derived.Outline
import Derived.OwnWalk
import Derived.Deep.CutBlock
import Derived.BigRegion
import Derived.StillTailTactics
import Derived.Laws.AppendOwnNone
import Derived.Maps.AppendAt
import Derived.Deep.RegionLaw
import Derived.Deep.RegionHeld3
import Derived.Lib.BufferRead
import Derived.Deep.AppendLies
namespace Go.Proofs.Ythdgfchmglkpaaa
open Go.RowKit
/-- Where a sort by blocks stands. -/
structure St (g cap a lo hi n : Nat) (L : List Fl) (G : List TF) (w : World) : Prop where
  row : SRow w g cap (G.map (·.1))
  perm : G.Perm L.zipIdx
  len : G.length = n
  half : Half a lo hi G
theorem split3 {α : Type} (G : List α) {a b : Nat} (h : a ≤ b) : G = G.take a ++ (G.drop a).take (b - a) ++ G.drop b := by
  have e : (G.drop a).drop (b - a) = G.drop b := by rw [List.drop_drop, show a + (b - a) = b by omega]
  conv => lhs; rw [← List.take_append_drop a G, ← List.take_append_drop (b - a) (G.drop a), e]
  rw [List.append_assoc]
theorem St.next {g cap a b lo hi n : Nat} {L : List Fl} {G Z : List TF} {w w' : World} (h : St g cap a lo hi n L G w) (hab : a ≤ b) (hbn : b ≤ n) (hb : b ≤ a + hi) (hda : hi ∣ a) (hdl : lo ∣ hi) (hend : b = a + hi ∨ b = n)
    (hp : Z.Perm ((G.drop a).take (b - a))) (hz : Srt Z) (hr : SRow w' g cap ((G.take a ++ Z ++ G.drop b).map (·.1))) : St g cap b lo hi n L (G.take a ++ Z ++ G.drop b) w' := by
  obtain ⟨h1, h2, h3, h4⟩ := h
  have e := split3 G hab
  have hp2 : (G.take a ++ Z ++ G.drop b).Perm G := by
    conv => rhs; rw [e]
    exact (hp.append_left _).append_right _
  rw [e] at h4
  refine ⟨hr, hp2.trans h2, by rw [hp2.length_eq, h3], half_step h4 (by simp; omega) (by simp; omega) hab hb ?_ hda hdl hp hz⟩
  rcases hend with h | h
  · exact Or.inl h
  · exact Or.inr (List.drop_of_length_le (by omega))
theorem St.tags {g cap a hi n : Nat} {L : List Fl} {G : List TF} {w : World} (h : St g cap a 1 hi n L G w) {k : Nat} : ((G.drop a).take k).Pairwise fun x y => x.2 < y.2 := by
  refine List.pairwise_iff_getElem.2 (fun i j hi' hj hij => ?_)
  have ht : ∀ t (ht : t < ((G.drop a).take k).length), (((G.drop a).take k)[t]).2 = a + t := fun t ht => by
    have hl : a + t < G.length := by simp at ht; omega
    have e : ((G.drop a).take k)[t] = G[a + t] := by simp
    rw [e]
    have := ((h.half (a + t) G[a + t] (List.getElem?_eq_getElem hl)).2 (by omega)).1
    rwa [Nat.div_one, Nat.div_one] at this
  rw [ht i hi', ht j hj]
  omega
theorem st_ins {w : World} {g cap a b n : Nat} {L : List Fl} {G : List TF} (h : St g cap a 1 20 n L G w) (few : n ≤ 1000000) (hab : a ≤ b) (hbn : b ≤ n) (hb : b ≤ a + 20) (hda : 20 ∣ a) (hend : b = a + 20 ∨ b = n) :
    Calls Try.prog 65 #[slV g n cap, .int .i64 (a : Int), .int .i64 (b : Int), fnV] w fun e w' => e = .returned (.tuple #[]) ∧ (∃ G', St g cap b 1 20 n L G' w') ∧ Only [g] w w' := by
  have e := split3 G hab
  have hr := h.row
  rw [e] at hr
  refine (insertion_any (a := a) (b := b) (n := n) hr (by have := h.len; simp; omega) (by have := h.len; simp; omega) (by rw [← e]; exact h.len) few h.tags).mono ?_
  rintro r w' ⟨rfl, ⟨Z, z1, z2, z3⟩, ho⟩
  exact ⟨rfl, ⟨_, h.next hab hbn hb hda (Nat.one_dvd _) hend z1 z2 z3⟩, ho⟩
theorem take_take_drop {α : Type} (G : List α) {a m b : Nat} (h1 : a ≤ m) (h2 : m ≤ b) : (G.drop a).take (b - a) = (G.drop a).take (m - a) ++ (G.drop m).take (b - m) := by
  have e : (G.drop a).drop (m - a) = G.drop m := by rw [List.drop_drop, show a + (m - a) = m by omega]
  rw [← e, show b - a = (m - a) + (b - m) by omega, List.take_add]
theorem st_merge {w : World} {g cap a m b bs n : Nat} {L : List Fl} {G : List TF} (h : St g cap a bs (2 * bs) n L G w) (few : n ≤ 1000000) (h0 : 0 < bs) (hm : m = a + bs) (hmb : m < b) (hbn : b ≤ n) (hb : b ≤ a + 2 * bs) (hda : 2 * bs ∣ a) (hend : b = a + 2 * bs ∨ b = n) :
    Calls Try.prog 66 #[slV g n cap, .int .i64 (a : Int), .int .i64 (m : Int), .int .i64 (b : Int), fnV] w fun e w' => e = .returned (.tuple #[]) ∧ (∃ G', St g cap b bs (2 * bs) n L G' w') ∧ Only [g] w w' := by
  have hl := h.len
  have hdb : bs ∣ a := Nat.dvd_trans (Nat.dvd_mul_left bs 2) hda
  have e := split3 G (a := a) (b := b) (by omega)
  have e2 := take_take_drop G (a := a) (m := m) (b := b) (by omega) (by omega)
  have hX : ((G.drop a).take (m - a)).length = bs := by simp; omega
  have hY : ((G.drop m).take (b - m)).length = b - m := by simp; omega
  have eX : G = G.take a ++ (G.drop a).take (m - a) ++ G.drop m := split3 G (by omega)
  have eY : G = G.take m ++ (G.drop m).take (b - m) ++ G.drop b := split3 G (by omega)
  have k1 := half_blk (a := a) (c := a) (lo := bs) (hi := 2 * bs) (by rw [← eX]; exact h.half) (Nat.le_refl _) hdb (by simp; omega) (by omega)
  have k2 := half_blk (a := a) (c := m) (lo := bs) (hi := 2 * bs) (by rw [← eY]; exact h.half) (by omega) (by rw [hm]; exact Nat.dvd_add hdb (Nat.dvd_refl _)) (by simp; omega) (by omega)
  have hr := h.row
  rw [e, e2, ← List.append_assoc (G.take a)] at hr
  refine (merge_fewer g cap n _ w a m b (G.take a) ((G.drop a).take (m - a)) ((G.drop m).take (b - m)) (G.drop b) (Nat.lt_succ_self _) (by omega) (by omega) ⟨hr, by simp; omega, by omega, by omega, ?_, few, k1.1, k2.1, aft_of k1.2 (by rw [← hm]; exact k2.2) h0⟩).mono ?_
  · rw [List.append_assoc (G.take a), ← e2, ← e]; exact hl
  · rintro r w' ⟨rfl, ⟨Z, z1, z2, z3⟩, ho⟩
    exact ⟨rfl, ⟨_, h.next (b := b) (by omega) hbn hb hda (Nat.dvd_mul_left bs 2) hend (by rw [e2]; exact z1) z2 z3⟩, ho⟩
theorem st_last {w : World} {g cap a bs n : Nat} {L : List Fl} {G : List TF} (h : St g cap a bs (2 * bs) n L G w) (han : a ≤ n) (hn : n ≤ a + bs) (hda : 2 * bs ∣ a) : St g cap n bs (2 * bs) n L G w := by
  have hl := h.len
  have hdb : bs ∣ a := Nat.dvd_trans (Nat.dvd_mul_left bs 2) hda
  have eX : G = G.take a ++ (G.drop a).take (n - a) ++ G.drop n := split3 G han
  have k1 := half_blk (a := a) (c := a) (lo := bs) (hi := 2 * bs) (by rw [← eX]; exact h.half) (Nat.le_refl _) hdb (by simp; omega) (by simp; omega)
  have := h.next (b := n) (w' := w) han (Nat.le_refl _) (by omega) hda (Nat.dvd_mul_left bs 2) (Or.inr rfl) (List.Perm.refl _) k1.1 (by rw [← eX]; exact h.row)
  rw [← eX] at this
  exact this
theorem zip_fst : ∀ (L : List Fl) (k : Nat), (L.zipIdx k).map (·.1) = L
  | [], _ => rfl
  | f :: L, k => by rw [List.zipIdx_cons, List.map_cons, zip_fst L (k + 1)]
theorem st_start {w : World} {g cap n : Nat} {L : List Fl} (h : SRow w g cap L) (hn : L.length = n) : St g cap 0 1 20 n L L.zipIdx w :=
  ⟨by rw [zip_fst]; exact h, List.Perm.refl _, by rw [List.length_zipIdx]; exact hn, half_start (inB_one L)⟩
theorem st_more {w : World} {g cap lo hi hi2 n : Nat} {L : List Fl} {G : List TF} (h : St g cap n lo hi n L G w) : St g cap 0 hi hi2 n L G w := ⟨h.row, h.perm, h.len, half_start (half_done h.half h.len)⟩
theorem st_done {w : World} {g cap bs hi n : Nat} {L : List Fl} {G : List TF} (h : St g cap 0 bs hi n L G w) (hb : InB bs G) (hn : n ≤ bs) : G.Perm L.zipIdx ∧ Srt G ∧ SRow w g cap (G.map (·.1)) := ⟨h.perm, inB_all hb h.len hn, h.row⟩
set_option maxRecDepth 100000 in
set_option maxHeartbeats 8000000 in
theorem stable_any {w : World} {g cap n : Nat} {L : List Fl} (h : SRow w g cap L) (hn : L.length = n) (few : n ≤ 1000000) :
    Calls Try.prog 62 #[slV g n cap, .int .i64 (n : Int), fnV] w fun e w' => e = .returned (.tuple #[]) ∧ (∃ G, G.Perm L.zipIdx ∧ Srt G ∧ SRow w' g cap (G.map (·.1))) ∧ Only [g] w w' := by
  have hS0 := Lib.hid (st_start h hn)
  have hfew := Lib.hid few
  clear h hn few
  go_enter Try.func62, Try.ntmps62
  go_wp2_with fail
  go_loopw [7, 8] (fun s7 s8 wr => ∃ (a b : Nat) (G : List TF), s7 = .int .i64 (a : Int) ∧ s8 = .int .i64 (b : Int) ∧ Hid (b = a + 20 ∧ a ≤ n ∧ 20 ∣ a) ∧ Hid (St g cap a 1 20 n L G wr) ∧ Hid (Only [g] w wr)) (fun s7 s8 _ => n - (intOf s7).toNat)
  case atStart => exact ⟨0, 20, _, rfl, rfl, Lib.hid ⟨rfl, Nat.zero_le _, Nat.dvd_zero 20⟩, hS0, Lib.hid (Only.refl _ _)⟩
  case round =>
    clear hS0
    obtain ⟨a, b, G, rfl, rfl, hab, hS, hO⟩ := hrel
    obtain ⟨h1, h2, h3⟩ := hab.out
    have hf := hfew.out
    by_cases hbn : b ≤ n
    · obtain ⟨b', hb'⟩ : ∃ b', b' = b + 20 := ⟨_, rfl⟩
      have s1 : IntKind.i64.wrap ((b : Int) + 20) = (b' : Int) := by rw [wrap_small (by omega)]; omega
      have d1 : decide ((b : Int) ≤ (n : Int)) = true := decide_eq_true (by omega)
      have d2 : decide (b ≤ n) = true := decide_eq_true hbn
      have hC := Lib.hid (st_ins (b := b) hS.out hf (by omega) hbn (by omega) h3 (Or.inl h1))
      have hq : Hid (b' = b + 20 ∧ b ≤ n ∧ 20 ∣ b ∧ a < b) := Lib.hid ⟨hb', hbn, by rw [h1]; exact Nat.dvd_add h3 (Nat.dvd_refl _), by omega⟩
      clear h1 h2 h3 hf hbn hb' hS
      go_wp2_with (go_at_call 65; (with_reducible refine (hC.out).mono ?_); rintro e w3 ⟨rfl, ⟨G', hS'⟩, ho3⟩)
      go_roundw
      case rel => exact ⟨b, b', G', by go_num, by go_num, Lib.hid ⟨hq.out.1, hq.out.2.1, hq.out.2.2.1⟩, Lib.hid hS', Lib.hid (hO.out.trans ho3 (fun k hk => Or.inl hk))⟩
      case measure => have := hq.out; simp [intOf]; omega
    · have d1 : decide ((b : Int) ≤ (n : Int)) = false := decide_eq_false (by omega)
      have d2 : decide (b ≤ n) = false := decide_eq_false hbn
      have hC := Lib.hid (st_ins (b := n) hS.out hf h2 (Nat.le_refl _) (by omega) h3 (Or.inr rfl))
      clear h1 h2 h3 hf hbn hS
      go_wp2_with (go_at_call 65; (with_reducible refine (hC.out).mono ?_); rintro e w3 ⟨rfl, ⟨G', hS'⟩, ho3⟩)
      have hSs := Lib.hid (st_more (hi2 := 2 * 20) hS')
      have hIs := Lib.hid (half_done hS'.half hS'.len)
      have hO3 := Lib.hid (hO.out.trans ho3 (fun k hk => Or.inl hk))
      clear hS' ho3 hO hC
      go_loopw [6, 7, 8, 9] (fun s6 s7 s8 s9 wr => ∃ (bs : Nat) (G : List TF), s6 = .int .i64 (bs : Int) ∧ Hid (20 ≤ bs ∧ bs ≤ 2000020) ∧ Hid (St g cap 0 bs (2 * bs) n L G wr) ∧ Hid (InB bs G) ∧ Hid (Only [g] w wr)) (fun s6 _ _ _ _ => n - (intOf s6).toNat)
      case atStart => exact ⟨20, _, rfl, Lib.hid ⟨by omega, by omega⟩, hSs, hIs, hO3⟩
      case round =>
        clear hSs hIs hO3
        obtain ⟨bs, G, rfl, hbs, hS, hI, hO⟩ := hrel
        obtain ⟨h1, h2⟩ := hbs.out
        have hf := hfew.out
        by_cases hbn : bs < n
        · obtain ⟨b2, hb2⟩ : ∃ b2, b2 = 2 * bs := ⟨_, rfl⟩
          have s1 : IntKind.i64.wrap (2 * (bs : Int)) = (b2 : Int) := by rw [wrap_small (by omega)]; omega
          have s2 : IntKind.i64.wrap ((bs : Int) * 2) = (b2 : Int) := by rw [wrap_small (by omega)]; omega
          have d1 : decide ((bs : Int) < (n : Int)) = true := decide_eq_true (by omega)
          have d2 : decide (bs < n) = true := decide_eq_true hbn
          have hq : Hid (b2 = 2 * bs ∧ bs < n ∧ 20 ≤ bs) := Lib.hid ⟨hb2, hbn, h1⟩
          clear h1 h2 hf hbn hb2
          go_wp2_with fail
          go_loopw [7, 8] (fun s7 s8 wx => ∃ (a b : Nat) (G : List TF), s7 = .int .i64 (a : Int) ∧ s8 = .int .i64 (b : Int) ∧ Hid (b = a + b2 ∧ a ≤ n ∧ b2 ∣ a) ∧ Hid (St g cap a bs (2 * bs) n L G wx) ∧ Hid (Only [g] w wx)) (fun s7 s8 _ => n - (intOf s7).toNat)
          case atStart => exact ⟨0, b2, _, rfl, rfl, Lib.hid ⟨by omega, Nat.zero_le _, Nat.dvd_zero b2⟩, hS, hO⟩
          case round =>
            clear hS hO
            obtain ⟨a, b, G, rfl, rfl, hab, hS, hO⟩ := hrel
            obtain ⟨h1, h2, h3⟩ := hab.out
            obtain ⟨q1, q2, q3⟩ := hq.out
            have hf := hfew.out
            obtain ⟨m, hm⟩ : ∃ m, m = a + bs := ⟨_, rfl⟩
            have s3 : IntKind.i64.wrap ((a : Int) + (bs : Int)) = (m : Int) := by rw [wrap_small (by omega)]; omega
            by_cases hbn : b ≤ n
            · obtain ⟨b', hb'⟩ : ∃ b', b' = b + b2 := ⟨_, rfl⟩
              have s4 : IntKind.i64.wrap ((b : Int) + (b2 : Int)) = (b' : Int) := by rw [wrap_small (by omega)]; omega
              have d3 : decide ((b : Int) ≤ (n : Int)) = true := decide_eq_true (by omega)
              have d4 : decide (b ≤ n) = true := decide_eq_true hbn
              have hC := Lib.hid (st_merge (m := m) (b := b) hS.out hf (by omega) hm (by omega) hbn (by omega) (by rw [← q1]; exact h3) (Or.inl (by omega)))
              have hq2 : Hid (b' = b + b2 ∧ b ≤ n ∧ b2 ∣ b ∧ a < b) := Lib.hid ⟨hb', hbn, by rw [h1]; exact Nat.dvd_add h3 (Nat.dvd_refl _), by omega⟩
              clear h1 h2 h3 q1 q2 q3 hf hbn hb' hm hS
              go_wp2_with (go_at_call 66; (with_reducible refine (hC.out).mono ?_); rintro e w4 ⟨rfl, ⟨G', hS'⟩, ho4⟩)
              go_roundw
              case rel => exact ⟨b, b', G', by go_num, by go_num, Lib.hid ⟨hq2.out.1, hq2.out.2.1, hq2.out.2.2.1⟩, Lib.hid hS', Lib.hid (hO.out.trans ho4 (fun k hk => Or.inl hk))⟩
              case measure => have := hq2.out; simp [intOf]; omega
            · have d3 : decide ((b : Int) ≤ (n : Int)) = false := decide_eq_false (by omega)
              have d4 : decide (b ≤ n) = false := decide_eq_false hbn
              by_cases hmn : m < n
              · have d5 : decide ((m : Int) < (n : Int)) = true := decide_eq_true (by omega)
                have d6 : decide (m < n) = true := decide_eq_true hmn
                have hC := Lib.hid (st_merge (m := m) (b := n) hS.out hf (by omega) hm hmn (Nat.le_refl _) (by omega) (by rw [← q1]; exact h3) (Or.inr rfl))
                clear h1 h2 h3 q1 q2 q3 hf hbn hm hS hmn
                go_wp2_with (go_at_call 66; (with_reducible refine (hC.out).mono ?_); rintro e w4 ⟨rfl, ⟨G', hS'⟩, ho4⟩)
                have hSs : Hid (St g cap 0 b2 (2 * b2) n L G' w4) := Lib.hid (by rw [hq.out.1]; exact st_more hS')
                have hIs : Hid (InB b2 G') := Lib.hid (by rw [hq.out.1]; exact half_done hS'.half hS'.len)
                have hO4 := Lib.hid (hO.out.trans ho4 (fun k hk => Or.inl hk))
                clear hS' ho4 hO hC
                go_roundw
                case rel => exact ⟨b2, G', by go_num, Lib.hid (by have := hq.out; have := hfew.out; omega), hSs, hIs, hO4⟩
                case measure => have := hq.out; simp [intOf]; omega
              · have d5 : decide ((m : Int) < (n : Int)) = false := decide_eq_false (by omega)
                have d6 : decide (m < n) = false := decide_eq_false hmn
                have hS2 := st_last hS.out h2 (by omega) (by rw [← q1]; exact h3)
                have hSs : Hid (St g cap 0 b2 (2 * b2) n L G wr) := Lib.hid (by rw [hq.out.1]; exact st_more hS2)
                have hIs : Hid (InB b2 G) := Lib.hid (by rw [hq.out.1]; exact half_done hS2.half hS2.len)
                clear h1 h2 h3 q1 q2 q3 hf hbn hm hS hmn hS2
                go_wp2_with fail
                go_roundw
                case rel => exact ⟨b2, G, by go_num, Lib.hid (by have := hq.out; have := hfew.out; omega), hSs, hIs, hO⟩
                case measure => have := hq.out; simp [intOf]; omega
        · have d1 : decide ((bs : Int) < (n : Int)) = false := decide_eq_false (by omega)
          have d2 : decide (bs < n) = false := decide_eq_false hbn
          have hz := Lib.hid (st_done hS.out hI.out (by omega))
          clear h1 h2 hf hbn
          go_wp2_with fail
          go_end0
          exact ⟨rfl, ⟨_, hz.out⟩, hO.out⟩
theorem insertion_nil (w : World) : Calls Try.prog 65 #[.slice none 0 0, .int .i64 0, .int .i64 0, fnV] w fun e w' => e = .returned (.tuple #[]) ∧ w = w' := by
  go_enter Try.func65, Try.ntmps65
  go_wp2
  refine wp_loop_rounds 1 ?_
  rw [rounds_succ]
  go_wp2
  go_end0
  exact ⟨rfl, rfl⟩
theorem stable_nil (w : World) : Calls Try.prog 62 #[.slice none 0 0, .int .i64 0, fnV] w fun e w' => e = .returned (.tuple #[]) ∧ w = w' := by
  have hC := Lib.hid (fun w => insertion_nil w)
  go_enter Try.func62, Try.ntmps62
  go_wp2
  refine wp_loop_rounds 1 ?_
  rw [rounds_succ]
  go_wp2_with (go_at_call 65; (with_reducible refine (hC.out _).mono ?_); rintro e w3 ⟨rfl, rfl⟩)
  refine wp_loop_rounds 1 ?_
  rw [rounds_succ]
  go_wp2
  go_end0
  exact ⟨rfl, rfl⟩
theorem sortStable_any {w : World} {base : Nat} {v : Value} {L : List Fl} (h : RowF w base v L) (few : L.length ≤ 1000000) :
    Calls Try.prog 50 #[v, fnV] w fun e w' => e = .returned (.tuple #[]) ∧ (∃ G, G.Perm L.zipIdx ∧ Srt G ∧ RowF w' base v (G.map (·.1))) ∧ Only v.ownBlock.toList w w' := by
  rcases h.form with ⟨rfl, rfl⟩ | ⟨g, cap, rfl, h1, h2, h3, h4⟩
  · have hS := Lib.hid (fun w => stable_nil w)
    clear few
    go_enter Try.func50, Try.ntmps50
    go_wp2_with (go_at_call 62; (with_reducible refine (hS.out _).mono ?_); rintro e w3 ⟨rfl, rfl⟩)
    go_end0
    exact ⟨rfl, ⟨[], List.Perm.refl _, List.Pairwise.nil, h⟩, Only.refl _ _⟩
  · obtain ⟨n, hn⟩ : ∃ n, n = L.length := ⟨_, rfl⟩
    have hS := Lib.hid (stable_any h4 hn.symm (by omega))
    have hR : Hid (∀ (w' : World) (G : List TF), G.Perm L.zipIdx → SRow w' g cap (G.map (·.1)) → RowF w' base (.slice (some ⟨g, 0, none⟩) n cap) (G.map (·.1))) := Lib.hid (fun w' G hp hr => by
      have e : n = (G.map (·.1)).length := by rw [List.length_map, hp.length_eq, List.length_zipIdx, hn]
      rw [e]
      exact hr.row h1 h3)
    rw [← hn]
    clear h h1 h2 h3 h4 few hn
    go_enter Try.func50, Try.ntmps50
    go_wp2_with (go_at_call 62; (with_reducible refine (hS.out).mono ?_); rintro e w3 ⟨rfl, ⟨G, g1, g2, g3⟩, ho⟩)
    go_end0
    exact ⟨rfl, ⟨G, g1, g2, hR.out _ _ g1 g3⟩, by simpa [Value.ownBlock] using ho⟩
end Go.Proofs.Ythdgfchmglkpaaa
