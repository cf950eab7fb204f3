/-
  The walk of the law's without; what is held between two turns: a table, what stays, what was told. A table's shape.
-/
import Derived.Test.YtdldgiicblmknaaDoorSN
namespace Go.Proofs.YtdldgiicblmknaaDoor
open Go.RowKit

theorem rowT_one (w : World) (x : ByteArray) : RowT (w.alloc (.cells #[.string x] 9)) w.heap.size (.slice (some ⟨w.heap.size, 0, none⟩) 1 1) [x] :=
  ⟨rfl, Or.inr ⟨w.heap.size, 1, #[.string x], rfl, Nat.le_refl _, heap_alloc_new w _, by simp, by unfold maxLen; omega, rfl, rfl⟩⟩
/-- Texts without one. -/
def outB (L : List ByteArray) (s : ByteArray) : List ByteArray := L.filter fun x => !(x.toList == s.toList)
theorem outB_mem {L : List ByteArray} {s k : ByteArray} : k ∈ outB L s ↔ k ∈ L ∧ s ≠ k := by
  unfold outB
  rw [List.mem_filter]
  refine and_congr_right fun _ => ?_
  cases he : (k.toList == s.toList) with
  | true => simp [bytes_eq he]
  | false =>
    simp only [Bool.not_false, true_iff]
    intro hh; subst hh; simp at he
theorem outB_len (L : List ByteArray) (s : ByteArray) : (outB L s).length ≤ L.length := List.length_filter_le _ _

set_option maxHeartbeats 2000000 in
theorem without_at {w : World} {base : Nat} {v : Value} {L : List ByteArray} (h : RowT w base v L) (s : ByteArray) (hl : L.length ≤ 1000000) :
    Calls Tryd.prog 22 #[v, .string s] w fun r w' => ∃ v', r = .returned v' ∧ RowT w' w.heap.size v' (outB L s) ∧ Below w.heap.size w w' := by
  have hH := Lib.hid h
  obtain ⟨A, cp, rfl⟩ := h.len
  clear h
  generalize hn : L.length = n at *
  have hnH := Lib.hid hn
  go_enter Tryd.func22, Tryd.ntmps22
  go_wp2_with fail
  go_loopw [5, 10] (fun s5 s10 wr => ∃ (i : Nat) (v5 : Value), i ≤ n ∧ s10 = .int .i64 i ∧ v5 = s5 ∧ Hid (RowT wr w.heap.size v5 (outB (L.take i) s)) ∧ Hid (Below w.heap.size w wr)) (fun _ s10 _ => n - (intOf s10).toNat)
  case atStart => exact ⟨0, _, by omega, rfl, rfl, Lib.hid (rowT_nil _ _), Lib.hid (Below.refl _ _)⟩
  case round =>
    obtain ⟨i, v5, hi, rfl, rfl, how, hb⟩ := hrel
    by_cases hil : i < n
    · obtain ⟨e, he⟩ : ∃ e, L[i]? = some e := ⟨_, List.getElem?_eq_getElem (by omega)⟩
      obtain ⟨g1, c1, heq, _, hg1, hc1⟩ := (hH.out.stay hb.out).cell he
      have htk : L.take (i + 1) = L.take i ++ [e] := by rw [List.take_add_one, he]; rfl
      have hlt := outB_len (L.take i) s
      rw [List.length_take] at hlt
      cases heq
      cases heb : (e.toList == s.toList) with
      | true =>
        have ho : outB (L.take (i + 1)) s = outB (L.take i) s := by rw [htk]; unfold outB; rw [List.filter_append]; simp [heb]
        have hoH := Lib.hid ho
        clear ho he htk
        go_wp2_with fail
        go_roundw
        case rel => exact ⟨i + 1, _, by omega, by go_num, rfl, Lib.hid (by rw [hoH.out]; exact how.out), hb⟩
        case measure => simp [intOf]; omega
      | false =>
        have ho : outB (L.take (i + 1)) s = outB (L.take i) s ++ [e] := by rw [htk]; unfold outB; rw [List.filter_append]; simp [heb]
        have hoH := Lib.hid ho
        have hbs := hb.out.size
        clear ho he htk
        go_wp2_with (at_builtin; refine wpList_append_rowT rfl (.tmp 17) (.tmp 19) rfl w.heap.size wr.heap.size v5 _ _ _ rfl rfl (how.out.stay ((Below.refl _ _).alloc (Nat.le_refl _) _)) (rowT_one wr e) (by simp; omega) (by simp; omega) ?happ)
        case happ =>
          intro v2 w2 how2 ho2 hv2
          have hb2 : Below w.heap.size w (wr.alloc (.cells #[.string e] 9)) := hb.out.alloc hb.out.size _
          have hb3 := Lib.hid (hb2.trans (ho2.below hb2.size (fun k hk => (how.out.lt k (by simpa using hk)).1)))
          rw [← hoH.out] at how2
          have how2H := Lib.hid how2
          clear how2 ho2 hv2 hb2
          go_wp2_with fail
          go_roundw
          case rel => exact ⟨i + 1, _, by omega, by go_num, rfl, how2H, hb3⟩
          case measure => simp [intOf]; omega
    · have hin : i = n := by omega
      subst hin
      have ho := how.out
      rw [← hnH.out, List.take_length] at ho
      have hoH := Lib.hid ho
      clear ho
      go_wp2_with fail
      go_ret
      exact ⟨_, rfl, hoH.out, hb.out⟩

/-- What is held between two turns. -/
structure FB (B : Nat) (w0 : World) (seed : Int) (T : Nat) (Y : Tb) (vs vt : Value) (S Td : List ByteArray) (N M : Nat) (wr : World) : Prop where
  ok : Ok B Y wr
  par : Par Y
  tab : Y.T = T ∧ Y.seed = seed
  cnt : Y.count ≤ N
  rs : RowT wr B vs S
  rt : RowT wr B vt Td
  ss : ∀ k, vs.ownBlock = some k → k ∉ Y.blocks
  st : ∀ k, vt.ownBlock = some k → k ∉ Y.blocks
  sep : ∀ k, vs.ownBlock = some k → vt.ownBlock ≠ some k
  len : Td.length ≤ M
  lenS : S.length ≤ 1000000
  below : Below B w0 wr
variable {B : Nat} {w0 : World} {seed : Int} {T : Nat} {Y : Tb} {vs vt : Value} {S Td : List ByteArray} {N M : Nat} {wr : World}
theorem FB.after (h : FB B w0 seed T Y vs vt S Td N M wr) {w' : World} (hb : Below wr.heap.size wr w') (hB : B ≤ wr.heap.size) : FB B w0 seed T Y vs vt S Td N M w' :=
  ⟨h.ok.after hb, h.par, h.tab, h.cnt, h.rs.stay hb, h.rt.stay hb, h.ss, h.st, h.sep, h.len, h.lenS, onB h.below hb hB⟩
theorem FB.app (h : FB B w0 seed T Y vs vt S Td N M wr) {w3 : World} {vt' : Value} {Q : List ByteArray} (hr : RowT w3 B vt' (Td ++ Q)) (ho : Only vt.ownBlock.toList wr w3) (hv : vt'.ownBlock = vt.ownBlock ∨ vt'.ownBlock = some wr.heap.size) (hQ : Q.length ≤ 3000000) (hB : B ≤ wr.heap.size) :
    FB B w0 seed T Y vs vt' S (Td ++ Q) N (M + 3000000) w3 := by
  have hz := h.ok.live.zero
  have hrt := h.rt.lt
  refine ⟨h.ok.on ho (fun x hx => h.st x (by simpa using hx)) (fun h0 => by have := (hrt 0 (by simpa using h0)).1; have := h.ok.live.pos; omega), h.par, h.tab, h.cnt, h.rs.only ho (fun k hk hm => h.sep k hk (by simpa using hm)), hr, h.ss, ?_, ?_, ?_, h.lenS, h.below.trans (ho.below hB (fun k hk => (hrt k (by simpa using hk)).1))⟩
  · intro k hk hm
    rcases hv with hv | hv
    · rw [hv] at hk; exact h.st k hk hm
    · rw [hv] at hk; cases hk; have := h.ok.live.here.lt hm; omega
  · intro k hk hh
    rcases hv with hv | hv
    · rw [hv] at hh; exact h.sep k hk hh
    · rw [hv] at hh; cases hh; have := (h.rs.lt _ hk).2; omega
  · rw [List.length_append]; have := h.len; omega
theorem FB.did (h : FB B w0 seed T Y vs vt S Td N M wr) {w4 : World} {G : Tb} {kd : Int} {key : ByteArray} {v : Int} (hd : Did B Y G kd key v wr w4) : FB B w0 seed T G vs vt S Td (N + 1) M w4 := by
  refine ⟨hd.ok, hd.par, ⟨hd.same.1.trans h.tab.1, hd.same.2.trans h.tab.2⟩, by have := hd.cnt; have := h.cnt; omega, h.rs.only hd.only h.ss, h.rt.only hd.only h.st, ?_, ?_, h.sep, h.len, h.lenS, h.below.trans (hd.only.below (by have := h.ok.live.le; omega) (fun x hx => h.ok.live.own x hx))⟩
  · intro k hk hm
    rcases hd.blk k hm with h1 | h1
    · exact h.ss k hk h1
    · have := (h.rs.lt k hk).2; omega
  · intro k hk hm
    rcases hd.blk k hm with h1 | h1
    · exact h.st k hk h1
    · have := (h.rt.lt k hk).2; omega
theorem FB.less (h : FB B w0 seed T Y vs vt S Td N M wr) {w5 : World} {vs' : Value} {S' : List ByteArray} (hr : RowT w5 wr.heap.size vs' S') (hb : Below wr.heap.size wr w5) (hl : S'.length ≤ S.length) (hB : B ≤ wr.heap.size) :
    FB B w0 seed T Y vs' vt S' Td N M w5 := by
  refine ⟨h.ok.after hb, h.par, h.tab, h.cnt, hr.base hB, h.rt.stay hb, ?_, h.st, ?_, h.len, by have := h.lenS; omega, onB h.below hb hB⟩
  · intro k hk hm
    have h1 := (hr.lt k hk).1
    have h2 := h.ok.live.here.lt hm
    omega
  · intro k hk hh
    have h1 := (hr.lt k hk).1
    have h2 := (h.rt.lt k hh).2
    omega

end Go.Proofs.YtdldgiicblmknaaDoor
