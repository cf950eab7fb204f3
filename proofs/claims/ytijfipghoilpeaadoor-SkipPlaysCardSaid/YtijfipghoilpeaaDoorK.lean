/-
  The walk of Put. Premises: a list as it lies, in order; fewer pairs than a million; the tables as they lie.
-/
import Derived.Test.YtijfipghoilpeaaDoorJ
import Derived.Deep.RegionHeld3
namespace Go.Proofs.YtijfipghoilpeaaDoor
open Go.RowKit

theorem put_nil (x : Sc) (w : World) : Calls Tryd.prog 12 #[.pointer none, scV x] w fun e w' => e = .returned (.bool false) ∧ Only [] w w' := by
  obtain ⟨xa, xs⟩ := x
  unfold scV
  go_enter Tryd.func12, Tryd.ntmps12
  go_wp2
  go_ret
  exact ⟨rfl, (Only.refl [] w).alloc _⟩
theorem join_fresh {W : World} {g D : Nat} {sd c : Int} {M : List Nd} {k : Nat} (hl : Lst W D sd c M) (hp : PathAt W g D M k) (hk : k ≤ M.length) (hlen : M.length ≤ 1000000) (hg : ∀ b ∈ blks D M, b ≠ g) (hgl : g < W.heap.size) (xa : ByteArray) (xs : Int) (h : Nat) (h1 : 1 ≤ h) (h2 : h ≤ 16) :
    Calls Tryd.prog 28 #[.pointer (some ⟨g, 0, none⟩), .pointer (some ⟨W.heap.size + 1, 0, none⟩)] ((W.alloc (.cells (linkC h) 52)).alloc (.cells #[.string xa, .int .i64 xs, .slice (some ⟨W.heap.size, 0, none⟩) h h] 67)).drew fun e w' => e = .returned (.tuple #[]) ∧
      Jn ((W.alloc (.cells (linkC h) 52)).alloc (.cells #[.string xa, .int .i64 xs, .slice (some ⟨W.heap.size, 0, none⟩) h h] 67)).drew w' g D sd c M k ⟨W.heap.size + 1, W.heap.size, (xa, xs), h⟩ 16 := by
  have ho : Only [] W ((W.alloc (.cells (linkC h) 52)).alloc (.cells #[.string xa, .int .i64 xs, .slice (some ⟨W.heap.size, 0, none⟩) h h] 67)).drew := (((Only.refl [] W).alloc _).alloc _).drew
  have hz : (W.alloc (.cells (linkC h) 52)).heap.size = W.heap.size + 1 := by simp
  have e1 := heap_alloc_new (W.alloc (.cells (linkC h) 52)) (.cells #[.string xa, .int .i64 xs, .slice (some ⟨W.heap.size, 0, none⟩) h h] 67)
  rw [hz] at e1
  have e2 := heap_alloc_new W (.cells (linkC h) 52)
  have e3 : ((W.alloc (.cells (linkC h) 52)).alloc (.cells #[.string xa, .int .i64 xs, .slice (some ⟨W.heap.size, 0, none⟩) h h] 67)).heap[W.heap.size]? = some (.cells (linkC h) 52 (0, 0)) := by
    rw [Below.heap_alloc _ _ _ (by rw [hz]; omega)]
    exact e2
  refine join_any (n := ⟨W.heap.size + 1, W.heap.size, (xa, xs), h⟩) hk hlen (jn_start (hl.none' ho) (hp.keep ho List.not_mem_nil) e1 ⟨_, e3, linkC_size h⟩ ⟨h1, h2⟩ (fun b hb => ?_) (by simp) (fun hm => hg g hm rfl) (by simp; omega) (by simp; omega))
  have := hl.base.lt hb
  exact ⟨by simp; omega, by simp; omega⟩
theorem jn_keep {W W5 : World} {g D : Nat} {sd c : Int} {M : List Nd} {k B h : Nat} {xa : ByteArray} {xs : Int} {u v : Value} (hJ : Jn ((W.alloc (.cells (linkC h) 52)).alloc (.cells #[.string xa, .int .i64 xs, .slice (some ⟨W.heap.size, 0, none⟩) h h] 67)).drew W5 g D sd c M k ⟨W.heap.size + 1, W.heap.size, (xa, xs), h⟩ 16)
    (hB : B < W.heap.size) (hb : ∀ b ∈ blks D M, b ≠ B) (c0 : W.cell? ⟨B, 0, none⟩ = some u) (c1 : W.cell? ⟨B, 1, none⟩ = some v) : W5.cell? ⟨B, 0, none⟩ = some u ∧ W5.cell? ⟨B, 1, none⟩ = some v := by
  have hn : B ∉ wrs D (ins M k ⟨W.heap.size + 1, W.heap.size, (xa, xs), h⟩) := fun hm => by
    rcases blks_ins.1 (wrs_blks hm) with e | e | e
    · simp at e; omega
    · simp at e; omega
    · exact hb B e rfl
  have hk := hJ.only.2 B (by show B < ((W.alloc _).alloc _).heap.size; simp; omega) hn
  exact ⟨(World.cell?_of_block (a := ⟨B, 0, none⟩) hk).trans (cell_past (cell_past c0 _) _), (World.cell?_of_block (a := ⟨B, 1, none⟩) hk).trans (cell_past (cell_past c1 _) _)⟩
set_option maxHeartbeats 4000000 in
theorem put_any {w : World} {D : Nat} {ns : List Nd} (hs : Sk w D ns) (hfew : ns.length < 1000000) (hT : Tabs w) (x : Sc) (hx : x.1.size ≤ maxLen) :
    Calls Tryd.prog 12 #[.pointer (some ⟨D, 0, none⟩), scV x] w fun e w' => e = .returned (.bool (!decide (x ∈ prs ns))) ∧ Done w D ns (putS (prs ns) x) w' := by
  obtain ⟨b1, b2, b3⟩ := boxed1 w x.1 x.2
  have hf := Lib.hid (find_any (hs.is_.keep b1) hs.ord hs.few x)
  have hth := there_cases hs.is_ hs.ord x
  obtain ⟨sd, hu, hl⟩ := hs.at_
  have hr := Lib.hid hs.ord
  have hB := heap_alloc_new w (.cells #[.string x.1, .int .i64 x.2] 30)
  rcases hth with ⟨e1, e2⟩ | ⟨n, e1, _, _, e2⟩
  · have hk := Lib.hid (ahd_len ns x)
    have hlt : Hid (∀ b ∈ blks D ns, b < w.heap.size) := Lib.hid (fun b hb => hs.lt hb)
    rw [decide_eq_false e1]
    rw [e2] at hf
    have b1H := Lib.hid b1
    have hlH := Lib.hid hl
    have hh := Lib.hid (fun (W : World) (hO : Only [] w W) => height_any D sd x.1 hx hu W (hT.keep hO (by simp) (by simp)) (cell_keep hO hl.base.head_cells.1))
    have hcn := Lib.hid (fun (W : World) (hO : Only [] w W) => (hl.none' hO).base.head_cells)
    have huH := Lib.hid hu
    have e1H := Lib.hid e1
    have hfH := Lib.hid hfew
    clear hs hfew hT hx hl e1 e2 hu b1
    obtain ⟨xa, xs⟩ := x
    unfold scV at *
    simp only at *
    go_enter Tryd.func12, Tryd.ntmps12
    go_wp2_with (first
      | (go_at_call 26; ((with_reducible refine (hf.out).mono ?_); rintro e W2 ⟨C, D', rfl, hP, hO2, hD⟩; have hPH := Lib.hid hP; have hO2H := Lib.hid hO2; have hDH := Lib.hid (hD (by simp)); clear hP hO2 hD))
      | (refine wpList_store_path (o := ⟨none, _, _, _, _, _⟩) (by rfl) (.tmp 5) (.tmp 13) (by rfl) W2.heap.size (by rfl) _ C (by rfl) (heap_alloc_new W2 _) (by rfl) hPH.out.size hPH.out.one ?_; intro W3 h3 hO3; have h3H := Lib.hid h3; have hO3H := Lib.hid (Only.none_of_new ((Only.refl [] W2).alloc _) hO3 (Nat.le_refl _)); clear h3 hO3))
    have hW3 := b1H.out.trans (hO2H.out.trans hO3H.out (by simp)) (by simp)
    have hg2 : Hid (w.heap.size ≤ W2.heap.size) := Lib.hid (b1H.out.trans hO2H.out (by simp)).size
    have hg3 : Hid (W2.heap.size < W3.heap.size) := Lib.hid (some_lt h3H.out)
    have hPA : Hid (PathAt W3 W2.heap.size D ns (ahd (prs ns) (xa, xs))) := Lib.hid (hDH.out ▸ ⟨⟨C, h3H.out, hPH.out⟩⟩)
    have c0 := cell_keep (hO2H.out.trans hO3H.out (by simp)) b2
    have c1 := cell_keep (hO2H.out.trans hO3H.out (by simp)) b3
    have hW3H := Lib.hid hW3
    have hhd := Lib.hid (hh.out W3.drew hW3.drew)
    have hh3 := Lib.hid (hh.out W3 hW3)
    have hjn := Lib.hid (fun h h1 h2 => join_fresh (hlH.out.none' hW3) hPA.out hk.out (by have := hfH.out; omega) (fun b hb e => by have := hlt.out b hb; have := hg2.out; omega) hg3.out xa xs h h1 h2)
    have hBl : Hid (w.heap.size < W3.heap.size) := Lib.hid (by have := hg2.out; have := hg3.out; omega)
    have hBb : Hid (∀ b ∈ blks D ns, b ≠ w.heap.size) := Lib.hid (fun b hb => by have := hlt.out b hb; omega)
    clear hW3 hh hf hO2H hO3H hPH h3H hDH b1H b2 b3 hB
    generalize W2.heap.size = g at *
    generalize hBe : w.heap.size = B at *
    go_region_held3 (fun w' => w'.cell? ⟨B, 0, none⟩ = some (.string xa) ∧ w'.cell? ⟨B, 1, none⟩ = some (.int .i64 xs))
      (first | exact ⟨c0, c1⟩ | exact ⟨cell_past c0 _, cell_past c1 _⟩ | exact ⟨cell_past (cell_past c0 _) _, cell_past (cell_past c1 _) _⟩ | exact ⟨y0, y1⟩ | assumption)
      (first
      | (go_at_call 29; (with_reducible refine (hhd.out).mono ?_); rintro e w' ⟨⟨h, rfl, h1, h2⟩, rfl⟩; have hmk := run_links h h2; have h1H := Lib.hid h1; have h2H := Lib.hid h2; clear h1 h2)
      | (go_at_call 29; (with_reducible refine (hh3.out).mono ?_); rintro e w' ⟨⟨h, rfl, h1, h2⟩, rfl⟩; have hmk := run_links h h2; have h1H := Lib.hid h1; have h2H := Lib.hid h2; clear h1 h2)
      | (go_at_call 28; (with_reducible refine (hjn.out h h1H.out h2H.out).mono ?_); rintro e W5 ⟨rfl, hJ⟩; have hJH := Lib.hid hJ; obtain ⟨y0, y1⟩ : W5.cell? ⟨B, 0, none⟩ = some (.string xa) ∧ W5.cell? ⟨B, 1, none⟩ = some (.int .i64 xs) := jn_keep hJ hBl.out hBb.out c0 c1; clear hJ))
    obtain ⟨_, d1, d2⟩ := (jn_end hJH.out).base.head_cells
    have hfw := hfH.out
    have hdone := Lib.hid (put_done (w := w) (n := ⟨W3.heap.size + 1, W3.heap.size, (xa, xs), h⟩) huH.out (hW3H.out.trans ((((Only.refl [] W3).alloc _).alloc _).drew) (by simp)) (by have := hBl.out; exact ⟨by show w.heap.size ≤ W3.heap.size + 1; omega, by show w.heap.size ≤ W3.heap.size; omega⟩) hr.out e1H.out hfH.out hJH.out ((ns.length : Int) + 1) rfl)
    generalize ns.length = N at *
    go_wp2_with fail
    go_ret
    exact ⟨ret_bool (by simp), hdone.out⟩
  · have hput : putS (prs ns) x = prs ns := by unfold putS; rw [if_pos e1]
    rw [decide_eq_true e1, hput]
    rw [e2] at hf
    have b1H := Lib.hid b1
    have hsH := Lib.hid hs
    clear hs hfew hT hx hl e1 e2 hput hu b1
    obtain ⟨xa, xs⟩ := x
    unfold scV at *
    simp only at *
    go_enter Tryd.func12, Tryd.ntmps12
    go_wp2_with (first
      | (go_at_call 26; ((with_reducible refine (hf.out).mono ?_); rintro e W2 ⟨C, D', rfl, hP, hO2, hD⟩; have hPH := Lib.hid hP; have hO2H := Lib.hid hO2; clear hP hO2 hD))
      | (refine wpList_store_path (o := ⟨none, _, _, _, _, _⟩) (by rfl) (.tmp 5) (.tmp 13) (by rfl) W2.heap.size (by rfl) _ C (by rfl) (heap_alloc_new W2 _) (by rfl) hPH.out.size hPH.out.one ?_; intro W3 h3 hO3; have hO3H := Lib.hid (Only.none_of_new ((Only.refl [] W2).alloc _) hO3 (Nat.le_refl _)); clear h3 hO3))
    go_ret
    have hO := b1H.out.trans (hO2H.out.trans hO3H.out (by simp)) (by simp)
    exact ⟨rfl, ns, hsH.out.keep hO (by simp), rfl, hO.mono (by simp), fun b hb => Or.inl hb⟩
end Go.Proofs.YtijfipghoilpeaaDoor
