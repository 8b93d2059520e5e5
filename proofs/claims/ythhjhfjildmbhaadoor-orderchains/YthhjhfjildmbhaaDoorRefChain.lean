/- The contract of the document's OrderChain: the first longest chain, by the first longest one from each element on. -/
import Derived.Test.YthhjhfjildmbhaaDoorRefFirst
import Derived.Test.YthhjhfjildmbhaaDoorRefSorted
import Derived.Test.YthhjhfjildmbhaaDoorSzPlain
namespace Go.Proofs.YthhjhfjildmbhaaDoor
open Go.RowKit Go.Shelf

theorem info_ints : (Tryd.prog.info? 39).map (fun i => (i.zero, i.size, i.bytes)) = some (some (.slice none 0 0), 1, 24) := by kernel_rfl
theorem made_replicate (v : Value) (n : Nat) : (madeCells #[v] n) = (List.replicate n v).toArray := by
  unfold madeCells
  apply Array.ext
  · simp
  · intro i h1 h2; simp [Nat.mod_one]
/-- v is a slice over l, in another block than Bb -/
def OneL (Bb : Nat) (W : World) (v : Value) (l : List Nat) : Prop :=
  ∃ a c, v = .slice a l.length c ∧ (l = [] ∨ ∃ b off, a = some ⟨b, off, none⟩ ∧ b ≠ Bb ∧ b < W.heap.size ∧ ∀ i, i < l.length → W.cell? ⟨b, off + i, none⟩ = some (.int .i64 ((wd l i : Nat) : Int)))
theorem OneL.open {Bb : Nat} {W : World} {v : Value} {l : List Nat} (h : OneL Bb W v l) : ∃ a c, v = .slice a l.length c ∧ IsInts W.heap.size W a l := by
  obtain ⟨a, c, e, h⟩ := h
  refine ⟨a, c, e, ?_⟩
  rcases h with h | ⟨b, off, h1, _, h3, h4⟩
  · exact .inl h
  · exact .inr ⟨b, off, h1, h3, h4⟩
theorem OneL.below {Bb : Nat} {W W' : World} {v : Value} {l : List Nat} (h : OneL Bb W v l) (hb : Below W.heap.size W W') : OneL Bb W' v l := by
  obtain ⟨a, c, e, h⟩ := h
  refine ⟨a, c, e, ?_⟩
  rcases h with h | ⟨b, off, h1, h2, h3, h4⟩
  · exact .inl h
  · exact .inr ⟨b, off, h1, h2, Nat.lt_of_lt_of_le h3 hb.size, fun i hi => (hb.cell (p := ⟨b, off + i, none⟩) h3).trans (h4 i hi)⟩
theorem OneL.set {Bb : Nat} {W : World} {v : Value} {l : List Nat} (h : OneL Bb W v l) (i : Nat) (u : Value) : OneL Bb (W.setCell ⟨Bb, i, none⟩ u) v l := by
  obtain ⟨a, c, e, h⟩ := h
  refine ⟨a, c, e, ?_⟩
  rcases h with h | ⟨b, off, h1, h2, h3, h4⟩
  · exact .inl h
  · have hg := grownBy_setCellAt W Bb i u
    refine .inr ⟨b, off, h1, h2, Nat.lt_of_lt_of_le h3 hg.size, fun j hj => ?_⟩
    have hb := hg.block b h3 (fun e => h2 (by cases e; rfl))
    have := h4 j hj
    unfold World.cell? at *
    rw [hb]; exact this
theorem OneL.nil (Bb : Nat) (W : World) : OneL Bb W (.slice none 0 0) [] := ⟨none, 0, rfl, .inl rfl⟩
theorem ownsRow_one {Bb base k : Nat} {W : World} {v : Value} {l : List Nat} (h : W.ownsRow base 3 1 v k (ivals l)) (hB : Bb < base) : OneL Bb W v l := by
  have hlen : l.length = k := by have := h.1; simpa [ivals] using this
  rcases h.2 with ⟨h1, h2⟩ | ⟨g, cap, cur, h1, h2, h3, h4, h5, h6, h7⟩
  · exact ⟨none, 0, by rw [hlen, h2]; exact h1, .inl (List.length_eq_zero_iff.1 (by omega))⟩
  · refine ⟨some ⟨g, 0, none⟩, cap, by rw [hlen]; exact h1, .inr ⟨g, 0, rfl, by omega, (Array.getElem?_eq_some_iff.1 h3).1, fun i hi => ?_⟩⟩
    have hx : (cur.toList.take (k * 1))[i]? = (ivals l)[i]? := by rw [h7]
    rw [ivals_at hi, List.getElem?_take, if_pos (by omega)] at hx
    simp [World.cell?, h3, ← Array.getElem?_toList, hx]
theorem ownsRow_first (W : World) (i : Nat) : (W.alloc (.cells #[.int .i64 ((i : Nat) : Int)] 3)).ownsRow W.heap.size 3 1 (.slice (some ⟨W.heap.size, 0, none⟩) 1 1) 1 (ivals [i]) :=
  ⟨rfl, .inr ⟨W.heap.size, 1, #[.int .i64 ((i : Nat) : Int)], rfl, Nat.le_refl _, World.alloc_heap_new W _, Nat.le_refl _, by unfold maxLen; omega, rfl, rfl⟩⟩
/-- the row of chains: those that are done -/
def BestAt (us : List Nat) (g : Nat → Nat) (D : Nat → Prop) (Bb : Nat) (W : World) (vs : List Value) : Prop :=
  vs.length = us.length ∧ Row W Bb 39 vs ∧ ∀ j, j < us.length → ∃ v l, vs[j]? = some v ∧ OneL Bb W v l ∧ (D j → IsFrom us g j l)
theorem BestAt.below {us : List Nat} {g : Nat → Nat} {D : Nat → Prop} {Bb : Nat} {W W' : World} {vs : List Value} (h : BestAt us g D Bb W vs) (hb : Below W.heap.size W W') : BestAt us g D Bb W' vs :=
  ⟨h.1, row_below h.2.1 hb h.2.1.lt, fun j hj => let ⟨v, l, h1, h2, h3⟩ := h.2.2 j hj; ⟨v, l, h1, h2.below hb, h3⟩⟩
theorem BestAt.set {us : List Nat} {g : Nat → Nat} {D D' : Nat → Prop} {Bb : Nat} {W : World} {vs : List Value} (h : BestAt us g D Bb W vs) {i : Nat} (hi : i < us.length) {u : Value} {l : List Nat} (hu : OneL Bb W u l) (hl : IsFrom us g i l) (hD : ∀ z, D' z → D z ∨ z = i) :
    BestAt us g D' Bb (W.setCell ⟨Bb, i, none⟩ u) (vs.set i u) := by
  refine ⟨by rw [List.length_set]; exact h.1, h.2.1.set i u, fun j hj => ?_⟩
  obtain ⟨v, m, h1, h2, h3⟩ := h.2.2 j hj
  by_cases e : j = i
  · subst e
    exact ⟨u, l, by rw [List.getElem?_set]; simp [h.1, hj], hu.set j u, fun _ => hl⟩
  · have e' : ¬ i = j := fun x => e x.symm
    exact ⟨v, m, by rw [List.getElem?_set, if_neg e']; exact h1, h2.set i u, fun hd => h3 ((hD j hd).resolve_right e)⟩
/-- those of the line from place k on -/
def doneK (us : List Nat) (k : Nat) (z : Nat) : Prop := ∃ t, k ≤ t ∧ t < us.length ∧ wd (sortF (underB us) us.length us.length) t = z
theorem done_step {us : List Nat} {k : Nat} (hk : k < us.length) (z : Nat) : doneK us k z ↔ doneK us (k + 1) z ∨ z = wd (sortF (underB us) us.length us.length) k := by
  constructor
  · rintro ⟨t, h1, h2, h3⟩
    by_cases e : t = k
    · subst e; exact .inr h3.symm
    · exact .inl ⟨t, by omega, h2, h3⟩
  · rintro (⟨t, h1, h2, h3⟩ | h)
    · exact ⟨t, by omega, h2, h3⟩
    · exact ⟨k, Nat.le_refl _, hk, h.symm⟩
theorem line_all {us : List Nat} (hA : Acy (underB us) us.length) {z : Nat} (hz : z < us.length) : ∃ t, t < us.length ∧ wd (sortF (underB us) us.length us.length) t = z := by
  obtain ⟨f1, f2⟩ := sortF_facts hA us.length (Nat.le_refl _)
  have hm : z ∈ sortF (underB us) us.length us.length := by
    apply Classical.byContradiction
    intro hno
    have := nodup_le (a := z :: sortF (underB us) us.length us.length) (b := List.range us.length) (List.nodup_cons.2 ⟨hno, f1⟩) (fun x hx => by
      rcases List.mem_cons.1 hx with e | e
      · subst e; exact List.mem_range.2 hz
      · exact List.mem_range.2 (f2 x e))
    simp [sortF_len] at this; omega
  obtain ⟨t, ht, e⟩ := mem_wd hm
  rw [sortF_len] at ht
  exact ⟨t, ht, e⟩
theorem done_over {us : List Nat} (hA : Acy (underB us) us.length) {k z : Nat} (hk : k < us.length) (hz : z < us.length) (hu : underB us (wd (sortF (underB us) us.length us.length) k) z = true) : doneK us (k + 1) z := by
  obtain ⟨t, ht, e⟩ := line_all hA hz
  refine ⟨t, ?_, ht, e⟩
  rcases Nat.lt_trichotomy t k with h | h | h
  · have := (sort_before hA h hk).2
    rw [e, hu] at this; cases this
  · subst h; rw [e, under_irr] at hu; cases hu
  · omega
theorem done_not {us : List Nat} (hA : Acy (underB us) us.length) {k : Nat} : ¬ doneK us (k + 1) (wd (sortF (underB us) us.length us.length) k) := by
  rintro ⟨t, h1, h2, h3⟩
  exact (sort_before hA (show k < t by omega) h2).1 h3

theorem rest_len {us : List Nat} {g : Nat → Nat} {i j : Nat} {l : List Nat} (hgn : ∀ x, x < us.length → g x ≤ us.length) (h : RestOf us g i j l) : l.length ≤ us.length + 1 := by
  rcases h with ⟨e, _⟩ | ⟨r, _, h2, _, h4, _⟩
  · subst e; simp
  · rw [h4.len]; have := hgn r h2; omega
theorem all_len {us : List Nat} {g : Nat → Nat} {D : Nat → Prop} {l : List Nat} (hgn : ∀ x, x < us.length → g x ≤ us.length) (h : AllOf us g D l) : l.length ≤ us.length + 1 := by
  rcases h with ⟨e, _⟩ | ⟨r, h2, _, h4, _⟩
  · subst e; simp
  · rw [h4.len]; have := hgn r h2; omega

set_option maxRecDepth 100000 in
set_option maxHeartbeats 1000000 in
theorem OrderChain_any (a : Option Addr) (cap : Nat) (us : List Nat) (g : Nat → Nat) (n₀ : Nat) (hf : Fit us) (hl : us.length ≤ 16) (hord : IsOrd us) (hh : IsHt (fun x i => underB us i x) us.length g) (hgn : ∀ x, x < us.length → g x ≤ us.length) (w : World) (hw : IsWords n₀ w a us) (hn₀ : n₀ ≤ w.heap.size) :
    Calls Tryd.prog 25 #[.agg #[.int .i64 us.length, .slice a us.length cap]] w fun e w' => ∃ av cv all, e = .returned (.slice av (List.length all) cv) ∧ Below w.heap.size w w' ∧ IsInts w'.heap.size w' av all ∧ AllOf us g (fun _ => True) all := by
  obtain ⟨i0, hi, hz0, hz1, hz2⟩ := info_parts info_int
  have hA := acy_under hord
  have hmk := run_make_row' (P := Tryd.prog) 61 39 (.slice none 0 0) 24 Tryd.underlying61 info_ints rfl .i64 .i64 us.length (by omega) (by omega)
  obtain ⟨r0, hb0, hs0⟩ := one_row w 24 (.int .i64 us.length) (.slice a us.length cap) rfl
  have hso := OrderSorted_any a cap us n₀ hf hl hord _ (hw.below (hb0.mono hn₀)) (by omega)
  have c00 := r0.cell (i := 0) rfl
  have c01 := r0.cell (i := 1) rfl
  go_enter Tryd.func25, Tryd.ntmps25
  go_wp2_with fail
  refine hso.mono ?_
  rintro e w1 ⟨av, cv, rfl, hb1, hownS⟩
  have hs1 := hb1.size
  have q1 := row_below r0 hb1 r0.lt
  have d00 := q1.cell (i := 0) rfl
  have ltQ := q1.lt
  have rB := Row.new w1 39 (List.replicate us.length (.slice none 0 0))
  rw [← made_replicate] at rB
  clear hso c00 c01
  go_wp2
  have hbox1 : InBox w.heap.size w w1 us.length a us.length cap := ⟨q1.cell (i := 0) rfl, q1.cell (i := 1) rfl, hb0.trans (hb1.mono (by omega)), ltQ⟩
  have hbox2 := hbox1.step hbox1.le ((Below.refl _ _).alloc (Nat.le_refl _) (.cells (madeCells #[.slice none 0 0] us.length) 39))
  have hS2 : OneL w1.heap.size (w1.alloc (.cells (madeCells #[.slice none 0 0] us.length) 39)) (.slice av us.length cv) (sortF (underB us) us.length us.length) := by
    refine ⟨av, cv, by rw [sortF_len], ?_⟩
    rcases (ownsRow_ints hownS).below ((Below.refl w1.heap.size w1).alloc (Nat.le_refl _) (.cells (madeCells #[.slice none 0 0] us.length) 39)) with h | ⟨b, off, e1, e2, e3⟩
    · exact .inl h
    · exact .inr ⟨b, off, e1, by omega, by simp; omega, e3⟩
  have hBest2 : BestAt us g (doneK us us.length) w1.heap.size (w1.alloc (.cells (madeCells #[.slice none 0 0] us.length) 39)) (List.replicate us.length (.slice none 0 0)) :=
    ⟨by simp, rB, fun j hj => ⟨.slice none 0 0, [], by simp [hj], OneL.nil _ _, fun ⟨t, h1, h2, _⟩ => by omega⟩⟩
  obtain ⟨Bb, hBb⟩ : ∃ Bb, Bb = w1.heap.size := ⟨_, rfl⟩
  rw [← hBb] at hS2 hBest2 ⊢
  generalize w1.alloc (.cells (madeCells #[.slice none 0 0] us.length) 39) = w2 at *
  have ltB := hBest2.2.1.lt
  have hwB : w.heap.size < Bb := by omega
  clear hBb hownS q1 d00 rB hmk hbox1 r0 hb0 hb1 hs1 ltQ
  go_loopw [5, 6] (fun v kk wr => ∃ (k : Nat) (vs : List Value) (la : List Nat), k ≤ us.length ∧ kk = .int .i64 ((k : Int) - 1) ∧ InBox w.heap.size w wr us.length a us.length cap ∧ OneL Bb wr (.slice av us.length cv) (sortF (underB us) us.length us.length) ∧ BestAt us g (doneK us k) Bb wr vs ∧ OneL Bb wr v la ∧ AllOf us g (doneK us k) la) (fun _ kk _ => (intOf kk + 1).toNat)
  case atStart => exact ⟨us.length, _, [], Nat.le_refl _, rfl, hbox2, hS2, hBest2, OneL.nil _ _, .inl ⟨rfl, fun z _ ⟨t, h1, h2, _⟩ => by omega⟩⟩
  case round =>
    clear hbox2 hS2 hBest2
    obtain ⟨k', vs, la, hk', rfl, hbox, hS, hBest, hAll, hAo⟩ := hrel
    cases k' with
    | zero =>
      obtain ⟨aa, ca, rfl, hia⟩ := hAll.open
      go_wp2
      go_ret
      refine ⟨aa, ca, la, rfl, hbox.bel, hia, ?_⟩
      rcases hAo with ⟨e, h⟩ | ⟨r, h1, h2, h3, h4⟩
      · exact .inl ⟨e, fun z hz _ => by obtain ⟨t, ht, et⟩ := line_all hA hz; exact h z hz ⟨t, Nat.zero_le _, ht, et⟩⟩
      · exact .inr ⟨r, h1, trivial, h3, fun z hz _ => by obtain ⟨t, ht, et⟩ := line_all hA hz; exact h4 z hz ⟨t, Nat.zero_le _, ht, et⟩⟩
    | succ k =>
      obtain ⟨V, hV⟩ : ∃ V, V = wr := ⟨_, rfl⟩
      subst hV
      have hm1 : ((k + 1 : Nat) : Int) - 1 = (k : Int) := by omega
      rw [hm1]
      clear hm1
      have hkn : k < us.length := by omega
      obtain ⟨aS, cs, es, hiS⟩ := hS.open
      rw [sortF_len] at es
      cases es
      obtain ⟨bS, oS, rfl, hbS, hcS⟩ := hiS.at (i := k) (by rw [sortF_len]; exact hkn)
      have cS := hcS k (by rw [sortF_len]; exact hkn)
      have hin : wd (sortF (underB us) us.length us.length) k < us.length := (sortF_facts hA us.length (Nat.le_refl _)).2 _ (wd_mem (by rw [sortF_len]; exact hkn))
      have hover := fun z (hz : z < us.length) (hu : underB us (wd (sortF (underB us) us.length us.length) k) z = true) => done_over hA hkn hz hu
      have hdn := done_not (k := k) hA
      have hds := done_step hkn
      obtain ⟨L, HL⟩ : ∃ L, Hid (L = sortF (underB us) us.length us.length) := ⟨_, hide rfl⟩
      rw [← HL.out] at cS hin hover hdn hds hS
      generalize hxi : wd L k = i at *
      have HXI := hide hxi
      clear hxi hcS hiS
      have hc0 := hbox.c0
      go_wp2
      go_loopw [8, 9] (fun r j wr' => ∃ (q : Nat) (lr : List Nat), q ≤ us.length ∧ j = .int .i64 q ∧ OneL Bb wr' r lr ∧ RestOf us g i q lr ∧ Below V.heap.size V wr') (fun _ j _ => us.length - (intOf j).toNat)
      case atStart => exact ⟨0, [], Nat.zero_le _, rfl, OneL.nil _ _, rest_start us g i, Below.refl _ _⟩
      case round =>
        clear cS hc0
        obtain ⟨q, lr, hq, rfl, hR, hRo, hbr⟩ := hrel
        have hboxr := hbox.step hbox.le hbr
        have hc0 := hboxr.c0
        have hc1 := hboxr.c1
        by_cases hlq : q < us.length
        · have hun := Under_any us.length a cap us i q n₀ hf hin (by omega) wr (hw.below (hboxr.bel.mono hn₀)) (by have := hboxr.le; omega)
          cases hu : underB us i q with
          | false =>
            rw [hu] at hun
            have HS := hide (rest_skip hRo hu)
            clear hu
            go_wp2_with (go_at_call 41; refine hun.mono ?_; rintro e w3 ⟨rfl, hb3⟩)
            exact ⟨⟨q + 1, lr, by omega, by go_num, hR.below hb3, HS.out, hbr.trans (hb3.mono hbr.size)⟩, by simp [intOf]; omega⟩
          | true =>
            rw [hu] at hun
            have hBr := hBest.below hbr
            obtain ⟨v, lv, hv, hvo, hvf⟩ := hBr.2.2 q hlq
            have hfrom := hvf (hover q hlq hu)
            obtain ⟨ar, cr, rfl, _⟩ := hR.open
            obtain ⟨aq, cq, rfl, _⟩ := hvo.open
            have cB := hBr.2.1.cell hv
            have hlr := rest_len hgn hRo
            have hlv : lv.length ≤ 17 := by rw [hfrom.len]; have := hgn q hlq; omega
            have hfi : ∀ w3, Below wr.heap.size wr w3 → Calls Tryd.prog 45 #[.slice aq lv.length cq, .slice ar lr.length cr] w3 fun e w' => ∃ c : Bool, e = .returned (.bool c) ∧ (c = true ↔ FirstP lv lr) ∧ ∃ q, w' = w3.drewN q := fun w3 hb3 => by
              obtain ⟨_, _, e1, h1⟩ := (hvo.below hb3).open
              obtain ⟨_, _, e2, h2⟩ := (hR.below hb3).open
              cases e1
              cases e2
              exact first_any _ _ _ _ lv lr w3.heap.size (by omega) w3 h1 h2
            have HU := hide hu
            clear hu hvf hv
            have ltBr := hBr.2.1.lt
            go_wp2_with (first
              | (go_at_call 41; refine hun.mono ?_; rintro e w3 ⟨rfl, hb3⟩; have cB3 := (hb3.cell (p := ⟨Bb, q, none⟩) ltBr).trans cB; have hf3 := hfi w3 hb3)
              | (go_at_call 45; refine hf3.mono ?_; rintro e w4 ⟨c, rfl, hcc, dq, rfl⟩))
            · rename_i hct
              exact ⟨⟨q + 1, lv, by omega, by go_num, (hvo.below hb3).below (below_drewN (Below.refl _ _) dq), rest_take hRo hlq HU.out hfrom (hcc.1 hct), below_drewN (hbr.trans (hb3.mono hbr.size)) dq⟩, by simp [intOf]; omega⟩
            · rename_i hcf
              exact ⟨⟨q + 1, lr, by omega, by go_num, (hR.below hb3).below (below_drewN (Below.refl _ _) dq), rest_keep hRo hfrom (fun h => by rw [hcc.2 h] at hcf; cases hcf), below_drewN (hbr.trans (hb3.mono hbr.size)) dq⟩, by simp [intOf]; omega⟩
        · obtain rfl : q = us.length := by omega
          obtain ⟨ar, cr, rfl, hir⟩ := hR.open
          have hfrom := rest_from hh hin hRo
          have hlr := rest_len hgn hRo
          obtain ⟨U, hU⟩ : ∃ U, U = wr := ⟨_, rfl⟩
          subst hU
          have hBu := hBest.below hbr
          have hSu := hS.below hbr
          have hAu := hAll.below hbr
          have ltBu := hBu.2.1.lt
          have hUs := hboxr.le
          clear hc1
          go_wp2
          go_loopw [10, 55] (fun v t wr' => ∃ (m : Nat) (av' : Option Addr) (cv' : Nat), m ≤ lr.length ∧ t = .int .i64 m ∧ v = .slice av' (m + 1) cv' ∧ wr'.ownsRow U.heap.size 3 1 (.slice av' (m + 1) cv') (m + 1) (ivals (i :: lr.take m)) ∧ Below U.heap.size U wr') (fun _ t _ => lr.length - (intOf t).toNat)
          case atStart => exact ⟨0, some ⟨U.heap.size, 0, none⟩, 1, Nat.zero_le _, rfl, rfl, ownsRow_first U i, (Below.refl _ _).alloc (Nat.le_refl _) _⟩
          case round =>
            clear hc0
            obtain ⟨m, av', cv', hm, rfl, rfl, hown, hbu⟩ := hrel
            have hus := hbu.size
            by_cases hlm : m < lr.length
            · obtain ⟨br, or', rfl, hbb, hccr⟩ := (hir.below hbu).at hlm
              have cM := hccr m hlm
              clear hccr
              have htake : ivals (i :: lr.take (m + 1)) = ivals (i :: lr.take m) ++ [.int .i64 ((wd lr m : Nat) : Int)] := by
                have e : lr.take (m + 1) = lr.take m ++ [wd lr m] := by
                  rw [List.take_add_one, List.getElem?_eq_getElem hlm]
                  unfold wd
                  rw [List.getD_eq_getElem?_getD, List.getElem?_eq_getElem hlm]
                  rfl
                rw [e, ← List.cons_append, ivals_snoc]
              go_wp2_with (at_builtin; refine wpList_append_own _ rfl _ _ 39 rfl U.heap.size 3 i0 (.int .i64 0) 1 8 Tryd.underlying39 hi hz0 hz1 hz2 rfl (by decide) _ _ _ rfl (hown.alloc _) ⟨wr.heap.size, 0, none⟩ 1 1 [.int .i64 ((wd lr m : Nat) : Int)] rfl rfl (cell_one_new _ _ _) (fun u hu => by simp at hu; subst hu; rfl) (by unfold maxLen; omega) (by omega) (by simp; omega) ?_; intro v' w5 hown5 hgrow5 _; obtain ⟨g', cap', rfl⟩ := ownsRow_succ hown5)
              have hout : ∀ j, Value.ownBlock (.slice av' (m + 1) cv') = some j → U.heap.size ≤ j := fun j ej => by
                apply Nat.le_of_not_lt; intro hjl
                exact ownBlock_ge hown (b := j) (by omega) ej.symm
              have hb5 : Below U.heap.size U w5 := (hbu.alloc (by omega) _).grown hgrow5 (by simp; omega) hout
              exact ⟨⟨m + 1, some ⟨g', 0, none⟩, cap', by omega, by go_num, rfl, by rw [htake]; exact hown5, hb5⟩, by simp [intOf]; omega⟩
            · obtain rfl : m = lr.length := by omega
              rw [List.take_length] at hown
              have hlo := ownsRow_one (Bb := Bb) hown ltBu
              have hBw := hBu.below hbu
              have hSw := hSu.below hbu
              have hAw := hAu.below hbu
              have hfz := hBw.2.1.frozen i
              obtain ⟨vi, _, hvi, _⟩ := hBw.2.2 i hin
              have cI := hBw.2.1.cell hvi
              have hboxw := hboxr.step hUs hbu
              obtain ⟨X, HX⟩ : ∃ X, Hid (X = wr.setCell ⟨Bb, i, none⟩ (.slice av' (lr.length + 1) cv')) := ⟨_, hide rfl⟩
              have hgs := grownBy_setCellAt wr Bb i (.slice av' (lr.length + 1) cv')
              have hBx : BestAt us g (doneK us k) Bb X (vs.set i (.slice av' (lr.length + 1) cv')) := by rw [HX.out]; exact hBw.set hin hlo hfrom (fun z hz => (hds z).1 hz)
              have hSx : OneL Bb X (.slice (some ⟨bS, oS, none⟩) us.length cv) L := by rw [HX.out]; exact hSw.set _ _
              have hAx := hAw.set i (.slice av' (lr.length + 1) cv')
              have hlx := hlo.set i (.slice av' (lr.length + 1) cv')
              rw [← HX.out] at hAx hlx
              have hboxx : InBox w.heap.size w X us.length a us.length cap := by rw [HX.out]; exact hboxw.grown hgs (fun j e => by cases e; omega)
              obtain ⟨aa, ca, ea, hia⟩ := hAx.open
              subst ea
              obtain ⟨al, cl, el, hil⟩ := hlx.open
              have hla := all_len hgn hAo
              have hfx := first_any al aa cl ca (i :: lr) la X.heap.size (by simp; omega) X hil hia
              rw [← el] at hfx
              clear hil
              have eX := HX.out
              go_wp2_with (go_at_call 45; rw [← eX]; refine hfx.mono ?_; rintro e w6 ⟨c, rfl, hcc, dq, rfl⟩)
              · rename_i hct
                rw [← HX.out]
                have hd := below_drewN (Below.refl X.heap.size X) dq
                exact ⟨⟨k, _, i :: lr, by omega, rfl, hboxx.step hboxx.le hd, by rw [← HL.out]; exact hSx.below hd, hBx.below hd, hlx.below hd, all_take hAo hin hdn hds hfrom (hcc.1 hct)⟩, by simp [intOf]⟩
              · rename_i hcf
                rw [← HX.out]
                have hd := below_drewN (Below.refl X.heap.size X) dq
                exact ⟨⟨k, _, la, by omega, rfl, hboxx.step hboxx.le hd, by rw [← HL.out]; exact hSx.below hd, hBx.below hd, hAx.below hd, all_keep hAo hdn hds hfrom (fun h => by rw [hcc.2 h] at hcf; cases hcf)⟩, by simp [intOf]⟩
end Go.Proofs.YthhjhfjildmbhaaDoor
