/- The contract of package summary's Least. -/
import Derived.Test.YtbnjbnjgfjpegaaSumLess
import Derived.Test.YtbnjbnjgfjpegaaApart
namespace Go.Proofs.Ytbnjbnjgfjpegaa
open Go.RowKit Go.Shelf

/-- the summaries themselves -/
def sl (L : List Su) : List Sm := L.map Su.sm
theorem sl_len (L : List Su) : (sl L).length = L.length := by unfold sl; simp
theorem sl_at {L : List Su} {i : Nat} (h : i < L.length) : (sl L)[i]'(by rw [sl_len]; exact h) = (nthU L i).sm := by
  unfold sl; rw [nthU_get h]; simp
theorem sl_snoc (S : List Su) (s : Su) : sl (S ++ [s]) = sl S ++ [s.sm] := by unfold sl; simp
theorem sl_take {P : List Su} {k : Nat} (h : k < P.length) : (sl P).take (k + 1) = (sl P).take k ++ [(nthU P k).sm] := by
  rw [List.take_succ_eq_append_getElem (by rw [sl_len]; exact h), sl_at h]
theorem mem_sl {L : List Su} {t : Sm} : t ∈ sl L ↔ ∃ i, i < L.length ∧ (nthU L i).sm = t := by
  constructor
  · intro h
    obtain ⟨i, hi, e⟩ := List.mem_iff_getElem.1 h
    rw [sl_len] at hi
    exact ⟨i, hi, by rw [← e, sl_at hi]⟩
  · rintro ⟨i, hi, rfl⟩
    rw [← sl_at hi]; exact List.getElem_mem _
theorem mem_sl_take {P : List Su} {k : Nat} {u : Sm} (h : u ∈ (sl P).take k) : ∃ i, i < k ∧ i < P.length ∧ (nthU P i).sm = u := by
  obtain ⟨i, hi, e⟩ := List.mem_iff_getElem.1 h
  rw [List.length_take, sl_len] at hi
  rw [List.getElem_take, sl_at (by omega)] at e
  exact ⟨i, by omega, by omega, e⟩
theorem nthU_mem {L : List Su} {i : Nat} (h : i < L.length) : nthU L i ∈ L := by rw [nthU_get h]; exact List.getElem_mem h
theorem mem_nthU {L : List Su} {u : Su} (h : u ∈ L) : ∃ i, i < L.length ∧ nthU L i = u := by
  obtain ⟨i, hi, e⟩ := List.mem_iff_getElem.1 h
  exact ⟨i, hi, by rw [nthU_get hi, e]⟩
theorem nodup_lenG {α : Type} [DecidableEq α] : ∀ {F ls : List α}, F.Nodup → (∀ t ∈ F, t ∈ ls) → F.length ≤ ls.length := fun {F} => by
  induction F with
  | nil => intro ls _ _; simp
  | cons a G ih =>
    intro ps hn hs
    have hn' := List.nodup_cons.1 hn
    have ha := hs a (by simp)
    have := ih (ls := ps.erase a) hn'.2 fun t ht => (List.mem_erase_of_ne (fun e => by subst e; exact hn'.1 ht)).2 (hs t (List.mem_cons_of_mem _ ht))
    rw [List.length_erase_of_mem ha] at this
    have hp := List.length_pos_of_mem ha
    simp only [List.length_cons]; omega
/-- what is Leq to another one -/
abbrev LeS (s r : Sm) : Prop := leqM s r = true
theorem takenS_len {n : Nat} {ps G : List Sm} (ho : ∀ t ∈ ps, OkS n t) (h : TakenG AheadS LeS ps G) : G.length ≤ ps.length := by
  classical
  exact nodup_lenG (FrontG.nodup (fronts_sum n) ho h.front) (fun t ht => ((h.mem t).1 ht).1)
theorem ownsRow_outerU {W : World} {base : Nat} {av : Option Addr} {cv k : Nat} {L : List Su} (h : W.ownsRow base 32 3 (.slice av k cv) k (uvals L)) (hk : k = L.length) : OuterU W.heap.size W av L := by
  subst hk
  by_cases h0 : L.length = 0
  · exact .inl (List.length_eq_zero_iff.1 h0)
  · rcases h.2 with ⟨h1, h2⟩ | ⟨g, cap, cur, h1, h2, h3, h4⟩
    · omega
    · have h' := h
      cases h1
      obtain ⟨hg, _, hc⟩ := ownsRow_row3 h' (by omega)
      refine .inr ⟨g, 0, rfl, hg, fun i hi => ?_⟩
      obtain ⟨u1, u2, u3⟩ := uvals_at L i hi
      exact ⟨by rw [Nat.zero_add, (hc (i * 3) (by omega)).1, u1], by rw [Nat.zero_add, (hc (i * 3 + 1) (by omega)).1, u2], by rw [Nat.zero_add, (hc (i * 3 + 2) (by omega)).1, u3]⟩
theorem InFU.grow {base b2 k : Nat} {W W' : World} {S : List Su} {v : Value} {xs : List Value} {o : Obj} (h : InFU base W S) (hown : W.ownsRow b2 32 3 v k xs) (hg : (W.alloc o).grownBy W' v.ownBlock) : InFU base W' S := fun i hi => by
  obtain ⟨h1, h2⟩ := h i hi
  have h3 := ownsRow_below h1 ((Below.refl _ _).alloc (Nat.le_refl _) o)
  refine ⟨own_kept h3 hg fun b hb hv => ?_, h2⟩
  rcases h1.2 with ⟨e, _⟩ | ⟨g, cap, cur, e, _, hgb, _⟩
  · rw [e] at hv; simp [Value.ownBlock] at hv
  · rcases hown.2 with ⟨e', _⟩ | ⟨g', cap', cur', e', _, hgb', _⟩
    · rw [e'] at hb; simp [Value.ownBlock] at hb
    · rw [e] at hv
      rw [e'] at hb
      obtain rfl : g = b := by simpa [Value.ownBlock] using hv
      obtain rfl : g' = g := by simpa [Value.ownBlock] using hb
      rw [hgb] at hgb'
      simp at hgb'
theorem cell_three_new (w : World) (x y z : Value) (t : TypeId) : ∀ j u, [x, y, z][j]? = some u → (w.alloc (.cells #[x, y, z] t)).cell? ((⟨w.heap.size, 0, none⟩ : Addr).add j) = some u := fun j u h => by
  have r := Row.new w t [x, y, z]
  rw [Addr.add_lit, Nat.zero_add]
  exact r.cell h

set_option maxRecDepth 100000 in
set_option maxHeartbeats 8000000 in
theorem sleast_some (a : Option Addr) (cap : Nat) (L : List Su) (n n₀ : Nat) (h64 : L.length ≤ 1048576) (hok : ∀ i, i < L.length → OkS n (nthU L i).sm) (h0 : 0 < L.length) (w : World) (hO : OuterU n₀ w a L) (hI : InnerU n₀ w L) (hn₀ : n₀ ≤ w.heap.size) :
    Calls Try.prog 11 #[.slice a L.length cap] w fun e w' => ∃ av cv S, e = .returned (.slice av S.length cv) ∧ Below w.heap.size w w' ∧ OuterU w'.heap.size w' av S ∧ InFU w.heap.size w' S ∧ FrontG AheadS LeS (sl L) (sl S) := by
  obtain ⟨i0, hi, hz0, hz1, hz2⟩ := info_parts info_sum
  have T := fronts_sum n
  have hcl := cloneU_any a cap L n₀ h64 h0 w hO hn₀
  go_enter Try.func11, Try.ntmps11
  go_wp2_with fail
  with_reducible refine hcl.mono ?_
  rintro e w1 ⟨g, cv1, rfl, hb1, hown1⟩
  have hs1 := hb1.size
  have hso := ssort_any g cv1 L w.heap.size n n₀ h0 h64 hok w1 (hI.below (hb1.mono hn₀)) hn₀ hown1
  clear hcl hown1
  go_wp2_with fail
  with_reducible refine hso.mono ?_
  rintro e w2 ⟨rfl, hb2, hg2, hge, P, hOP, hPL, hPS⟩
  clear hso
  have hB2 : Below w.heap.size w w2 := hb1.trans (hb2.mono hge)
  have hs2 := hB2.size
  have hPl : P.length = L.length := hPL.length_eq
  have HPL := hide (show P.Perm L ∧ P.length = L.length ∧ ∀ i j, i < j → j < P.length → ¬ AheadS (nthU P j).sm (nthU P i).sm from ⟨hPL, hPl, hPS⟩)
  have hmem : ∀ k, k < P.length → ∃ i, i < L.length ∧ nthU L i = nthU P k := fun k hk => mem_nthU (HPL.out.1.mem_iff.1 (nthU_mem hk))
  have hokP : ∀ k, k < P.length → OkS n (nthU P k).sm := fun k hk => by
    obtain ⟨i, h1, h2⟩ := hmem k hk
    rw [← h2]; exact hok i h1
  have HM := hide (show (∀ k, k < P.length → ∃ i, i < L.length ∧ nthU L i = nthU P k) ∧ (∀ k, k < P.length → OkS n (nthU P k).sm) from ⟨hmem, hokP⟩)
  have h64' : P.length ≤ 1048576 := by omega
  have hokT : ∀ k, ∀ u ∈ (sl P).take k, OkS n u := fun k u hu => by
    obtain ⟨i, _, h2, h3⟩ := mem_sl_take hu
    rw [← h3]; exact hokP i h2
  have HOT := hide hokT
  rw [← hPl]
  clear hPl hPL hPS hb1 hb2 hmem hokP hok hokT
  go_wp2_with fail
  go_loopw [4, 13] (fun fr i wr => ∃ (k : Nat) (av : Option Addr) (cv : Nat) (G : List Su), k ≤ P.length ∧ i = .int .i64 k ∧ fr = .slice av G.length cv ∧ Below w2.heap.size w2 wr ∧ wr.ownsRow w2.heap.size 32 3 (.slice av G.length cv) G.length (uvals G) ∧ InFU w2.heap.size wr G ∧ Hid (TakenG AheadS LeS ((sl P).take k) (sl G))) (fun _ i _ => P.length - (intOf i).toNat)
  case atStart => exact ⟨0, none, 0, [], Nat.zero_le _, rfl, rfl, Below.refl _ _, World.ownsRow_nil .., InFU.nil _ _, hide (TakenG.nil)⟩
  case round =>
    obtain ⟨k, av, cv, G, hk, rfl, rfl, hB, hown, hFG, HT⟩ := hrel
    have hsr := hB.size
    have hGl : G.length ≤ 1048576 := by have := takenS_len (HOT.out k) HT.out; rw [sl_len, List.length_take, sl_len] at this; omega
    by_cases hlt : k < P.length
    · obtain ⟨bP, oP, hav, hbP, hcP⟩ := (hOP.below (hB.mono (by omega))).at hlt
      cases hav
      obtain ⟨ck, dk, fk⟩ := hcP k hlt
      rw [Nat.zero_add] at ck dk fk
      have hBw := hB2.trans (hB.mono hs2)
      obtain ⟨ix, hix, eix⟩ := HM.out.1 k hlt
      obtain ⟨iz, il, inil⟩ := hI ix hix
      rw [eix] at iz il inil
      have hkk := HM.out.2 k hlt
      have HPk := hide (show (∀ u ∈ (sl P).take k, OkS n u ∧ ¬ AheadS (nthU P k).sm u) ∧ (sl P).take (k + 1) = (sl P).take k ++ [(nthU P k).sm] ∧ OkS n (nthU P k).sm from ⟨fun u hu => by
        obtain ⟨i, h1, h2, h3⟩ := mem_sl_take hu
        exact ⟨HOT.out k u hu, by rw [← h3]; exact HPL.out.2.2 i k h1 hlt⟩, sl_take hlt, hkk⟩)
      have hz4 : (nthU P k).z.length ≤ 4 := by
        have h1 := (good_of (n := 4) hkk.1).o4
        have h2 := (good_of (n := 4) hkk.1).k1
        have : ((nthU P k).sm.z) = (nthU P k).z := rfl
        rw [this] at h1; omega
      obtain ⟨sT, ek⟩ : ∃ sT, nthU P k = sT := ⟨_, rfl⟩
      rw [ek] at ck dk fk iz il inil HPk hz4
      clear hcP ek eix hkk
      obtain ⟨kk, dd, at_, ct, zt⟩ := sT
      dsimp only at ck dk fk iz il inil hz4
      obtain ⟨w3, hw3⟩ : ∃ V, wr.alloc (.cells #[.int .i64 kk, .int .i64 dd, .slice at_ zt.length ct] 32) = V := ⟨_, rfl⟩
      have hb3 : Below wr.heap.size wr w3 := hw3 ▸ (Below.refl _ _).alloc (Nat.le_refl _) _
      have hbox : BoxU w3 wr.heap.size ⟨kk, dd, at_, ct, zt⟩ := by
        subst hw3; exact Row.new wr _ [.int .i64 kk, .int .i64 dd, .slice at_ zt.length ct]
      have hs3 := hb3.size
      have hown3 := ownsRow_below hown hb3
      have hFG3 := hFG.below hb3
      have hBw3 := hBw.trans (hb3.mono hBw.size)
      have lq := hbox.lt
      obtain ⟨b, hbb⟩ : ∃ b : Bool, b = true ↔ AnyTo (fun i => leqM (nthU G i).sm (Su.sm ⟨kk, dd, at_, ct, zt⟩)) G.length := by
        classical
        exact ⟨decide (AnyTo (fun i => leqM (nthU G i).sm (Su.sm ⟨kk, dd, at_, ct, zt⟩)) G.length), decide_eq_true_iff⟩
      have hop := con_sleast_any wr.heap.size av cv G (fun i => leqM (nthU G i).sm (Su.sm ⟨kk, dd, at_, ct, zt⟩)) b hbb w3.heap.size (by omega) w3 (ownsRow_outerU hown3 rfl) (Nat.le_refl _) fun i hi W hW => by
        obtain ⟨g1, g2, _⟩ := hFG3.inner i hi
        exact sless1_any wr.heap.size (nthU G i) ⟨kk, dd, at_, ct, zt⟩ w3.heap.size g2 il W (hbox.below hW lq) (g1.below hW) (((iz.below (hBw3.mono hn₀)).mono (by have := hBw3.size; omega)).below hW) hW.size
      have hop_t : Hid (b = true → ∃ g ∈ sl G, LeS g (Su.sm ⟨kk, dd, at_, ct, zt⟩)) := hide fun h => by
        obtain ⟨i, hi, e⟩ := hbb.1 h
        exact ⟨_, mem_sl.2 ⟨i, hi, rfl⟩, e⟩
      have hop_f : Hid (b = false → ∀ g ∈ sl G, ¬ LeS g (Su.sm ⟨kk, dd, at_, ct, zt⟩)) := hide fun h g hg hle => by
        obtain ⟨i, hi, rfl⟩ := mem_sl.1 hg
        have := hbb.2 ⟨i, hi, hle⟩
        rw [h] at this; cases this
      have hBox := hide hbox
      have HW3 := hide hw3
      clear hbb hbox hFG hown
      have hgw : g < wr.heap.size := by omega
      cases b with
      | true =>
        have HF : Hid (TakenG AheadS LeS ((sl P).take (k + 1)) (sl G)) := hide (by
          rw [HPk.out.2.1]
          exact HT.out.skip T (fun u hu => (HPk.out.1 u hu).1) HPk.out.2.2 (fun u hu => (HPk.out.1 u hu).2) (hop_t.out rfl))
        clear hop_t hop_f T
        go_wp2_with fail
        with_reducible refine hop.mono ?_
        rintro e w4 ⟨rfl, hb4⟩
        go_wp2_with fail
        go_roundw
        case rel => exact ⟨k + 1, av, cv, G, by omega, by go_num, rfl, (hB.trans (hb3.mono hsr)).trans (hb4.mono (by omega)), ownsRow_below hown3 hb4, hFG3.below hb4, HF⟩
        case measure => simp [intOf]; omega
      | false =>
        have HF : Hid (TakenG AheadS LeS ((sl P).take (k + 1)) (sl G ++ [Su.sm ⟨kk, dd, at_, ct, zt⟩])) := hide (by
          rw [HPk.out.2.1]
          exact HT.out.take T (fun u hu => (HPk.out.1 u hu).1) HPk.out.2.2 (fun u hu => (HPk.out.1 u hu).2) (hop_f.out rfl))
        clear hop_t hop_f T
        go_wp2_with fail
        with_reducible refine hop.mono ?_
        rintro e w4 ⟨rfl, hb4⟩
        have hB4 := hBw3.trans (hb4.mono hBw3.size)
        have hs4 := hB4.size
        have hbox4 := hBox.out.below hb4 lq
        have q0 := hbox4.cell (i := 0) rfl
        have q1 := hbox4.cell (i := 1) rfl
        have q2 := hbox4.cell (i := 2) rfl
        have lq4 := hbox4.lt
        have hcz := copied_any kk dd at_ ct zt n₀ hz4 inil w4 (iz.below (hB4.mono hn₀)) (by omega)
        clear hop hbox4
        go_wp2_with fail
        with_reducible refine hcz.mono ?_
        rintro e w5 ⟨ac, cc, rfl, hb5, hown5⟩
        clear hcz q0 q1 q2
        have hs35 := hb4.size
        have hs45 := hb5.size
        have hB25 : Below w2.heap.size w2 w5 := ((hB.trans (hb3.mono hsr)).trans (hb4.mono (by omega))).trans (hb5.mono (by omega))
        have hb35 : Below w3.heap.size w3 w5 := hb4.trans (hb5.mono hb4.size)
        have hownG := ownsRow_below hown3 hb35
        have hFG5 := hFG3.below hb35
        have hnew : w5.ownsRow w2.heap.size 3 1 (.slice ac zt.length cc) zt.length (zvals zt) := ownsRow_base hown5 (by omega)
        have hs25 := hB25.size
        clear hown5 hown3 hFG3
        go_wp2_with (at_builtin; refine wpList_append_own _ rfl _ _ 22 rfl w2.heap.size 32 i0 (.agg #[.int .i64 0, .int .i64 0, .slice none 0 0]) 3 40 Try.underlying22 hi hz0 hz1 hz2 rfl (by decide) _ _ _ rfl (hownG.alloc _) ⟨w5.heap.size, 0, none⟩ 1 1 [.int .i64 kk, .int .i64 dd, .slice ac zt.length cc] rfl rfl (cell_three_new _ _ _ _ _) (fun u hu => by simp at hu; rcases hu with rfl | rfl | rfl <;> rfl) (by unfold maxLen; omega) (by omega) (by simp; omega) ?_; intro v' w6 own6 hgrow _; obtain ⟨g', cap', rfl⟩ := ownsRow_succ own6)
        have hB6 : Below w2.heap.size w2 w6 := (hB25.alloc hs25 (.cells #[.int .i64 kk, .int .i64 dd, .slice ac zt.length cc] 32)).grown hgrow (by simp; omega) fun q eq => by
          apply Nat.le_of_not_lt; intro hql
          exact ownBlock_ge hownG (b := q) hql eq.symm
        have hF6 : InFU w2.heap.size w6 (G ++ [⟨kk, dd, ac, cc, zt⟩]) := by
          have h1 : InFU w2.heap.size w5 (G ++ [⟨kk, dd, ac, cc, zt⟩]) := hFG5.snoc ⟨hnew, hz4⟩
          exact h1.grow hownG hgrow
        go_wp2_with fail
        go_roundw
        case rel => exact ⟨k + 1, some ⟨g', 0, none⟩, cap', G ++ [⟨kk, dd, ac, cc, zt⟩], by omega, by go_num, by rw [List.length_append]; rfl, hB6, by rw [uvals_snoc, List.length_append]; exact own6, hF6, by rw [sl_snoc]; exact HF⟩
        case measure => simp [intOf]; omega
    · obtain rfl : k = P.length := by omega
      have hF : FrontG AheadS LeS (sl L) (sl G) := by
        have h1 := HT.out.front
        rw [List.take_of_length_le (by rw [sl_len]; exact Nat.le_refl _)] at h1
        exact h1.congr fun t => by
          unfold sl
          rw [List.mem_map, List.mem_map]
          constructor
          · rintro ⟨s, hs, e⟩; exact ⟨s, HPL.out.1.mem_iff.1 hs, e⟩
          · rintro ⟨s, hs, e⟩; exact ⟨s, HPL.out.1.mem_iff.2 hs, e⟩
      have hO' := ownsRow_outerU hown rfl
      have hI' : InFU w.heap.size wr G := fun i hi => ⟨ownsRow_base (hFG i hi).1 hs2, (hFG i hi).2⟩
      have hBe := hB2.trans (hB.mono hs2)
      clear T HOT HM HPL
      go_wp2_with fail
      go_ret
      exact ⟨av, cv, G, rfl, hBe, hO', hI', hF⟩
end Go.Proofs.Ytbnjbnjgfjpegaa
