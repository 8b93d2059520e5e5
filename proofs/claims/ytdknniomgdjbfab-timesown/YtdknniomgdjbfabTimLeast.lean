/- The contracts of package times' least and Front. -/
import Derived.Test.YtdknniomgdjbfabTimSort
import Derived.Test.YtdknniomgdjbfabTimFrontW
import Derived.Test.YtdknniomgdjbfabTimJoin
namespace Go.Proofs.Ytdknniomgdjbfab
open Go.RowKit Go.Shelf

/-- each of the slices lies in a block of its own make, with its numbers -/
def InF (base : Nat) (W : World) (S : List Sl) : Prop := ∀ i, i < S.length → ∃ B cur, (nth S i).a = some ⟨B, 0, none⟩ ∧ base ≤ B ∧ W.heap[B]? = some (.cells cur 3) ∧ (nth S i).zs.length ≤ 4 ∧ ∀ j, j < (nth S i).zs.length → cur[j]? = some (.int .i64 (zd (nth S i).zs j))
theorem InF.nil (base : Nat) (W : World) : InF base W [] := fun i hi => absurd hi (by simp)
theorem InF.inner {base : Nat} {W : World} {S : List Sl} (h : InF base W S) : Inner W.heap.size W S := fun i hi => by
  obtain ⟨B, cur, h1, h2, h3, h4, h5⟩ := h i hi
  exact ⟨.inr ⟨B, 0, h1, (Array.getElem?_eq_some_iff.1 h3).1, fun j hj => by simp [World.cell?, h3, h5 j hj]⟩, by omega⟩
theorem InF.below {base : Nat} {A B : World} {S : List Sl} (h : InF base A S) (hb : Below A.heap.size A B) : InF base B S := fun i hi => by
  obtain ⟨b, cur, h1, h2, h3, h4⟩ := h i hi
  exact ⟨b, cur, h1, h2, (hb.block b (Array.getElem?_eq_some_iff.1 h3).1).trans h3, h4⟩
theorem InF.base {b b' : Nat} {W : World} {S : List Sl} (h : InF b W S) (hb : b' ≤ b) : InF b' W S := fun i hi => by
  obtain ⟨B, cur, h1, h2, h3⟩ := h i hi
  exact ⟨B, cur, h1, by omega, h3⟩
theorem InF.grow {base b2 k : Nat} {W W' : World} {S : List Sl} {v : Value} {xs : List Value} {o : Obj} (h : InF base W S) (hown : W.ownsRow b2 23 1 v k xs) (hg : (W.alloc o).grownBy W' v.ownBlock) : InF base W' S := fun i hi => by
  obtain ⟨B, cur, h1, h2, h3, h4⟩ := h i hi
  have hlt := (Array.getElem?_eq_some_iff.1 h3).1
  refine ⟨B, cur, h1, h2, (hg.block B (by simp; omega) fun e => ?_).trans ?_, h4⟩
  · rcases hown.2 with ⟨hn, _⟩ | ⟨g, cap, cur2, hv, _, hh, _⟩
    · rw [hn] at e; simp [Value.ownBlock] at e
    · rw [hv] at e
      obtain rfl : B = g := by simpa [Value.ownBlock] using e
      rw [h3] at hh; cases hh
  · have hb : Below W.heap.size W (W.alloc o) := (Below.refl _ _).alloc (Nat.le_refl _) _
    exact (hb.block B hlt).trans h3
theorem nth_snoc_lt {S : List Sl} {s : Sl} {i : Nat} (h : i < S.length) : nth (S ++ [s]) i = nth S i := by
  unfold nth; rw [List.getD_eq_getElem?_getD, List.getD_eq_getElem?_getD, List.getElem?_append_left h]
theorem nth_snoc_eq {S : List Sl} {s : Sl} : nth (S ++ [s]) S.length = s := by
  unfold nth; rw [List.getD_eq_getElem?_getD, List.getElem?_append_right (Nat.le_refl _)]; simp
theorem InF.snoc {base : Nat} {W : World} {S : List Sl} {s : Sl} (h : InF base W S) (hs : ∃ B cur, s.a = some ⟨B, 0, none⟩ ∧ base ≤ B ∧ W.heap[B]? = some (.cells cur 3) ∧ s.zs.length ≤ 4 ∧ ∀ j, j < s.zs.length → cur[j]? = some (.int .i64 (zd s.zs j))) : InF base W (S ++ [s]) := fun i hi => by
  by_cases e : i < S.length
  · rw [nth_snoc_lt e]; exact h i e
  · have : i = S.length := by rw [List.length_append] at hi; simp at hi; omega
    subst this
    rw [nth_snoc_eq]; exact hs
theorem zl_snoc (S : List Sl) (s : Sl) : zl (S ++ [s]) = zl S ++ [s.zs] := by unfold zl; simp
theorem zl_take {P : List Sl} {k : Nat} (h : k < P.length) : (zl P).take (k + 1) = (zl P).take k ++ [(nth P k).zs] := by
  rw [List.take_succ_eq_append_getElem (by rw [zl_len]; exact h), zl_at h]
theorem mem_zl_take {P : List Sl} {k : Nat} {u : List Int} (h : u ∈ (zl P).take k) : ∃ i, i < k ∧ i < P.length ∧ (nth P i).zs = u := by
  obtain ⟨i, hi, e⟩ := List.mem_iff_getElem.1 h
  rw [List.length_take, zl_len] at hi
  rw [List.getElem_take, zl_at (by omega)] at e
  exact ⟨i, by omega, by omega, e⟩
theorem front_len {ls F : List (List Int)} (h : IsFront ls F) : F.length ≤ ls.length := by
  have hn : F.Nodup := h.sorted.imp fun {a b} hab e => by subst e; exact lex_irrefl _ hab
  have key : ∀ (G ps : List (List Int)), G.Nodup → (∀ t ∈ G, t ∈ ps) → G.length ≤ ps.length := fun G => by
    induction G with
    | nil => intro ps _ _; simp
    | cons a G ih =>
      intro ps hn hs
      have hn' := List.nodup_cons.1 hn
      have ha := hs a (by simp)
      have := ih (ps.erase a) hn'.2 fun t ht => (List.mem_erase_of_ne (fun e => by subst e; exact hn'.1 ht)).2 (hs t (List.mem_cons_of_mem _ ht))
      rw [List.length_erase_of_mem ha] at this
      have hp := List.length_pos_of_mem ha
      simp only [List.length_cons]; omega
  exact key F ls hn fun t ht => ((h.mem t).1 ht).1
theorem taken_len {n : Nat} {ps G : List (List Int)} (h : Taken n ps G) : G.length ≤ ps.length := front_len h.front

set_option maxRecDepth 100000 in
set_option maxHeartbeats 8000000 in
theorem least_some (a : Option Addr) (cap : Nat) (L : List Sl) (n₀ : Nat) (hc : codeL (zl L) = 0) (h0 : 0 < L.length) (w : World) (hw : ZLists n₀ w a L) (hn₀ : n₀ ≤ w.heap.size) :
    Calls Try.prog 7 #[.slice a L.length cap] w fun e w' => ∃ av cv S, e = .returned (.slice av S.length cv) ∧ Below w.heap.size w w' ∧ Outer w'.heap.size w' av S ∧ InF w.heap.size w' S ∧ IsFront (zl L) (zl S) := by
  obtain ⟨i0, hi, hz0, hz1, hz2⟩ := info_parts info_zs
  obtain ⟨h64, hcode, hlens⟩ := codeL_zero hc
  rw [zl_len] at h64
  obtain ⟨n, hlen⟩ : ∃ n, ∀ u ∈ zl L, u.length = n := ⟨_, fun u hu => hlens u hu⟩
  have hcl := cloneL_any a cap L n₀ h64 h0 w hw.outer hn₀
  clear hc hlens
  go_enter Try.func7, Try.ntmps7
  go_wp2_with fail
  with_reducible refine hcl.mono ?_
  rintro e w1 ⟨g, cv1, rfl, hb1, hown1⟩
  have hs1 := hb1.size
  have hso := tsort_any g cv1 L w.heap.size n n₀ h0 h64 hlen w1 (hw.inner.below (hb1.mono hn₀)) hn₀ hown1
  clear hcl hown1
  go_wp2_with fail
  with_reducible refine hso.mono ?_
  rintro e w2 ⟨rfl, hb2, hg2, hge, P, hOP, hPL, hPS⟩
  clear hso
  have hB2 : Below w.heap.size w w2 := hb1.trans (hb2.mono hge)
  have hs2 := hB2.size
  have hPl : P.length = L.length := hPL.length_eq
  have HPL := hide (show P.Perm L ∧ P.length = L.length ∧ ∀ i j, i < j → j < P.length → ¬ LexZ (nth P j).zs (nth P i).zs from ⟨hPL, hPl, hPS⟩)
  have hmem : ∀ k, k < P.length → ∃ i, i < L.length ∧ nth L i = nth P k := fun k hk => mem_nth (HPL.out.1.mem_iff.1 (nth_mem hk))
  have hzmem : ∀ k, k < P.length → (nth P k).zs ∈ zl L := fun k hk => by
    obtain ⟨i, hi, e⟩ := hmem k hk
    exact mem_zl.2 ⟨i, hi, by rw [e]⟩
  have HM := hide (show (∀ k, k < P.length → ∃ i, i < L.length ∧ nth L i = nth P k) ∧ (∀ k, k < P.length → (nth P k).zs ∈ zl L) from ⟨hmem, hzmem⟩)
  have h64' : P.length ≤ 64 := by omega
  rw [← hPl]
  clear hPl hPL hPS hb1 hb2 hmem hzmem
  go_wp2_with fail
  go_loopw [4, 13] (fun fr i wr => ∃ (k : Nat) (av : Option Addr) (cv : Nat) (G : List Sl), k ≤ P.length ∧ i = .int .i64 k ∧ fr = .slice av G.length cv ∧ Below w2.heap.size w2 wr ∧ wr.ownsRow w2.heap.size 23 1 (.slice av G.length cv) G.length (svals G) ∧ InF w2.heap.size wr G ∧ Hid (Taken n ((zl P).take k) (zl G))) (fun _ i _ => P.length - (intOf i).toNat)
  case atStart => exact ⟨0, none, 0, [], Nat.zero_le _, rfl, rfl, Below.refl _ _, World.ownsRow_nil .., InF.nil _ _, hide (Taken.nil n)⟩
  case round =>
    obtain ⟨k, av, cv, G, hk, rfl, rfl, hB, hown, hFG, HT⟩ := hrel
    have hIG := hFG.inner
    have hsr := hB.size
    have hGl : G.length ≤ 64 := by have := taken_len HT.out; rw [zl_len, List.length_take, zl_len] at this; omega
    by_cases hlt : k < P.length
    · obtain ⟨bP, oP, hav, hbP, hcP⟩ := (hOP.below (hB.mono (by omega))).at hlt
      cases hav
      have ck := hcP k hlt
      rw [Nat.zero_add] at ck
      have hBw := hB2.trans (hB.mono hs2)
      obtain ⟨ix, hix, eix⟩ := HM.out.1 k hlt
      obtain ⟨iz, il⟩ := hw.inner ix hix
      rw [eix] at iz il
      have hzm := HM.out.2 k hlt
      have HPk := hide (show (∀ u ∈ (zl P).take k, u.length = n ∧ codeT u = 0 ∧ ¬ LexZ (nth P k).zs u) ∧ (zl P).take (k + 1) = (zl P).take k ++ [(nth P k).zs] ∧ codeT (nth P k).zs = 0 ∧ (nth P k).zs.length = n from ⟨fun u hu => by
        obtain ⟨i, h1, h2, h3⟩ := mem_zl_take hu
        have h4 := HM.out.2 i h2
        rw [h3] at h4
        exact ⟨hlen _ h4, hcode _ h4, by rw [← h3]; exact HPL.out.2.2 i k h1 hlt⟩, zl_take hlt, hcode _ hzm, hlen _ hzm⟩)
      obtain ⟨sT, ek⟩ : ∃ sT, nth P k = sT := ⟨_, rfl⟩
      rw [ek] at ck iz il HPk
      clear hcP ek eix hzm
      obtain ⟨at_, ct, zt⟩ := sT
      unfold slv at ck
      dsimp only at ck iz il HPk
      have hzt : ∀ {W}, Below w.heap.size w W → ZInts n₀ W at_ zt := fun hW => iz.below (hW.mono hn₀)
      have hZL : ZLists wr.heap.size wr av G := ⟨ownsRow_outer hown, hIG⟩
      have hop := topen_any av cv G at_ ct zt wr.heap.size (by omega) il wr hZL ((hzt hBw).mono (by omega)) (Nat.le_refl _)
      have hop_t : Hid (openB (zl G) zt = true → ∃ g ∈ zl G, LeqZ g zt) := hide fun h => by
        obtain ⟨u, hu, hle⟩ := openB_true.1 h
        exact ⟨u, hu, (leqT_true.1 hle).2⟩
      have hop_f : Hid (openB (zl G) zt = false → ∀ g ∈ zl G, ¬ LeqZ g zt) := hide fun h g hg hle => by
        have h1 := openB_false.1 h g hg
        have hgp := ((HT.out.mem g).1 hg).1
        obtain ⟨h2, h3, _⟩ := HPk.out.1 g hgp
        have h4 := leqT_true.2 ⟨codeP_ok h3 HPk.out.2.2.1 (by rw [h2, HPk.out.2.2.2]), hle⟩
        rw [h1] at h4; cases h4
      cases hu : openB (zl G) zt with
      | true =>
        have HF : Hid (Taken n ((zl P).take (k + 1)) (zl G)) := hide (by
          rw [HPk.out.2.1]
          exact HT.out.skip (fun u hu => (HPk.out.1 u hu).1) HPk.out.2.2.2 (fun u hu => (HPk.out.1 u hu).2.2) (hop_t.out hu))
        rw [hu] at hop
        clear hu hop_t hop_f
        go_wp2_with fail
        with_reducible refine hop.mono ?_
        rintro e w3 ⟨rfl, hb3⟩
        go_wp2_with fail
        go_roundw
        case rel => exact ⟨k + 1, av, cv, G, by omega, by go_num, rfl, hB.trans (hb3.mono hsr), ownsRow_below hown hb3, hFG.below hb3, HF⟩
        case measure => simp [intOf]; omega
      | false =>
        have HF : Hid (Taken n ((zl P).take (k + 1)) (zl G ++ [zt])) := hide (by
          rw [HPk.out.2.1]
          exact HT.out.take (fun u hu => (HPk.out.1 u hu).1) HPk.out.2.2.2 (fun u hu => (HPk.out.1 u hu).2.2) (hop_f.out hu))
        rw [hu] at hop
        have hzl := codeT_zero HPk.out.2.2.1
        have hz4 := hzl.2.1
        have hz1' := hzl.1
        clear hu hop_t hop_f hzl
        go_wp2_with fail
        with_reducible refine hop.mono ?_
        rintro e w3 ⟨rfl, hb3⟩
        have hB3 := hBw.trans (hb3.mono hBw.size)
        have hs3 := hB3.size
        have hcz := cloneZ_any at_ ct zt n₀ hz4 (by omega) w3 (hzt hB3) (by omega)
        clear hop
        go_wp2_with fail
        with_reducible refine hcz.mono ?_
        rintro e w4 ⟨ac, cc, rfl, hb4, hown4⟩
        clear hcz
        have hs34 := hb3.size
        have hs4 := hb4.size
        have hB24 : Below w2.heap.size w2 w4 := (hB.trans (hb3.mono hsr)).trans (hb4.mono (by omega))
        have hb34 : Below wr.heap.size wr w4 := hb3.trans (hb4.mono hb3.size)
        have hownG := ownsRow_below hown hb34
        have hFG4 := hFG.below hb34
        obtain ⟨gc, cur, hac, hnew⟩ : ∃ gc cur, ac = some ⟨gc, 0, none⟩ ∧ w3.heap.size ≤ gc ∧ w4.heap[gc]? = some (.cells cur 3) ∧ ∀ j, j < zt.length → cur[j]? = some (.int .i64 (zd zt j)) := by
          rcases hown4.2 with ⟨_, h2⟩ | ⟨g', cap', cur, h1, h2, h3, _, _, _, h7⟩
          · omega
          · cases h1
            refine ⟨g', cur, rfl, h2, h3, fun j hj => ?_⟩
            have hx : (cur.toList.take (zt.length * 1))[j]? = (zvals zt)[j]? := by rw [h7]
            rw [zvals_at hj, List.getElem?_take, if_pos (by omega)] at hx
            simpa using hx
        subst hac
        clear hown4
        have HN := hide hnew
        clear hnew
        have hs24 := hB24.size
        go_wp2_with (at_builtin; refine wpList_append_own _ rfl _ _ 22 rfl w2.heap.size 23 i0 (.slice none 0 0) 1 24 Try.underlying22 hi hz0 hz1 hz2 rfl (by decide) _ _ _ rfl (hownG.alloc _) ⟨w4.heap.size, 0, none⟩ 1 1 [.slice (some ⟨gc, 0, none⟩) zt.length cc] rfl rfl (cell_one_new _ _ _) (fun u hu => by simp at hu; subst hu; rfl) (by unfold maxLen; omega) (by omega) (by simp; omega) ?_; intro v' w5 own5 hgrow _; obtain ⟨g', cap', rfl⟩ := ownsRow_succ own5)
        have hB5 : Below w2.heap.size w2 w5 := (hB24.alloc hs24 (.cells #[.slice (some ⟨gc, 0, none⟩) zt.length cc] 23)).grown hgrow (by simp; omega) fun q eq => by
          apply Nat.le_of_not_lt; intro hql
          exact ownBlock_ge hownG (b := q) hql eq.symm
        have hF5 : InF w2.heap.size w5 (G ++ [⟨some ⟨gc, 0, none⟩, cc, zt⟩]) := by
          have h1 : InF w2.heap.size w4 (G ++ [⟨some ⟨gc, 0, none⟩, cc, zt⟩]) := hFG4.snoc ⟨gc, cur, rfl, by have := HN.out.1; omega, HN.out.2.1, hz4, HN.out.2.2⟩
          exact h1.grow hownG hgrow
        go_wp2_with fail
        go_roundw
        case rel => exact ⟨k + 1, some ⟨g', 0, none⟩, cap', G ++ [⟨some ⟨gc, 0, none⟩, cc, zt⟩], by omega, by go_num, by rw [List.length_append]; rfl, hB5, by rw [svals_snoc, List.length_append]; exact own5, hF5, by rw [zl_snoc]; exact HF⟩
        case measure => simp [intOf]; omega
    · obtain rfl : k = P.length := by omega
      have hF : IsFront (zl L) (zl G) := by
        have h1 := HT.out.front
        rw [List.take_of_length_le (by rw [zl_len]; exact Nat.le_refl _)] at h1
        exact h1.congr fun t => by
          unfold zl
          rw [List.mem_map, List.mem_map]
          constructor
          · rintro ⟨s, hs, e⟩; exact ⟨s, HPL.out.1.mem_iff.1 hs, e⟩
          · rintro ⟨s, hs, e⟩; exact ⟨s, HPL.out.1.mem_iff.2 hs, e⟩
      have hO := ownsRow_outer hown
      go_wp2_with fail
      go_ret
      exact ⟨av, cv, G, rfl, hB2.trans (hB.mono hs2), hO, hFG.base hs2, hF⟩

set_option maxRecDepth 100000 in
set_option maxHeartbeats 1000000 in
theorem least_none (a : Option Addr) (cap : Nat) (w : World) :
    Calls Try.prog 7 #[.slice a 0 cap] w fun e w' => e = .returned (.slice none 0 0) ∧ Below w.heap.size w w' := by
  have hcl := cloneL_nil a cap w
  have hso : ∀ (p : Option Addr) (c : Nat) (W : World), Calls Try.prog 13 #[.slice p 0 c, .func (.func 14) #[] #[]] W fun e w' => e = .returned (.tuple #[]) ∧ w' = W := fun p c W => AnyF.slices_SortFunc_none { Try.sortSf with } p c (.func (.func 14) #[] #[]) W
  go_enter Try.func7, Try.ntmps7
  go_wp2_with fail
  with_reducible refine hcl.mono ?_
  rintro e w1 ⟨av, cv, rfl, hb1⟩
  go_wp2_with fail
  with_reducible refine (hso av cv w1).mono ?_
  rintro e w2 ⟨rfl, hww⟩
  rw [hww]
  clear hww
  go_wp2_with fail
  go_loop [4, 13] (fun fr i => fr = .slice none 0 0 ∧ i = .int .i64 (0 : Nat)) (fun _ _ => 0)
  case atStart => exact ⟨rfl, rfl⟩
  case round =>
    obtain ⟨rfl, rfl⟩ := hrel
    go_wp2_with fail
    go_ret
    exact ⟨rfl, hb1⟩
theorem least_any (a : Option Addr) (cap : Nat) (L : List Sl) (n₀ : Nat) (hc : codeL (zl L) = 0) (w : World) (hw : ZLists n₀ w a L) (hn₀ : n₀ ≤ w.heap.size) :
    Calls Try.prog 7 #[.slice a L.length cap] w fun e w' => ∃ av cv S, e = .returned (.slice av S.length cv) ∧ Below w.heap.size w w' ∧ Outer w'.heap.size w' av S ∧ InF w.heap.size w' S ∧ IsFront (zl L) (zl S) := by
  by_cases h0 : 0 < L.length
  · exact least_some a cap L n₀ hc h0 w hw hn₀
  · obtain rfl : L = [] := List.length_eq_zero_iff.1 (by omega)
    refine (least_none a cap w).mono ?_
    rintro e w' ⟨h1, h2⟩
    exact ⟨none, 0, [], h1, h2, .inl rfl, InF.nil _ _, ⟨List.Pairwise.nil, fun t => by simp [zl, MinIn]⟩⟩
set_option maxRecDepth 100000 in
set_option maxHeartbeats 1000000 in
theorem Front_any (a : Option Addr) (cap : Nat) (L : List Sl) (n₀ : Nat) (h63 : L.length ≤ 9223372036854775807) (w : World) (hw : ZLists n₀ w a L) (hn₀ : n₀ ≤ w.heap.size) :
    Calls Try.prog 4 #[.slice a L.length cap] w fun e w' => Below w.heap.size w w' ∧ ((codeL (zl L) ≠ 0 ∧ e = joinErr (codeL (zl L))) ∨ (codeL (zl L) = 0 ∧ ∃ av cv S, e = .returned (.tuple #[.slice av S.length cv, .int .i64 0]) ∧ Outer w'.heap.size w' av S ∧ InF w.heap.size w' S ∧ IsFront (zl L) (zl S))) := by
  have s1 := tlist_any a cap L n₀ h63 w hw hn₀
  unfold joinErr
  by_cases hc : codeL (zl L) = 0
  · have s2 : ∀ W, Below w.heap.size w W → _ := fun W hW => least_any a cap L n₀ hc W (hw.below (hW.mono hn₀)) (by have := hW.size; omega)
    rw [hc] at s1 ⊢
    clear hc
    go_enter Try.func4, Try.ntmps4
    go_wp2_with fail
    with_reducible refine s1.mono ?_
    rintro e w1 ⟨rfl, hb1⟩
    have s3 := s2 w1 hb1
    have hs1 := hb1.size
    clear s1 s2
    go_wp2_with fail
    with_reducible refine s3.mono ?_
    rintro e w2 ⟨av, cv, S, rfl, hb2, hO, hF, hI⟩
    go_wp2_with fail
    go_ret2
    exact ⟨hb1.trans (hb2.mono hs1), .inr ⟨trivial, av, cv, S, rfl, hO, hF.base hs1, hI⟩⟩
  · have HC := hide hc
    have e1 : (codeL (zl L) != 0) = true := by rw [bne_iff_ne]; exact hc
    clear hc
    generalize codeL (zl L) = c at *
    go_enter Try.func4, Try.ntmps4
    go_wp2_with fail
    with_reducible refine s1.mono ?_
    rintro e w1 ⟨rfl, hb1⟩
    go_wp2_with fail
    go_ret2
    exact ⟨hb1, .inl ⟨HC.out, rfl⟩⟩
end Go.Proofs.Ytdknniomgdjbfab
