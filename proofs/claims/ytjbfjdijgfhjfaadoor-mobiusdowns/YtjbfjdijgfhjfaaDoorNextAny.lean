/- The contract of the closure in the program's choose: it tells all down-sets with some taken in and some left out, until there is enough. -/
import Derived.Test.YtjbfjdijgfhjfaaDoorTellPlain
import Derived.Test.YtjbfjdijgfhjfaaDoorKeepX
import Derived.Test.YtjbfjdijgfhjfaaDoorDownBit
import Derived.StillTailTactics
import Derived.WalkKit
namespace Go.Proofs.YtjbfjdijgfhjfaaDoor
open Go.RowKit Go.Shelf

/-- what a call that tells does with what was told -/
def Told (Inv : List Nat → World → Prop) (lim : Nat) (l : List Nat) (e : Ending) (W : World) : Prop :=
  (e = .returned (.bool true) ∧ Inv l W) ∨ (e = .returned (.bool false) ∧ lim < l.length ∧ ∃ p, Inv p W)

set_option maxRecDepth 100000 in
set_option maxHeartbeats 2000000 in
theorem next_any (F : Nat) (hF : F = 27 ∨ F = 27) (Bt Bq Bn Bu Bd : Nat) (au ad : Option Addr) (cu cd : Nat) (us ds : List Nat) (lim : Nat) (w₀ : World) (Inv : List Nat → World → Prop)
    (hf : Fit us) (hfd : Fit ds) (hlen : ds.length = us.length) (hl : us.length ≤ 16) (hwu : ∀ W, KeepX (· = Bt) w₀ W → IsWords w₀.heap.size W au us) (hwd : ∀ W, KeepX (· = Bt) w₀ W → IsWords w₀.heap.size W ad ds)
    (hInv : ∀ p W, Inv p W → KeepX (· = Bt) w₀ W) (hdr : ∀ p W, Inv p W → Inv p W.drew)
    (fQ : Boxed w₀ Bq 69 (.func (.func F) #[] #[.pointer (some ⟨Bt, 0, none⟩)])) (hQ : Bq ≠ Bt)
    (fN : Boxed w₀ Bn 91 (.func (.func 55) #[] #[.pointer (some ⟨Bq, 0, none⟩), .pointer (some ⟨Bn, 0, none⟩), .pointer (some ⟨Bu, 0, none⟩), .pointer (some ⟨Bd, 0, none⟩)])) (hN : Bn ≠ Bt)
    (fU : Boxed w₀ Bu 22 (.slice au us.length cu)) (hU : Bu ≠ Bt) (fD : Boxed w₀ Bd 22 (.slice ad us.length cd)) (hD : Bd ≠ Bt)
    (htell : ∀ p s W, s < 4294967296 → p.length < 65536 → Inv p W → Calls Tryd.prog F #[.int .u32 (s : Nat), .pointer (some ⟨Bt, 0, none⟩)] W (Told Inv lim (p ++ [s]))) :
    ∀ (k i o : Nat) (p : List Nat) (W : World), k ≤ us.length → i < 4294967296 → o < 4294967296 → (p ++ tellL us ds k i o).length ≤ 65536 → Inv p W →
    Calls Tryd.prog 55 #[.int .i64 (k : Nat), .int .u32 (i : Nat), .int .u32 (o : Nat), .pointer (some ⟨Bq, 0, none⟩), .pointer (some ⟨Bn, 0, none⟩), .pointer (some ⟨Bu, 0, none⟩), .pointer (some ⟨Bd, 0, none⟩)] W (Told Inv lim (p ++ tellL us ds k i o)) := by
  intro k
  induction k with
  | zero =>
    intro i o p W _ hi _ hp hI
    have cQ := ((hInv p W hI).boxed fQ hQ).cell
    have ht := htell p i W hi (by rw [tellL] at hp; simp at hp; omega) hI
    rw [tellL]
    clear htell
    rcases hF with rfl | rfl
    · go_enter Tryd.func55, Tryd.ntmps55
      go_wp2_with (go_at_call 27; refine ht.mono ?_)
      rintro e w1 (⟨rfl, hh⟩ | ⟨rfl, hh⟩)
      all_goals go_wp2
      all_goals go_ret
      · exact .inl ⟨rfl, hh⟩
      · exact .inr ⟨rfl, hh⟩
    · go_enter Tryd.func55, Tryd.ntmps55
      go_wp2_with (go_at_call 27; refine ht.mono ?_)
      rintro e w1 (⟨rfl, hh⟩ | ⟨rfl, hh⟩)
      all_goals go_wp2
      all_goals go_ret
      · exact .inl ⟨rfl, hh⟩
      · exact .inr ⟨rfl, hh⟩
  | succ k ih =>
    intro i o p W hk hi ho hp hI
    have hkl : k < us.length := hk
    have hK0 := hInv p W hI
    obtain ⟨bu, ou, rfl, hbu, hcu⟩ := (hwu W hK0).at hkl
    obtain ⟨bsd, od, rfl, hbd, hcd⟩ := (hwd W hK0).at (i := k) (by omega)
    have cU := (hK0.boxed fU hU).cell
    have cN := (hK0.boxed fN hN).cell
    have cE := hcu k hkl
    have hor1 := bits_or32 o (wd us k) ho (hf k)
    have hor2 := bits_or32 i (wd ds k) hi (hfd k)
    have hh1 := dhas_any i k hi (by omega)
    have hh2 := dhas_any o k ho (by omega)
    rw [tellL] at hp ⊢
    have second : ∀ (q : List Nat) (V : World), Inv q V → hasB o k = false → (q ++ tellL us ds k (orW i (wd ds k)) o).length ≤ 65536 → Calls Tryd.prog 55 #[.int .i64 (k : Nat), .int .u32 (orW i (wd ds k) : Nat), .int .u32 (o : Nat), .pointer (some ⟨Bq, 0, none⟩), .pointer (some ⟨Bn, 0, none⟩), .pointer (some ⟨Bu, 0, none⟩), .pointer (some ⟨Bd, 0, none⟩)] V (Told Inv lim (q ++ tellL us ds k (orW i (wd ds k)) o)) := fun q V hV _ hq =>
      ih _ _ q V (by omega) (orW_lt hi (hfd k)) ho hq hV
    have first' : (p ++ tellL us ds k i (orW o (wd us k))).length ≤ 65536 → Calls Tryd.prog 55 #[.int .i64 (k : Nat), .int .u32 (i : Nat), .int .u32 (orW o (wd us k) : Nat), .pointer (some ⟨Bq, 0, none⟩), .pointer (some ⟨Bn, 0, none⟩), .pointer (some ⟨Bu, 0, none⟩), .pointer (some ⟨Bd, 0, none⟩)] W.drew (Told Inv lim (p ++ tellL us ds k i (orW o (wd us k)))) := fun hq =>
      ih _ _ p W.drew (by omega) hi (orW_lt ho (hf k)) hq (hdr _ _ hI)
    have cells : ∀ (q : List Nat) (V : World), Inv q V → V.cell? ⟨Bn, 0, none⟩ = some (.func (.func 55) #[] #[.pointer (some ⟨Bq, 0, none⟩), .pointer (some ⟨Bn, 0, none⟩), .pointer (some ⟨Bu, 0, none⟩), .pointer (some ⟨Bd, 0, none⟩)]) ∧ V.cell? ⟨Bd, 0, none⟩ = some (.slice (some ⟨bsd, od, none⟩) us.length cd) ∧ V.cell? ⟨bsd, od + k, none⟩ = some (.int .u32 (wd ds k : Nat)) := fun q V hV => by
      have hKV := hInv q V hV
      obtain ⟨b', o', e, _, hc'⟩ := (hwd V hKV).at (i := k) (by omega)
      cases e
      exact ⟨(hKV.boxed fN hN).cell, (hKV.boxed fD hD).cell, hc' k (by omega)⟩
    clear ih hcu hcd htell hwu hwd hK0 hF fQ
    generalize tellL us ds k i (orW o (wd us k)) = L1 at *
    generalize tellL us ds k (orW i (wd ds k)) o = L2 at *
    obtain ⟨K, hK⟩ : ∃ K, k + 1 = K := ⟨_, rfl⟩
    rw [hK]
    have hsub : ((K : Nat) : Int) - 1 = (k : Nat) := by omega
    have hK0 : (((K : Nat) : Int) == 0) = false := by rw [beq_eq_false_iff_ne]; omega
    have hk32 : k < 16 := by omega
    clear hK
    rcases two_ways (hasB i k) with hik | hik
    · rw [hik, if_neg (by simp)] at hp ⊢
      have hp1 : (p ++ L1).length ≤ 65536 := by simp only [List.length_append] at hp ⊢; omega
      have hfst := first' hp1
      rw [hik] at hh1
      clear first'
      rcases two_ways (hasB o k) with hok | hok
      · rw [hok] at hh2
        rw [hok, if_neg (by simp), ← List.append_assoc] at hp ⊢
        have hsec := fun V hV => second (p ++ L1) V hV hok hp
        clear second hik hok
        go_enter Tryd.func55, Tryd.ntmps55
        go_wp2
        refine wp_region_still_tail 14 (by kernel_rfl) (by kernel_rfl) ?_
        simp only [List.take_succ_cons, List.take_zero, List.drop_succ_cons, List.drop_zero]
        repeat (first | (refine no_implicit_lambda% (wpStill_step ?_); intro K hK; go_simp; refine hK _ ?_; clear hK K) | still_call (hh1 _))
        refine no_implicit_lambda% (wpStill_nil ?_)
        show wpList _ _ _ _ _ _
        go_wp2_with (go_at_call 55; refine hfst.mono ?_)
        rintro e w1 (⟨rfl, hI1⟩ | ⟨rfl, hlt, q, hq⟩)
        · obtain ⟨cN2, cD2, cE2⟩ := cells _ w1 hI1
          go_wp2
          refine wp_region_still_tail 13 (by kernel_rfl) (by kernel_rfl) ?_
          simp only [List.take_succ_cons, List.take_zero, List.drop_succ_cons, List.drop_zero]
          repeat (first | (refine no_implicit_lambda% (wpStill_step ?_); intro K hK; go_simp; refine hK _ ?_; clear hK K) | still_call (hh2 _))
          refine no_implicit_lambda% (wpStill_nil ?_)
          show wpList _ _ _ _ _ _
          go_wp2_with (go_at_call 55; refine (hsec _ (hdr _ _ hI1)).mono ?_)
          rintro e w2 (⟨rfl, hh⟩ | ⟨rfl, hlt, q, hq⟩)
          · go_wp2
            go_ret
            exact .inl ⟨rfl, hh⟩
          · go_wp2
            go_ret
            exact .inr ⟨rfl, hlt, q, hq⟩
        · go_wp2
          go_ret
          exact .inr ⟨rfl, by simp only [List.length_append] at hlt ⊢; omega, q, hq⟩
      · rw [hok] at hh2
        rw [hok, if_pos rfl, List.append_nil] at hp ⊢
        clear second hik hok
        go_enter Tryd.func55, Tryd.ntmps55
        go_wp2
        refine wp_region_still_tail 14 (by kernel_rfl) (by kernel_rfl) ?_
        simp only [List.take_succ_cons, List.take_zero, List.drop_succ_cons, List.drop_zero]
        repeat (first | (refine no_implicit_lambda% (wpStill_step ?_); intro K hK; go_simp; refine hK _ ?_; clear hK K) | still_call (hh1 _))
        refine no_implicit_lambda% (wpStill_nil ?_)
        show wpList _ _ _ _ _ _
        go_wp2_with (go_at_call 55; refine hfst.mono ?_)
        rintro e w1 (⟨rfl, hI1⟩ | ⟨rfl, hlt, q, hq⟩)
        · obtain ⟨cN2, cD2, cE2⟩ := cells _ w1 hI1
          go_wp2
          refine wp_region_still_tail 13 (by kernel_rfl) (by kernel_rfl) ?_
          simp only [List.take_succ_cons, List.take_zero, List.drop_succ_cons, List.drop_zero]
          repeat (first | (refine no_implicit_lambda% (wpStill_step ?_); intro K hK; go_simp; refine hK _ ?_; clear hK K) | still_call (hh2 _))
          refine no_implicit_lambda% (wpStill_nil ?_)
          show wpList _ _ _ _ _ _
          go_wp2
          go_ret
          exact .inl ⟨rfl, hdr _ _ hI1⟩
        · go_wp2
          go_ret
          exact .inr ⟨rfl, hlt, q, hq⟩
    · rw [hik, if_pos rfl, List.nil_append] at hp ⊢
      rw [hik] at hh1
      clear first'
      have hId := hdr _ _ hI
      obtain ⟨V, hV⟩ : ∃ V, ({ heap := W.heap, tape := W.tape, drawn := W.drawn + 1, os := W.os, output := W.output } : World) = V := ⟨_, rfl⟩
      rw [show W.drew = V from hV] at hId
      obtain ⟨cN2, cD2, cE2⟩ := cells p V hId
      rcases two_ways (hasB o k) with hok | hok
      · rw [hok] at hh2
        rw [hok, if_neg (by simp)] at hp ⊢
        go_enter Tryd.func55, Tryd.ntmps55
        go_wp2
        refine wp_region_still_tail 14 (by kernel_rfl) (by kernel_rfl) ?_
        simp only [List.take_succ_cons, List.take_zero, List.drop_succ_cons, List.drop_zero]
        repeat (first | (refine no_implicit_lambda% (wpStill_step ?_); intro K hK; go_simp; refine hK _ ?_; clear hK K) | still_call (hh1 _))
        refine no_implicit_lambda% (wpStill_nil ?_)
        show wpList _ _ _ _ _ _
        go_wp2
        clear hV cU cN cE
        refine wp_region_still_tail 13 (by kernel_rfl) (by kernel_rfl) ?_
        simp only [List.take_succ_cons, List.take_zero, List.drop_succ_cons, List.drop_zero]
        repeat (first | (refine no_implicit_lambda% (wpStill_step ?_); intro K hK; go_simp; refine hK _ ?_; clear hK K) | still_call (hh2 _))
        refine no_implicit_lambda% (wpStill_nil ?_)
        show wpList _ _ _ _ _ _
        go_wp2_with (go_at_call 55; refine (second _ _ (hdr _ _ hId) hok hp).mono ?_)
        rintro e w2 (⟨rfl, hh⟩ | ⟨rfl, hlt, q, hq⟩)
        · go_wp2
          go_ret
          exact .inl ⟨rfl, hh⟩
        · go_wp2
          go_ret
          exact .inr ⟨rfl, hlt, q, hq⟩
      · rw [hok] at hh2
        rw [hok, if_pos rfl, List.append_nil]
        go_enter Tryd.func55, Tryd.ntmps55
        go_wp2
        refine wp_region_still_tail 14 (by kernel_rfl) (by kernel_rfl) ?_
        simp only [List.take_succ_cons, List.take_zero, List.drop_succ_cons, List.drop_zero]
        repeat (first | (refine no_implicit_lambda% (wpStill_step ?_); intro K hK; go_simp; refine hK _ ?_; clear hK K) | still_call (hh1 _))
        refine no_implicit_lambda% (wpStill_nil ?_)
        show wpList _ _ _ _ _ _
        go_wp2
        clear hV cU cN cE
        refine wp_region_still_tail 13 (by kernel_rfl) (by kernel_rfl) ?_
        simp only [List.take_succ_cons, List.take_zero, List.drop_succ_cons, List.drop_zero]
        repeat (first | (refine no_implicit_lambda% (wpStill_step ?_); intro K hK; go_simp; refine hK _ ?_; clear hK K) | still_call (hh2 _))
        refine no_implicit_lambda% (wpStill_nil ?_)
        show wpList _ _ _ _ _ _
        go_wp2
        go_ret
        exact .inl ⟨rfl, hdr _ _ hId⟩
end Go.Proofs.YtjbfjdijgfhjfaaDoor
