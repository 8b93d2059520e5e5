/- The contracts of the program's choose and each: the down-sets of an order, told one by one. -/
import Derived.Test.YtjbfjdijgfhjfaaDoorTellAny
import Derived.Test.YtjbfjdijgfhjfaaDoorDownAny
namespace Go.Proofs.YtjbfjdijgfhjfaaDoor
open Go.RowKit Go.Shelf

/-- what a caller of choose keeps -/
structure Keeps (F Bt lim : Nat) (w : World) (InvF : World → List Nat → World → Prop) : Prop where
  start : ∀ w₀, Below w.heap.size w w₀ → InvF w₀ [] w₀
  keep : ∀ w₀ p W, InvF w₀ p W → KeepX (· = Bt) w₀ W
  drew : ∀ w₀ p W, InvF w₀ p W → InvF w₀ p W.drew
  tell : ∀ w₀ p s W, Below w.heap.size w w₀ → s < 4294967296 → p.length < 65536 → InvF w₀ p W → Calls Tryd.prog F #[.int .u32 (s : Nat), .pointer (some ⟨Bt, 0, none⟩)] W (Told (InvF w₀) lim (p ++ [s]))
theorem Keeps.step {F Bt lim : Nat} {w w1 : World} {InvF : World → List Nat → World → Prop} (h : Keeps F Bt lim w InvF) (hb : Below w.heap.size w w1) : Keeps F Bt lim w1 InvF :=
  ⟨fun w₀ h0 => h.start w₀ (hb.trans (h0.mono hb.size)), h.keep, h.drew, fun w₀ p s W h0 => h.tell w₀ p s W (hb.trans (h0.mono hb.size))⟩

theorem four_boxes (w : World) (t1 t2 t3 t4 : TypeId) (v1 v2 v3 v4 v5 : Value) {W : World} (h : ((((w.alloc (.cells #[v1] t1)).alloc (.cells #[v2] t2)).alloc (.cells #[v3] t3)).alloc (.cells #[v4] t4)).setCell ⟨w.heap.size + 1 + 1 + 1, 0, none⟩ v5 = W) :
    Boxed W w.heap.size t1 v1 ∧ Boxed W (w.heap.size + 1) t2 v2 ∧ Boxed W (w.heap.size + 1 + 1) t3 v3 ∧ Boxed W (w.heap.size + 1 + 1 + 1) t4 v5 ∧ W.heap.size = w.heap.size + 1 + 1 + 1 + 1 ∧ Below w.heap.size w W := by
  subst h
  have b1 := (((Boxed.new w t1 v1).alloc (.cells #[v2] t2)).alloc (.cells #[v3] t3)).alloc (.cells #[v4] t4)
  have b2 := ((Boxed.new (w.alloc (.cells #[v1] t1)) t2 v2).alloc (.cells #[v3] t3)).alloc (.cells #[v4] t4)
  have b3 := (Boxed.new ((w.alloc (.cells #[v1] t1)).alloc (.cells #[v2] t2)) t3 v3).alloc (.cells #[v4] t4)
  have b4 := Boxed.new (((w.alloc (.cells #[v1] t1)).alloc (.cells #[v2] t2)).alloc (.cells #[v3] t3)) t4 v4
  simp only [World.size_alloc] at b2 b3 b4
  refine ⟨b1.other (by omega) _, b2.other (by omega) _, b3.other (by omega) _, b4.set _, by simp, ?_⟩
  exact (((((Below.refl _ _).alloc (Nat.le_refl _) _).alloc (by simp) _).alloc (by simp; omega) _).alloc (by simp; omega) _).setCell (by simp; omega) _

set_option maxRecDepth 100000 in
set_option maxHeartbeats 1000000 in
theorem choose_any (F : Nat) (hF : F = 27 ∨ F = 27) (Bt : Nat) (au ad : Option Addr) (cu cd : Nat) (us ds : List Nat) (lim : Nat) (w : World) (InvF : World → List Nat → World → Prop)
    (hf : Fit us) (hfd : Fit ds) (hlen : ds.length = us.length) (hl : us.length ≤ 16) (hBt : Bt < w.heap.size) (hall : (tellL us ds us.length 0 0).length ≤ 65536)
    (hwu : ∀ w₀ W, Below w.heap.size w w₀ → KeepX (· = Bt) w₀ W → IsWords w₀.heap.size W au us) (hwd : ∀ w₀ W, Below w.heap.size w w₀ → KeepX (· = Bt) w₀ W → IsWords w₀.heap.size W ad ds) (hK : Keeps F Bt lim w InvF) :
    Calls Tryd.prog 44 #[.slice au us.length cu, .slice ad us.length cd, .func (.func F) #[] #[.pointer (some ⟨Bt, 0, none⟩)]] w fun e w' => ∃ w₀, Below w.heap.size w w₀ ∧ Told (InvF w₀) lim (tellL us ds us.length 0 0) e w' := by
  obtain ⟨W0, hW0⟩ : ∃ W0, ((((w.alloc (.cells #[.slice au us.length cu] 22)).alloc (.cells #[.slice ad us.length cd] 22)).alloc (.cells #[.func (.func F) #[] #[.pointer (some ⟨Bt, 0, none⟩)]] 69)).alloc (.cells #[.nilFunc] 91)).setCell ⟨w.heap.size + 1 + 1 + 1, 0, none⟩ (.func (.func 55) #[] #[.pointer (some ⟨w.heap.size + 1 + 1, 0, none⟩), .pointer (some ⟨w.heap.size + 1 + 1 + 1, 0, none⟩), .pointer (some ⟨w.heap.size, 0, none⟩), .pointer (some ⟨w.heap.size + 1, 0, none⟩)]) = W0 := ⟨_, rfl⟩
  obtain ⟨b1, b2, b3, b4, hs, hb⟩ := four_boxes w _ _ _ _ _ _ _ _ _ hW0
  have hnx := next_any F hF Bt (w.heap.size + 1 + 1) (w.heap.size + 1 + 1 + 1) w.heap.size (w.heap.size + 1) au ad cu cd us ds lim W0 (InvF W0) hf hfd hlen hl (fun W => hwu W0 W hb) (fun W => hwd W0 W hb) (hK.keep W0) (hK.drew W0) b3 (by omega) b4 (by omega) b1 (by omega) b2 (by omega) (fun p s W => hK.tell W0 p s W hb) us.length 0 0 [] W0 (Nat.le_refl _) (by omega) (by omega) (by simpa using hall) (hK.start W0 hb)
  rw [List.nil_append] at hnx
  have c4 := b4.cell
  have c1 := b1.cell
  clear hK hwu hwd hF hall
  go_enter Tryd.func44, Tryd.ntmps44
  go_wp2_with (go_at_call 55; refine hnx.mono ?_)
  have hb' := hb
  clear hb hW0
  rintro e w1 (⟨rfl, hh⟩ | ⟨rfl, hlt, q, hq⟩)
  · go_wp2
    go_ret
    exact ⟨W0, hb', .inl ⟨rfl, hh⟩⟩
  · go_wp2
    go_ret
    exact ⟨W0, hb', .inr ⟨rfl, hlt, q, hq⟩⟩

/-- what each answers, where the order may be -/
def EachAns (InvF : World → List Nat → World → Prop) (w : World) (lim : Nat) (us : List Nat) (e : Ending) (w' : World) : Prop :=
  ∃ ds w₀, Tur us us.length [] ds ∧ Below w.heap.size w w₀ ∧ ((e = .returned (.tuple #[.bool true, .int .i64 0]) ∧ InvF w₀ (allD ds) w') ∨ (e = .returned (.tuple #[.bool false, .int .i64 0]) ∧ lim < (allD ds).length ∧ ∃ p, InvF w₀ p w'))

set_option maxRecDepth 100000 in
set_option maxHeartbeats 1000000 in
theorem each_ok (F : Nat) (hF : F = 27 ∨ F = 27) (Bt : Nat) (a : Option Addr) (cap : Nat) (us : List Nat) (lim n₀ : Nat) (w : World) (InvF : World → List Nat → World → Prop) (hR : Ready a us n₀ w) (hBt : Bt < w.heap.size) (hn : n₀ ≤ Bt) (hc : codeOf us.length us = 0) (hK : Keeps F Bt lim w InvF) :
    Calls Tryd.prog 26 #[.agg #[.int .i64 us.length, .slice a us.length cap], .func (.func F) #[] #[.pointer (some ⟨Bt, 0, none⟩)]] w (EachAns InvF w lim us) := by
  obtain ⟨_, h16, _, hin, hord⟩ := code_zero hc
  have hl16 : us.length ≤ 16 := by omega
  obtain ⟨r0, hb0, hs0⟩ := one_row w 24 (.int .i64 us.length) (.slice a us.length cap) rfl
  have R1 := hR.step hb0
  have hdu := Dual_ok us.length a cap us n₀ R1.fit _ R1.tab R1.wds R1.glo R1.le hc
  have Hb := hide hb0
  have hf := hR.fit
  clear hb0
  go_enter Tryd.func26, Tryd.ntmps26
  go_wp2_with (go_at_call 43; refine hdu.mono ?_; rintro e w2 ⟨g, ds, rfl, hb2, hg1, rD, hTur⟩; have hs2 := hb2.size; have hlD := hTur.len; have q0 := row_below r0 hb2 r0.lt; obtain ⟨rd, hb3, hs3⟩ := one_row w2 24 (.int .i64 us.length) (.slice (some ⟨g, 0, none⟩) us.length us.length) rfl; have p0 := row_below q0 hb3 q0.lt; have ltg := rD.lt; have p1 := row_below rD hb3 ltg; have j1 := p0.cell (i := 1) rfl; have k1 := rd.cell (i := 1) rfl)
  have ht := tell_all hin hord hf (Dn.of_tur hTur)
  have hB3 : Below w.heap.size w (w2.alloc (.cells #[.int .i64 us.length, .slice (some ⟨g, 0, none⟩) us.length us.length] 24)) := (Hb.out.trans (hb2.mono (by omega))).trans (hb3.mono (by omega))
  have hch := choose_any F hF Bt a (some ⟨g, 0, none⟩) cap us.length us ds lim _ InvF hf hTur.fit hlD hl16 (by rw [hs3]; omega) (by rw [ht]; exact allD_len (by omega))
    (fun w₀ W hb hk => by
      have h1 : IsWords n₀ w₀ a us := (hR.wds.below (hB3.mono hR.le)).below (hb.mono (by rw [hs3]; have := hR.le; omega))
      have hsz := hb.size
      exact (h1.below (hk.below (by have := hR.le; omega) (fun k e => by subst e; exact hn))).mono (by have := hR.le; omega))
    (fun w₀ W hb hk => by
      have h1 := row_below p1 hb p1.lt
      exact (hk.row h1 (by omega)).words h1.lt)
    (hK.step hB3)
  rw [ht] at hch
  have HB := hide hB3
  have HT := hide hTur
  clear hdu hF hK hB3 hTur ht
  refine hch.mono ?_
  rintro e w4 ⟨w₀, hb4, (⟨rfl, hh⟩ | ⟨rfl, hlt, q, hq⟩)⟩
  · go_wp2
    go_ret2
    exact ⟨ds, w₀, HT.out, HB.out.trans (hb4.mono (by omega)), .inl ⟨rfl, hh⟩⟩
  · go_wp2
    go_ret2
    exact ⟨ds, w₀, HT.out, HB.out.trans (hb4.mono (by omega)), .inr ⟨rfl, hlt, q, hq⟩⟩

set_option maxRecDepth 100000 in
set_option maxHeartbeats 1000000 in
theorem each_bad (fv : Value) (n : Int) (a : Option Addr) (cap : Nat) (us : List Nat) (n₀ : Nat) (w : World) (hR : Ready a us n₀ w) (hc : codeOf n us ≠ 0) :
    Calls Tryd.prog 26 #[.agg #[.int .i64 n, .slice a us.length cap], fv] w fun e w' => e = .returned (.tuple #[.bool false, .int .i64 (codeOf n us)]) ∧ Below w.heap.size w w' := by
  obtain ⟨r0, hb0, hs0⟩ := one_row w 24 (.int .i64 n) (.slice a us.length cap) rfl
  have R1 := hR.step hb0
  have hdu := Dual_bad n a cap us n₀ R1.fit _ R1.tab R1.wds R1.glo R1.le hc
  generalize codeOf n us = c at *
  have hne : (c != 0) = true := by rw [bne_iff_ne]; exact hc
  have Hb := hide hb0
  clear hb0 hc
  go_enter Tryd.func26, Tryd.ntmps26
  go_wp2_with (go_at_call 43; refine hdu.mono ?_; rintro e w2 ⟨rfl, hb2⟩; have hs2 := hb2.size)
  go_ret2
  exact ⟨rfl, (Hb.out.trans (hb2.mono (by omega))).alloc (by omega) _⟩
end Go.Proofs.YtjbfjdijgfhjfaaDoor
