/- The walk of the law PolarCloses: it answers true, and writes nothing that was there. -/
import Derived.Test.YtfdpjnejhacamaaPolAny
namespace Go.Proofs.Ytfdpjnejhacamaa
open Go.RowKit Go.Shelf

set_option maxRecDepth 100000 in
set_option maxHeartbeats 1000000 in
theorem pcloses_bad (n : Int) (a : Option Addr) (cap : Nat) (us : List Nat) (s t : Nat) (hs : s < 4294967296) (ht : t < 4294967296) (n₀ : Nat) (w : World) (hR : Rdy a us n₀ w) (hc : codeCS n us us.length s ≠ 0 ∨ codeCS n us us.length t ≠ 0) :
    Calls Try.prog 6 #[.agg #[.slice a us.length cap, .int .i64 n], .int .u32 s, .int .u32 t] w fun e w' => e = .returned (.bool true) ∧ Below w.heap.size w w' := by
  obtain ⟨r0, hb0, hs0⟩ := one_row w 24 (.slice a us.length cap) (.int .i64 n) rfl
  have R1 := hR.step hb0
  have d1 := Up_any n a cap us s hs n₀ _ R1
  have d2 := Up_any n a cap us t ht n₀
  unfold polAns at d1 d2
  generalize (if codeCS n us us.length s = 0 then upW n.toNat us s else 0) = x at d1
  generalize (if codeCS n us us.length t = 0 then upW n.toNat us t else 0) = y at d2
  generalize codeCS n us us.length s = c1 at *
  generalize codeCS n us us.length t = c2 at *
  have Hb := hide hb0
  clear hb0
  have e1 := code_cases c1
  have e2 := code_cases c2
  go_enter Try.func6, Try.ntmps6
  go_wp2_with fail
  refine d1.mono ?_
  rintro e w1 ⟨rfl, hb1⟩
  have q0 := row_below r0 hb1 r0.lt
  have j0 := q0.cell (i := 0) rfl
  have j1 := q0.cell (i := 1) rfl
  have R2 := R1.step hb1
  have hs1 := hb1.size
  go_wp2_with fail
  refine (d2 w1 R2).mono ?_
  rintro e w2 ⟨rfl, hb2⟩
  clear d1 d2
  have HB := hide ((Hb.out.trans (hb1.mono (by omega))).trans (hb2.mono (by omega)))
  clear hb1 hb2 Hb
  rcases e1 with ⟨h1, e1⟩ | e1
  · rcases e2 with ⟨h2, e2⟩ | e2
    · exact absurd hc (by rw [h1, h2]; simp)
    · clear hc h1
      go_wp2_with fail
      go_ret
      exact ⟨rfl, HB.out⟩
  · clear hc
    go_wp2_with fail
    go_ret
    exact ⟨rfl, HB.out⟩

set_option maxRecDepth 100000 in
set_option maxHeartbeats 1000000 in
theorem pcloses_ok (n : Nat) (a : Option Addr) (cap : Nat) (us : List Nat) (s t : Nat) (hs : s < 4294967296) (ht : t < 4294967296) (n₀ : Nat) (w : World) (hR : Rdy a us n₀ w) (hc1 : codeCS n us us.length s = 0) (hc2 : codeCS n us us.length t = 0) :
    Calls Try.prog 6 #[.agg #[.slice a us.length cap, .int .i64 n], .int .u32 s, .int .u32 t] w fun e w' => e = .returned (.bool true) ∧ Below w.heap.size w w' := by
  obtain ⟨r0, hb0, hs0⟩ := one_row w 24 (.slice a us.length cap) (.int .i64 n) rfl
  have R1 := hR.step hb0
  obtain ⟨hcc, o1⟩ := codeCS_zero hc1
  obtain ⟨_, o2⟩ := codeCS_zero hc2
  obtain ⟨hl16, m', hm', hn16, hin⟩ := codeC_zero hcc
  obtain rfl : n = m' := by omega
  have oS := only_of hs o1
  have oT := only_of ht o2
  obtain ⟨x, hx⟩ : ∃ x, upW n us s = x := ⟨_, rfl⟩
  obtain ⟨y, hy⟩ : ∃ y, upW n us t = y := ⟨_, rfl⟩
  obtain ⟨z, hz⟩ : ∃ z, dnW us x = z := ⟨_, rfl⟩
  have lx : x < 4294967296 := hx ▸ upW_lt hn16 us s
  have ly : y < 4294967296 := hy ▸ upW_lt hn16 us t
  have lz : z < 4294967296 := hz ▸ dnW_lt hl16 x
  have d1 := Up_ok n a cap us s hs n₀ _ R1 hc1
  have d2 := fun W hW => Up_ok n a cap us t ht n₀ W hW hc2
  have d3 := fun W hW => Down_ok n a cap us x lx n₀ W hW (codeCS_ok hcc (outside_of (hx ▸ only_up n us s)))
  have d4 := fun W hW => Up_ok n a cap us z lz n₀ W hW (codeCS_ok hcc (outside_of (hz ▸ only_dn us lx)))
  have d5 := fun W hW => Up_ok n a cap us (orW s t) (orW_lt hs ht) n₀ W hW (codeCS_ok hcc (outside_of (only_or oS oT)))
  have hzx : upW n us z = x := by rw [← hz, ← hx, up_dn_up hn16 oS]
  have hsz : orW s z = z := sub_or.2 (by rw [← hz, ← hx]; exact up_dn hn16 oS)
  have hall : upW n us (orW s t) = andW x y := by rw [up_or, hx, hy]
  have e1 := bits_or32 s z hs lz
  have e2 := bits_or32 s t hs ht
  have e3 := bits_and32 x y lx ly
  have e4 := bits_or32 x y lx ly
  have hlast : (((orW s t : Nat) : Int) != (t : Int)) = true ∨ ((((orW s t : Nat) : Int) != (t : Int)) = false ∧ orW x y = x) := by
    by_cases h : orW s t = t
    · right
      refine ⟨by rw [h]; simp, or_absorb ?_⟩
      rw [← hx, ← hy]
      exact up_anti (sub_or.1 h)
    · left
      rw [bne_iff_ne]; omega
  rw [hx] at d1
  simp only [hy] at d2
  simp only [hz] at d3
  simp only [hzx] at d4
  simp only [hall] at d5
  rw [hsz] at e1
  unfold polAns at d1 d2 d3 d4 d5
  have Hb := hide hb0
  clear hb0 hc1 hc2 hcc o1 o2 hin oS oT hx hy hz hzx hsz hall
  generalize orW s t = st at *
  generalize andW x y = xy at *
  go_enter Try.func6, Try.ntmps6
  go_wp2_with fail
  refine d1.mono ?_
  rintro e w1 ⟨rfl, hb1⟩
  have q0 := row_below r0 hb1 r0.lt
  have j10 := q0.cell (i := 0) rfl
  have j11 := q0.cell (i := 1) rfl
  have R2 := R1.step hb1
  have hs1 := hb1.size
  go_wp2_with fail
  refine (d2 w1 R2).mono ?_
  rintro e w2 ⟨rfl, hb2⟩
  have q1 := row_below q0 hb2 q0.lt
  have j20 := q1.cell (i := 0) rfl
  have j21 := q1.cell (i := 1) rfl
  have R3 := R2.step hb2
  have hs2 := hb2.size
  clear j10 j11
  go_wp2_with fail
  refine (d3 w2 R3).mono ?_
  rintro e w3 ⟨rfl, hb3⟩
  have q2 := row_below q1 hb3 q1.lt
  have j30 := q2.cell (i := 0) rfl
  have j31 := q2.cell (i := 1) rfl
  have R4 := R3.step hb3
  have hs3 := hb3.size
  clear j20 j21
  go_wp2_with fail
  refine (d4 w3 R4).mono ?_
  rintro e w4 ⟨rfl, hb4⟩
  have q3 := row_below q2 hb4 q2.lt
  have j40 := q3.cell (i := 0) rfl
  have j41 := q3.cell (i := 1) rfl
  have R5 := R4.step hb4
  have hs4 := hb4.size
  clear j30 j31
  go_wp2_with fail
  refine (d5 w4 R5).mono ?_
  rintro e w5 ⟨rfl, hb5⟩
  clear d1 d2 d3 d4 d5
  have HB := hide (((((Hb.out.trans (hb1.mono (by omega))).trans (hb2.mono (by omega))).trans (hb3.mono (by omega))).trans (hb4.mono (by omega))).trans (hb5.mono (by omega)))
  clear hb1 hb2 hb3 hb4 hb5 Hb
  rcases hlast with h | ⟨h, h'⟩
  · go_wp2_with fail
    go_ret
    exact ⟨ret_bool (by simp), HB.out⟩
  · rw [h'] at e4
    go_wp2_with fail
    go_ret
    exact ⟨ret_bool (by simp), HB.out⟩

/-- **PolarCloses answers true, for every context and any two sets, and writes nothing that was there** -/
theorem pcloses_any (n : Int) (a : Option Addr) (cap : Nat) (us : List Nat) (s t : Nat) (hs : s < 4294967296) (ht : t < 4294967296) (n₀ : Nat) (w : World) (hR : Rdy a us n₀ w) :
    Calls Try.prog 6 #[.agg #[.slice a us.length cap, .int .i64 n], .int .u32 s, .int .u32 t] w fun e w' => e = .returned (.bool true) ∧ Below w.heap.size w w' := by
  by_cases h1 : codeCS n us us.length s = 0
  · by_cases h2 : codeCS n us us.length t = 0
    · obtain ⟨_, m, rfl, _⟩ := codeC_zero (codeCS_zero h1).1
      exact pcloses_ok m a cap us s t hs ht n₀ w hR h1 h2
    · exact pcloses_bad n a cap us s t hs ht n₀ w hR (.inr h2)
  · exact pcloses_bad n a cap us s t hs ht n₀ w hR (.inl h1)
end Go.Proofs.Ytfdpjnejhacamaa
