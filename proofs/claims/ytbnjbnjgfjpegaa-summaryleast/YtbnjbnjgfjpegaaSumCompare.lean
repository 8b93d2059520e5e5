/- Package summary's compare: below 0 where the one comes ahead of the other in a front. -/
import Derived.Test.YtbnjbnjgfjpegaaSumFront
import Derived.Test.YtbnjbnjgfjpegaaCmpGen
import Derived.Deep.RegionHeld3
namespace Go.Proofs.Ytbnjbnjgfjpegaa
open Go.RowKit Go.Shelf

/-- what compare tells -/
def cmpS (s r : Sm) : Int := orI [cmpZ s.k r.k, cmpZ s.d r.d, cmpG s.z r.z]
theorem cmpS_neg {n : Nat} {s r : Sm} (hs : OkS n s) (hr : OkS n r) : cmpS s r < 0 ↔ AheadS s r := by
  unfold cmpS AheadS orI
  rcases cmpZ_cases s.k r.k with ⟨h1, h2⟩ | ⟨h1, h2⟩ | ⟨h1, h2⟩
  · rw [h2, if_neg (by omega)]
    exact ⟨fun _ => .inl h1, fun _ => by omega⟩
  · rw [h2, if_neg (by omega)]
    constructor
    · intro h; omega
    · rintro (h | ⟨h, _⟩) <;> omega
  · rw [h2, if_pos rfl]
    unfold orI
    rcases cmpZ_cases s.d r.d with ⟨g1, g2⟩ | ⟨g1, g2⟩ | ⟨g1, g2⟩
    · rw [g2, if_neg (by omega)]
      exact ⟨fun _ => .inr ⟨h1, .inl g1⟩, fun _ => by omega⟩
    · rw [g2, if_neg (by omega)]
      constructor
      · intro h; omega
      · rintro (h | ⟨_, h | ⟨h, _⟩⟩) <;> omega
    · rw [g2, if_pos rfl]
      have hn := cmpG_neg (len_of hs hr h1)
      have e : (orI [cmpG s.z r.z]) = cmpG s.z r.z := by
        unfold orI
        by_cases h : cmpG s.z r.z = 0
        · rw [if_pos h, h]; rfl
        · rw [if_neg h]
      rw [e, hn]
      constructor
      · intro h; exact .inr ⟨h1, .inr ⟨g1, h⟩⟩
      · rintro (h | ⟨_, h | ⟨_, h⟩⟩)
        · omega
        · omega
        · exact h

/-- what holds while compare reads -/
structure CmpSt (w : World) (k1 d1 : Int) (v1 : Value) (k2 d2 : Int) (v2 : Value) (V : World) : Prop where
  bel : Below w.heap.size w V
  rS : Row V w.heap.size 32 [.int .i64 k1, .int .i64 d1, v1]
  rR : Row V (w.heap.size + 1) 32 [.int .i64 k2, .int .i64 d2, v2]
theorem CmpSt.keep {w : World} {k1 d1 : Int} {v1 : Value} {k2 d2 : Int} {v2 : Value} {V V' : World} (h : CmpSt w k1 d1 v1 k2 d2 v2 V) (hb : Below V.heap.size V V') : CmpSt w k1 d1 v1 k2 d2 v2 V' :=
  ⟨h.bel.trans (hb.mono h.bel.size), row_below h.rS hb h.rS.lt, row_below h.rR hb h.rR.lt⟩
theorem CmpSt.drew {w : World} {k1 d1 : Int} {v1 : Value} {k2 d2 : Int} {v2 : Value} {V : World} (h : CmpSt w k1 d1 v1 k2 d2 v2 V) : CmpSt w k1 d1 v1 k2 d2 v2 V.drew := h.keep (Below.refl _ _).drew
theorem CmpSt.alloc {w : World} {k1 d1 : Int} {v1 : Value} {k2 d2 : Int} {v2 : Value} {V : World} (h : CmpSt w k1 d1 v1 k2 d2 v2 V) (o : Obj) : CmpSt w k1 d1 v1 k2 d2 v2 (V.alloc o) := h.keep ((Below.refl _ _).alloc (Nat.le_refl _) _)
theorem CmpSt.all {w : World} {k1 d1 : Int} {v1 : Value} {k2 d2 : Int} {v2 : Value} {V : World} (h : CmpSt w k1 d1 v1 k2 d2 v2 V) : V.cell? ⟨w.heap.size, 0, none⟩ = some (.int .i64 k1) ∧ V.cell? ⟨w.heap.size, 1, none⟩ = some (.int .i64 d1) ∧ V.cell? ⟨w.heap.size, 2, none⟩ = some v1 ∧ V.cell? ⟨w.heap.size + 1, 0, none⟩ = some (.int .i64 k2) ∧ V.cell? ⟨w.heap.size + 1, 1, none⟩ = some (.int .i64 d2) ∧ V.cell? ⟨w.heap.size + 1, 2, none⟩ = some v2 ∧ CmpSt w k1 d1 v1 k2 d2 v2 V :=
  ⟨h.rS.cell (i := 0) rfl, h.rS.cell (i := 1) rfl, h.rS.cell (i := 2) rfl, h.rR.cell (i := 0) rfl, h.rR.cell (i := 1) rfl, h.rR.cell (i := 2) rfl, h⟩
theorem zrow3 (W : World) (t : TypeId) (x y z : Int) : ZInts (W.heap.size + 1) (W.alloc (.cells #[.int .i64 x, .int .i64 y, .int .i64 z] t)) (some ⟨W.heap.size, 0, none⟩) [x, y, z] := by
  have r : Row (W.alloc (.cells #[.int .i64 x, .int .i64 y, .int .i64 z] t)) W.heap.size t (zvals [x, y, z]) := Row.new W t (zvals [x, y, z])
  exact Row.z r (by omega)

set_option maxRecDepth 100000 in
set_option maxHeartbeats 2000000 in
theorem scompare_any (k1 d1 : Int) (a1 : Option Addr) (cap1 : Nat) (z1 : List Int) (k2 d2 : Int) (a2 : Option Addr) (cap2 : Nat) (z2 : List Int) (n₀ : Nat) (h1 : z1.length ≤ 17592186044416) (w : World) (hz1 : ZInts n₀ w a1 z1) (hz2 : ZInts n₀ w a2 z2) (hn₀ : n₀ ≤ w.heap.size) :
    Calls Try.prog 24 #[.agg #[.int .i64 k1, .int .i64 d1, .slice a1 z1.length cap1], .agg #[.int .i64 k2, .int .i64 d2, .slice a2 z2.length cap2]] w fun e w' => e = .returned (.int .i64 (cmpS ⟨k1, d1, z1⟩ ⟨k2, d2, z2⟩)) ∧ Below w.heap.size w w' ∧ ∃ q os', w' = Go.Sort.grow (w.drewN q) os' := by
  obtain ⟨W0, hW0⟩ : ∃ W, (w.alloc (.cells #[.int .i64 k1, .int .i64 d1, .slice a1 z1.length cap1] 32)).alloc (.cells #[.int .i64 k2, .int .i64 d2, .slice a2 z2.length cap2] 32) = W := ⟨_, rfl⟩
  have hst : CmpSt w k1 d1 (.slice a1 z1.length cap1) k2 d2 (.slice a2 z2.length cap2) W0 := by
    subst hW0
    refine ⟨((Below.refl _ _).alloc (Nat.le_refl _) _).alloc (by simp) _, (Row.new w _ [.int .i64 k1, .int .i64 d1, .slice a1 z1.length cap1]).alloc _, ?_⟩
    have h := Row.new (w.alloc (.cells #[.int .i64 k1, .int .i64 d1, .slice a1 z1.length cap1] 32)) 32 [.int .i64 k2, .int .i64 d2, .slice a2 z2.length cap2]
    simpa using h
  have g3 := fun (V : World) (h : CmpSt w k1 d1 (.slice a1 z1.length cap1) k2 d2 (.slice a2 z2.length cap2) V) => gcmp_any a1 cap1 z1 a2 cap2 z2 n₀ (by omega) V (hz1.below (h.bel.mono hn₀)) (hz2.below (h.bel.mono hn₀))
  have g1 := cmpZ_any k1 k2
  have g2 := cmpZ_any d1 d2
  obtain ⟨x, hx⟩ : ∃ x, cmpZ k1 k2 = x := ⟨_, rfl⟩
  obtain ⟨y, hy⟩ : ∃ x, cmpZ d1 d2 = x := ⟨_, rfl⟩
  obtain ⟨z, hz⟩ : ∃ x, cmpG z1 z2 = x := ⟨_, rfl⟩
  have hres : cmpS ⟨k1, d1, z1⟩ ⟨k2, d2, z2⟩ = orI [x, y, z] := by rw [← hx, ← hy, ← hz]; rfl
  rw [hres]
  rw [hx] at g1
  rw [hy] at g2
  rw [hz] at g3
  have g4 : ∀ V : World, Calls Try.prog 34 #[.slice (some ⟨V.heap.size, 0, none⟩) 3 3] (V.alloc (.cells #[.int .i64 x, .int .i64 y, .int .i64 z] 3)).drew fun e w' => e = .returned (.int .i64 (orI [x, y, z])) ∧ w' = (V.alloc (.cells #[.int .i64 x, .int .i64 y, .int .i64 z] 3)).drew := fun V =>
    or_any (some ⟨V.heap.size, 0, none⟩) 3 [x, y, z] (V.heap.size + 1) (by simp) _ ((zrow3 V _ x y z).below (Below.refl _ _).drew)
  clear hx hy hz hres hz1 hz2
  go_enter Try.func24, Try.ntmps24
  go_wp2_with fail
  go_region_held3 (fun V => V.cell? ⟨w.heap.size, 0, none⟩ = some (.int .i64 k1) ∧ V.cell? ⟨w.heap.size, 1, none⟩ = some (.int .i64 d1) ∧ V.cell? ⟨w.heap.size, 2, none⟩ = some (.slice a1 z1.length cap1) ∧ V.cell? ⟨w.heap.size + 1, 0, none⟩ = some (.int .i64 k2) ∧ V.cell? ⟨w.heap.size + 1, 1, none⟩ = some (.int .i64 d2) ∧ V.cell? ⟨w.heap.size + 1, 2, none⟩ = some (.slice a2 z2.length cap2) ∧ CmpSt w k1 d1 (.slice a1 z1.length cap1) k2 d2 (.slice a2 z2.length cap2) V) ((go_split_ands; first | exact CmpSt.all hst | exact CmpSt.all hst.drew | exact CmpSt.all (by assumption) | exact CmpSt.all (CmpSt.alloc (by assumption) _) | fail))
    (first
      | (go_at_call 35; with_reducible refine (g1 _).mono ?_; rintro e w' ⟨rfl, rfl⟩)
      | (go_at_call 35; with_reducible refine (g2 _).mono ?_; rintro e w' ⟨rfl, rfl⟩)
      | (go_at_call 36; go_split_ands; with_reducible refine (g3 _ (by assumption)).mono ?_; rintro e w' ⟨rfl, rfl⟩)
      | (go_at_call 34; with_reducible refine (g4 _).mono ?_; rintro e w' ⟨rfl, rfl⟩))
  all_goals
    go_split_ands
    go_wp2_with fail
    go_ret
    exact ⟨rfl, CmpSt.bel (by assumption), 1, _, by rw [← hW0, Go.Sort.alloc_eq_grow, Go.Sort.alloc_eq_grow, Go.Sort.alloc_eq_grow, Go.Sort.grow_grow, Go.Sort.grow_grow]; rfl⟩
end Go.Proofs.Ytbnjbnjgfjpegaa
