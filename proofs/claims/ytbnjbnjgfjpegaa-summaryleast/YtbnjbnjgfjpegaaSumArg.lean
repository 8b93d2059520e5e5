/- What a walk is told of a slice of numbers. -/
import Derived.Test.YtbnjbnjgfjpegaaSumPlain
namespace Go.Proofs.Ytbnjbnjgfjpegaa
open Go.RowKit Go.Shelf

/-- what the walks are told of a slice of numbers that came in -/
structure SArg (n₀ : Nat) (W : World) (a : Option Addr) (cap : Nat) (zs : List Int) : Prop where
  lies : ZInts n₀ W a zs
  nil : a = none → cap = 0
  cap : zs.length ≤ cap
  len : zs.length ≤ 17592186044416
theorem SArg.below {n₀ : Nat} {A B : World} {a : Option Addr} {cap : Nat} {zs : List Int} (h : SArg n₀ A a cap zs) (hb : Below n₀ A B) : SArg n₀ B a cap zs := ⟨h.lies.below hb, h.nil, h.cap, h.len⟩
theorem SArg.len63 {n₀ : Nat} {A : World} {a : Option Addr} {cap : Nat} {zs : List Int} (h : SArg n₀ A a cap zs) : zs.length ≤ 9223372036854775807 := Nat.le_trans h.len (by decide)

theorem SArg.mono {n m : Nat} {W : World} {a : Option Addr} {cap : Nat} {zs : List Int} (h : SArg n W a cap zs) (hn : n ≤ m) : SArg m W a cap zs := ⟨h.lies.mono hn, h.nil, h.cap, h.len⟩
theorem SArg.step {A B : World} {a : Option Addr} {cap : Nat} {zs : List Int} (h : SArg A.heap.size A a cap zs) (hb : Below A.heap.size A B) : SArg B.heap.size B a cap zs := (h.below hb).mono hb.size
/-- what a call owns, a walk may read -/
theorem own_arg {W : World} {n : Nat} {av : Option Addr} {cv k : Nat} {l : List Int} (h : W.ownsRow n 3 1 (.slice av k cv) k (zvals l)) (hl : k ≤ 17592186044416) : SArg W.heap.size W av cv l := by
  have hk : l.length = k := by have := h.1; rw [zvals_len] at this; omega
  refine ⟨ownsRow_z h, fun e => ?_, ?_, by omega⟩
  · rcases h.2 with ⟨h1, h2⟩ | ⟨g, cap, cur, h1, _⟩
    · cases h1; rfl
    · cases h1; cases e
  · rcases h.2 with ⟨h1, h2⟩ | ⟨g, cap, cur, h1, h2, h3, h4, _⟩
    · omega
    · cases h1; omega
end Go.Proofs.Ytbnjbnjgfjpegaa
