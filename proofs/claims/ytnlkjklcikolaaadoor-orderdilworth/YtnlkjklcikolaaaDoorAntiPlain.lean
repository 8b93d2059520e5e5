/- What an end comes to by links: plain; and worlds that keep all but some blocks. -/
import Derived.Test.YtnlkjklcikolaaaDoorSplitPlain
import Derived.Test.YtnlkjklcikolaaaDoorReachPlain
import Derived.Test.YtnlkjklcikolaaaDoorKeepX
namespace Go.Proofs.YtnlkjklcikolaaaDoor
open Go.RowKit Go.Shelf

/-- what a call from a leaves of the lower and upper ones, as far as T of its steps -/
structure ComeTo (up : Nat → Nat → Prop) (pv : Nat → Option Nat) (a lo hi : Nat) (T : List Nat) (lo' hi' : Nat) : Prop where
  lt1 : lo' < 4294967296
  lt2 : hi' < 4294967296
  keep1 : ∀ x, hasB lo x = true → hasB lo' x = true
  keep2 : ∀ x, hasB hi x = true → hasB hi' x = true
  has : hasB lo' a = true
  new1 : ∀ x, hasB lo' x = true → hasB lo x = false → x ≠ a → ∀ c, up x c → hasB hi' c = true
  did : ∀ c ∈ T, hasB hi' c = true
  new2 : ∀ b, hasB hi' b = true → hasB hi b = false → ∀ p, pv b = some p → hasB lo' p = true
  dead : ∀ D, Dead up pv D → (∀ c, up a c → D c) → ∀ b, hasB hi' b = true → hasB hi b = false → D b
  org : ∀ x, hasB lo' x = true → hasB lo x = true ∨ x = a ∨ ∃ b, pv b = some x
/-- the whole call -/
structure Came (up : Nat → Nat → Prop) (pv : Nat → Option Nat) (a lo hi lo' hi' : Nat) : Prop where
  lt1 : lo' < 4294967296
  lt2 : hi' < 4294967296
  keep1 : ∀ x, hasB lo x = true → hasB lo' x = true
  keep2 : ∀ x, hasB hi x = true → hasB hi' x = true
  has : hasB lo' a = true
  new1 : ∀ x, hasB lo' x = true → hasB lo x = false → ∀ c, up x c → hasB hi' c = true
  new2 : ∀ b, hasB hi' b = true → hasB hi b = false → ∀ p, pv b = some p → hasB lo' p = true
  dead : ∀ D, Dead up pv D → (∀ c, up a c → D c) → ∀ b, hasB hi' b = true → hasB hi b = false → D b
  org : ∀ x, hasB lo' x = true → hasB lo x = true ∨ x = a ∨ ∃ b, pv b = some x
theorem ComeTo.start {up : Nat → Nat → Prop} {pv : Nat → Option Nat} {a lo hi : Nat} (h1 : lo < 4294967296) (h2 : hi < 4294967296) (ha : a < 32) : ComeTo up pv a lo hi [] (orW lo (bitW a)) hi where
  lt1 := orW_lt h1 (bitW_lt ha)
  lt2 := h2
  keep1 := fun x hx => by rw [hasB_or, hx]; rfl
  keep2 := fun x hx => hx
  has := by rw [hasB_or, hasB_bitW]; simp
  new1 := fun x hx hn ha => by
    rw [hasB_or, hn, hasB_bitW] at hx
    exact absurd (by simpa using hx) (fun e : a = x => ha e.symm)
  did := by simp
  new2 := fun b hb hn => by rw [hn] at hb; cases hb
  dead := fun D _ _ b hb hn => by rw [hn] at hb; cases hb
  org := fun x hx => by
    rw [hasB_or, hasB_bitW, Bool.or_eq_true, decide_eq_true_iff] at hx
    exact hx.imp id fun e => .inl e.symm
/-- a step over b, where no call follows -/
theorem ComeTo.skip {up : Nat → Nat → Prop} {pv : Nat → Option Nat} {a lo hi lo' hi' b : Nat} {T : List Nat} (H : ComeTo up pv a lo hi T lo' hi') (hb : b < 32) (hu : up a b) (hp : ∀ p, pv b = some p → hasB lo' p = true) : ComeTo up pv a lo hi (T ++ [b]) lo' (orW hi' (bitW b)) where
  lt1 := H.lt1
  lt2 := orW_lt H.lt2 (bitW_lt hb)
  keep1 := H.keep1
  keep2 := fun x hx => by rw [hasB_or, H.keep2 x hx]; rfl
  has := H.has
  new1 := fun x hx hn ha c hc => by rw [hasB_or, H.new1 x hx hn ha c hc]; rfl
  did := fun c hc => by
    rw [hasB_or, hasB_bitW]
    rcases List.mem_append.1 hc with h | h
    · rw [H.did c h]; rfl
    · rw [List.mem_singleton.1 h]; simp
  new2 := fun c hc hn p e => by
    rw [hasB_or, hasB_bitW, Bool.or_eq_true, decide_eq_true_iff] at hc
    rcases hc with h | rfl
    · exact H.new2 c h hn p e
    · exact hp p e
  dead := fun D hD ha c hc hn => by
    rw [hasB_or, hasB_bitW, Bool.or_eq_true, decide_eq_true_iff] at hc
    rcases hc with h | rfl
    · exact H.dead D hD ha c h hn
    · exact ha _ hu
  org := H.org
/-- .. and where one follows -/
theorem ComeTo.call {up : Nat → Nat → Prop} {pv : Nat → Option Nat} {a lo hi lo' hi' b p lo2 hi2 : Nat} {T : List Nat} (H : ComeTo up pv a lo hi T lo' hi') (hb : b < 32) (hu : up a b) (hp : pv b = some p) (C : Came up pv p lo' (orW hi' (bitW b)) lo2 hi2) : ComeTo up pv a lo hi (T ++ [b]) lo2 hi2 := by
  have g1 : ∀ x, hasB hi' x = true → hasB hi2 x = true := fun x hx => C.keep2 x (by rw [hasB_or, hx]; rfl)
  have g2 : hasB hi2 b = true := C.keep2 b (by rw [hasB_or, hasB_bitW]; simp)
  have g3 : ∀ c, hasB hi2 c = true → hasB hi' c = true ∨ c = b ∨ hasB (orW hi' (bitW b)) c = false := fun c hc => by
    cases h : hasB hi' c
    · by_cases e : c = b
      · exact .inr (.inl e)
      · refine .inr (.inr ?_)
        rw [hasB_or, h, hasB_bitW]
        simpa using fun q : b = c => e q.symm
    · exact .inl rfl
  refine ⟨C.lt1, C.lt2, fun x hx => C.keep1 x (H.keep1 x hx), fun x hx => g1 x (H.keep2 x hx), C.keep1 a H.has, ?_, ?_, ?_, ?_, ?_⟩
  · intro x hx hn ha c hc
    cases h : hasB lo' x
    · exact C.new1 x hx h c hc
    · exact g1 c (H.new1 x h hn ha c hc)
  · intro c hc
    rcases List.mem_append.1 hc with h | h
    · exact g1 c (H.did c h)
    · rw [List.mem_singleton.1 h]; exact g2
  · intro c hc hn q e
    rcases g3 c hc with h | rfl | h
    · exact C.keep1 q (H.new2 c h hn q e)
    · rw [hp] at e; cases e; exact C.has
    · exact C.new2 c hc h q e
  · intro D hD ha c hc hn
    rcases g3 c hc with h | rfl | h
    · exact H.dead D hD ha c h hn
    · exact ha _ hu
    · obtain ⟨q, e, f⟩ := hD b (ha b hu)
      rw [hp] at e; cases e
      exact C.dead D hD f c hc h
  · intro x hx
    rcases C.org x hx with h | h | h
    · exact H.org x h
    · exact .inr (.inr ⟨b, by rw [h]; exact hp⟩)
    · exact .inr (.inr h)
theorem ComeTo.done {up : Nat → Nat → Prop} {pv : Nat → Option Nat} {a lo hi lo' hi' : Nat} {T : List Nat} (H : ComeTo up pv a lo hi T lo' hi') (hall : ∀ c, up a c → c ∈ T) : Came up pv a lo hi lo' hi' :=
  ⟨H.lt1, H.lt2, H.keep1, H.keep2, H.has, fun x hx hn c hc => by
    by_cases e : x = a
    · subst e; exact H.did c (hall c hc)
    · exact H.new1 x hx hn e c hc, H.new2, H.dead, H.org⟩
end Go.Proofs.YtnlkjklcikolaaaDoor
