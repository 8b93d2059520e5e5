/- Fronts of summaries, without a program: their order in a front, and that what is Leq and unlike comes ahead. -/
import Derived.Test.YtbnjbnjgfjpegaaSumPlain
import Derived.Test.YtbnjbnjgfjpegaaTimFront
import Derived.Test.YtbnjbnjgfjpegaaFrontGen
namespace Go.Proofs.Ytbnjbnjgfjpegaa
open Go.RowKit Go.Shelf

/-- which comes ahead: what keeps fewer; then what adds less; then what puts first a lesser one -/
def AheadS (s r : Sm) : Prop := s.k < r.k ∨ s.k = r.k ∧ (s.d < r.d ∨ s.d = r.d ∧ LexZ s.z r.z)
/-- may be, and makes times with so many numbers -/
def OkS (n : Nat) (s : Sm) : Prop := codeS s 4 = 0 ∧ s.out = n
theorem leqM_put {s r : Sm} (hs : Good s 4) (hr : Good r 4) (ho : s.out = r.out) (hl : LeqM s r) (hk : s.k = r.k) : s.d ≤ r.d ∧ s.z.length = r.z.length ∧ LeqZ s.z r.z := by
  have h1 := hs.out4
  have h2 := hr.out4
  have hz : s.z.length = r.z.length := by omega
  have k1 := hs.k1
  refine ⟨?_, hz, fun i hi => ?_⟩
  · have := (hl (s.k.toNat - 1) (by unfold Sm.out; omega)).1
    rwa [Sm.at_add (by omega), Sm.at_add (by omega)] at this
  · have := (hl (s.k.toNat + i) (by unfold Sm.out; omega)).1
    rw [Sm.at_put (by omega), Sm.at_put (by omega)] at this
    rwa [show s.k.toNat + i - s.k.toNat = i by omega, show s.k.toNat + i - r.k.toNat = i by omega] at this
theorem len_of {n : Nat} {s r : Sm} (hs : OkS n s) (hr : OkS n r) (hk : s.k = r.k) : s.z.length = r.z.length := by
  have h1 := (good_of hs.1).out4
  have h2 := (good_of hr.1).out4
  have := hs.2; have := hr.2
  omega
/-- **what fronts of summaries stand on** -/
theorem fronts_sum (n : Nat) : Fronts (OkS n) AheadS (fun s r => leqM s r = true) where
  irrefl := fun {a} _ h => by
    rcases h with h | ⟨_, h | ⟨_, h⟩⟩
    · omega
    · omega
    · exact lex_irrefl _ h
  trans := fun {a b c} ha hb hc h1 h2 => by
    rcases h1 with h1 | ⟨e1, h1⟩
    · rcases h2 with h2 | ⟨e2, _⟩
      · exact .inl (by omega)
      · exact .inl (by omega)
    · rcases h2 with h2 | ⟨e2, h2⟩
      · exact .inl (by omega)
      · refine .inr ⟨by omega, ?_⟩
        rcases h1 with h1 | ⟨f1, h1⟩
        · rcases h2 with h2 | ⟨f2, _⟩
          · exact .inl (by omega)
          · exact .inl (by omega)
        · rcases h2 with h2 | ⟨f2, h2⟩
          · exact .inl (by omega)
          · exact .inr ⟨by omega, flex_trans h1 h2 (len_of ha hb e1)⟩
  total := fun {a b} ha hb hne => by
    rcases Int.lt_trichotomy a.k b.k with h | h | h
    · exact .inl (.inl h)
    · rcases Int.lt_trichotomy a.d b.d with g | g | g
      · exact .inl (.inr ⟨h, .inl g⟩)
      · rcases flex_total (len_of ha hb h) (fun e => hne (Sm.ext' h g e)) with l | l
        · exact .inl (.inr ⟨h, .inr ⟨g, l⟩⟩)
        · exact .inr (.inr ⟨h.symm, .inr ⟨g.symm, l⟩⟩)
      · exact .inr (.inr ⟨h.symm, .inl g⟩)
    · exact .inr (.inl h)
  refl := fun ha => leqM_refl ha.1
  ltrans := fun {a b c} ha hb hc h1 h2 => by
    obtain ⟨p1, l1⟩ := leqM_true.1 h1
    obtain ⟨p2, l2⟩ := leqM_true.1 h2
    have k2 := leqM_keep p2 l2
    refine leqM_true.2 ⟨⟨ha.1, hc.1, by rw [ha.2, hc.2]⟩, fun i hi => ⟨Int.le_trans (l1 i hi).1 (l2 i (by rw [hb.2, ← ha.2]; exact hi)).1, fun ⟨c1, c2⟩ => ?_⟩⟩
    by_cases h : (i : Int) < b.k
    · exact (l2 i (by rw [hb.2, ← ha.2]; exact hi)).2 ⟨h, c2⟩
    · exact (l1 i hi).2 ⟨c1, by omega⟩
  stands := fun {a b} ha hb h hne => by
    obtain ⟨hp, hl⟩ := leqM_true.1 h
    have hk := leqM_keep hp hl
    by_cases e : a.k = b.k
    · obtain ⟨h1, h2, h3⟩ := leqM_put (good_of (n := 4) ha.1) (good_of (n := 4) hb.1) (by rw [ha.2, hb.2]) hl e
      refine .inr ⟨e, ?_⟩
      by_cases f : a.d = b.d
      · exact .inr ⟨f, fleq_lex h2 h3 fun g => hne (Sm.ext' e f g)⟩
      · exact .inl (by omega)
    · exact .inl (by omega)
end Go.Proofs.Ytbnjbnjgfjpegaa
