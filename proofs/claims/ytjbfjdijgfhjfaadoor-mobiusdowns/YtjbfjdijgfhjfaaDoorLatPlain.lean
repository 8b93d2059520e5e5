/- Plain mathematics of lattices of numbers below n: joins and meets by what they are below and above. -/
import Derived.Test.YtjbfjdijgfhjfaaDoorWords
namespace Go.Proofs.YtjbfjdijgfhjfaaDoor

/-- le is an order of the numbers below n, with joins j and meets m and ends b and t -/
structure Lat (n : Nat) (le : Nat → Nat → Prop) (j m : Nat → Nat → Nat) (b t : Nat) : Prop where
  refl : ∀ {x}, x < n → le x x
  anti : ∀ {x y}, x < n → y < n → le x y → le y x → x = y
  trans : ∀ {x y z}, x < n → y < n → z < n → le x y → le y z → le x z
  jlt : ∀ {x y}, x < n → y < n → j x y < n
  mlt : ∀ {x y}, x < n → y < n → m x y < n
  jle : ∀ {x y z}, x < n → y < n → z < n → (le (j x y) z ↔ le x z ∧ le y z)
  lem : ∀ {x y z}, x < n → y < n → z < n → (le z (m x y) ↔ le z x ∧ le z y)
  blt : b < n
  tlt : t < n
  ble : ∀ {x}, x < n → le b x
  let_ : ∀ {x}, x < n → le x t
theorem Lat.turn {n : Nat} {le : Nat → Nat → Prop} {j m : Nat → Nat → Nat} {b t : Nat} (L : Lat n le j m b t) : Lat n (fun x y => le y x) m j t b :=
  ⟨L.refl, fun hx hy h1 h2 => L.anti hx hy h2 h1, fun hx hy hz h1 h2 => L.trans hz hy hx h2 h1, L.mlt, L.jlt, fun hx hy hz => L.lem hx hy hz, fun hx hy hz => L.jle hx hy hz, L.tlt, L.blt, L.let_, L.ble⟩
section
variable {n : Nat} {le : Nat → Nat → Prop} {j m : Nat → Nat → Nat} {b t : Nat} (L : Lat n le j m b t)
include L
theorem Lat.jl {x y : Nat} (hx : x < n) (hy : y < n) : le x (j x y) := ((L.jle hx hy (L.jlt hx hy)).1 (L.refl (L.jlt hx hy))).1
theorem Lat.jr {x y : Nat} (hx : x < n) (hy : y < n) : le y (j x y) := ((L.jle hx hy (L.jlt hx hy)).1 (L.refl (L.jlt hx hy))).2
theorem Lat.ml {x y : Nat} (hx : x < n) (hy : y < n) : le (m x y) x := ((L.lem hx hy (L.mlt hx hy)).1 (L.refl (L.mlt hx hy))).1
theorem Lat.mr {x y : Nat} (hx : x < n) (hy : y < n) : le (m x y) y := ((L.lem hx hy (L.mlt hx hy)).1 (L.refl (L.mlt hx hy))).2
/-- same above, same element -/
theorem Lat.ext {x y : Nat} (hx : x < n) (hy : y < n) (h : ∀ z, z < n → (le x z ↔ le y z)) : x = y :=
  L.anti hx hy ((h y hy).2 (L.refl hy)) ((h x hx).1 (L.refl hx))
theorem Lat.jcomm {x y : Nat} (hx : x < n) (hy : y < n) : j x y = j y x :=
  L.ext (L.jlt hx hy) (L.jlt hy hx) fun z hz => by rw [L.jle hx hy hz, L.jle hy hx hz]; exact And.comm
theorem Lat.jidem {x : Nat} (hx : x < n) : j x x = x :=
  L.ext (L.jlt hx hx) hx fun z hz => by rw [L.jle hx hx hz]; exact and_self_iff
theorem Lat.jassoc {x y z : Nat} (hx : x < n) (hy : y < n) (hz : z < n) : j x (j y z) = j (j x y) z :=
  L.ext (L.jlt hx (L.jlt hy hz)) (L.jlt (L.jlt hx hy) hz) fun v hv => by
    rw [L.jle hx (L.jlt hy hz) hv, L.jle hy hz hv, L.jle (L.jlt hx hy) hz hv, L.jle hx hy hv]; exact and_assoc.symm
theorem Lat.mcomm {x y : Nat} (hx : x < n) (hy : y < n) : m x y = m y x := L.turn.jcomm hx hy
theorem Lat.midem {x : Nat} (hx : x < n) : m x x = x := L.turn.jidem hx
theorem Lat.massoc {x y z : Nat} (hx : x < n) (hy : y < n) (hz : z < n) : m x (m y z) = m (m x y) z := L.turn.jassoc hx hy hz
theorem Lat.le_j {x y : Nat} (hx : x < n) (hy : y < n) : le x y ↔ j x y = y := by
  constructor
  · intro h; exact L.anti (L.jlt hx hy) hy ((L.jle hx hy hy).2 ⟨h, L.refl hy⟩) (L.jr hx hy)
  · intro h; rw [← h]; exact L.jl hx hy
theorem Lat.le_m {x y : Nat} (hx : x < n) (hy : y < n) : le x y ↔ m x y = x := by
  constructor
  · intro h; exact L.anti (L.mlt hx hy) hx (L.ml hx hy) ((L.lem hx hy hx).2 ⟨L.refl hx, h⟩)
  · intro h; rw [← h]; exact L.mr hx hy
theorem Lat.jabs {x y : Nat} (hx : x < n) (hy : y < n) : j x (m x y) = x :=
  L.anti (L.jlt hx (L.mlt hx hy)) hx ((L.jle hx (L.mlt hx hy) hx).2 ⟨L.refl hx, L.ml hx hy⟩) (L.jl hx (L.mlt hx hy))
theorem Lat.mabs {x y : Nat} (hx : x < n) (hy : y < n) : m x (j x y) = x := L.turn.jabs hx hy
theorem Lat.jmono {x y x' y' : Nat} (hx : x < n) (hy : y < n) (hx' : x' < n) (hy' : y' < n) (h1 : le x x') (h2 : le y y') : le (j x y) (j x' y') :=
  (L.jle hx hy (L.jlt hx' hy')).2 ⟨L.trans hx hx' (L.jlt hx' hy') h1 (L.jl hx' hy'), L.trans hy hy' (L.jlt hx' hy') h2 (L.jr hx' hy')⟩
theorem Lat.mmono {x y x' y' : Nat} (hx : x < n) (hy : y < n) (hx' : x' < n) (hy' : y' < n) (h1 : le x x') (h2 : le y y') : le (m x y) (m x' y') :=
  L.turn.jmono hx' hy' hx hy h1 h2
end

/-- the laws of distributive and of modular lattices, and complements -/
def Distr (n : Nat) (j m : Nat → Nat → Nat) : Prop := ∀ a, a < n → ∀ b, b < n → ∀ c, c < n → m a (j b c) = j (m a b) (m a c)
def Modul (n : Nat) (le : Nat → Nat → Prop) (j m : Nat → Nat → Nat) : Prop := ∀ a, a < n → ∀ b, b < n → ∀ c, c < n → le a c → j a (m b c) = m (j a b) c
def Median (n : Nat) (j m : Nat → Nat → Nat) : Prop := ∀ x, x < n → ∀ y, y < n → ∀ z, z < n → j (j (m x y) (m y z)) (m z x) = m (m (j x y) (j y z)) (j z x)
/-- no two elements, one strictly below the other, have the same join and meet with a third -/
def NoPent (n : Nat) (le : Nat → Nat → Prop) (j m : Nat → Nat → Nat) : Prop := ∀ x, x < n → ∀ z, z < n → ∀ y, y < n → le x z → x ≠ z → ¬ (j x y = j z y ∧ m x y = m z y)
/-- no two unlike elements have the same join and meet with a third -/
def NoTwo (n : Nat) (j m : Nat → Nat → Nat) : Prop := ∀ x, x < n → ∀ y, y < n → ∀ z, z < n → j x y = j x z → m x y = m x z → y = z
def lowE (j m : Nat → Nat → Nat) (x y z : Nat) : Nat := j (j (m x y) (m y z)) (m z x)
def highE (j m : Nat → Nat → Nat) (x y z : Nat) : Nat := m (m (j x y) (j y z)) (j z x)
def midE (j m : Nat → Nat → Nat) (x y z : Nat) : Nat := j (lowE j m x y z) (m x (j y z))
def Compl (n : Nat) (j m : Nat → Nat → Nat) (b t : Nat) : Prop := ∀ x, x < n → ∃ y, y < n ∧ j x y = t ∧ m x y = b
section
variable {n : Nat} {le : Nat → Nat → Prop} {j m : Nat → Nat → Nat} {b t : Nat} (L : Lat n le j m b t)
include L
theorem Lat.distr_turn (h : Distr n j m) : Distr n m j := by
  intro x hx y hy z hz
  -- (x ∨ y) ∧ (x ∨ z) = ((x ∨ y) ∧ x) ∨ ((x ∨ y) ∧ z) = x ∨ (z ∧ x) ∨ (z ∧ y)
  have hxy := L.jlt hx hy
  have e1 := h _ hxy x hx z hz
  have e2 : m (j x y) x = x := by rw [L.mcomm hxy hx, L.mabs hx hy]
  have e3 := h z hz x hx y hy
  rw [L.mcomm hz hxy] at e3
  rw [e2, e3, L.jassoc hx (L.mlt hz hx) (L.mlt hz hy), L.mcomm hz hx, L.jabs hx hz, L.mcomm hz hy] at e1
  exact e1.symm
theorem Lat.distr_modul (h : Distr n j m) : Modul n le j m := by
  intro x hx y hy z hz hle
  have := L.distr_turn h x hx y hy z hz
  rw [this, (L.le_j hx hz).1 hle]
theorem Lat.distr_cancel (h : Distr n j m) {x y z : Nat} (hx : x < n) (hy : y < n) (hz : z < n) (h1 : j x y = j x z) (h2 : m x y = m x z) : y = z := by
  have a1 : m y (j x y) = y := by rw [L.jcomm hx hy, L.mabs hy hx]
  have a2 : m z (j x z) = z := by rw [L.jcomm hx hz, L.mabs hz hx]
  rw [h1, h y hy x hx z hz, L.mcomm hy hx, h2] at a1
  rw [← h1, h z hz x hx y hy, L.mcomm hz hx, L.mcomm hz hy] at a2
  exact a1.symm.trans a2
theorem Lat.distr_median (h : Distr n j m) : Median n j m := by
  intro x hx y hy z hz
  have h' := L.distr_turn h
  have hxy := L.mlt hx hy
  have hyz := L.mlt hy hz
  have hzx := L.mlt hz hx
  have hjxy := L.jlt hx hy
  have hjyz := L.jlt hy hz
  have hjzx := L.jlt hz hx
  -- both are: (x ∧ (y ∨ z)) ∨ (y ∧ z)
  have e1 : j (j (m x y) (m y z)) (m z x) = j (m x (j y z)) (m y z) := by
    rw [h x hx y hy z hz, ← L.jassoc hxy hyz hzx, L.jcomm hyz hzx, L.jassoc hxy hzx hyz, L.mcomm hz hx]
  have e2 : m (m (j x y) (j y z)) (j z x) = j (m x (j y z)) (m y z) := by
    have e3 : m (j x y) (j z x) = j x (m y z) := by rw [L.jcomm hz hx]; exact (h' x hx y hy z hz).symm
    have e4 : m (m (j x y) (j y z)) (j z x) = m (j y z) (j x (m y z)) := by
      rw [← e3, L.mcomm hjxy hjyz, L.massoc hjyz hjxy hjzx]
    have e5 : m (j y z) (m y z) = m y z := by
      rw [L.mcomm hjyz hyz]
      exact (L.le_m hyz hjyz).1 (L.trans hyz hy hjyz (L.ml hy hz) (L.jl hy hz))
    rw [e4, h _ hjyz x hx _ hyz, e5, L.mcomm hjyz hx]
  rw [e1, e2]
theorem Lat.median_modul (h : Median n j m) : Modul n le j m := by
  intro x hx y hy z hz hle
  have e := h x hx y hy z hz
  have e1 : m z x = x := by rw [L.mcomm hz hx]; exact (L.le_m hx hz).1 hle
  have e2 : j z x = z := by rw [L.jcomm hz hx]; exact (L.le_j hx hz).1 hle
  have hxy := L.mlt hx hy
  have hyz := L.mlt hy hz
  have hjxy := L.jlt hx hy
  have hjyz := L.jlt hy hz
  rw [e1, e2, L.jcomm hxy hyz, ← L.jassoc hyz hxy hx, L.jcomm hxy hx, L.jabs hx hy, L.jcomm hyz hx, ← L.massoc hjxy hjyz hz, L.mcomm hjyz hz, L.jcomm hy hz, L.mabs hz hy] at e
  exact e
/-- modular, said with the lower one last -/
theorem Lat.modul' (h : Modul n le j m) {x y d : Nat} (hx : x < n) (hy : y < n) (hd : d < n) (hle : le d x) : m x (j y d) = j (m x y) d := by
  have := h d hd y hy x hx hle
  rw [L.mcomm hx (L.jlt hy hd), L.jcomm hy hd, ← this, L.jcomm hd (L.mlt hy hx), L.mcomm hy hx]
theorem Lat.median_distr (h : Median n j m) : Distr n j m := by
  intro x hx y hy z hz
  have hm := L.median_modul h
  have hxy := L.mlt hx hy
  have hyz := L.mlt hy hz
  have hzx := L.mlt hz hx
  have hxz := L.mlt hx hz
  have hjxy := L.jlt hx hy
  have hjyz := L.jlt hy hz
  have hjzx := L.jlt hz hx
  have e := congrArg (m x) (h x hx y hy z hz)
  have r1 : m x (m (m (j x y) (j y z)) (j z x)) = m x (j y z) := by
    rw [L.massoc hx (L.mlt hjxy hjyz) hjzx, L.massoc hx hjxy hjyz, L.mabs hx hy, ← L.massoc hx hjyz hjzx, L.mcomm hjyz hjzx, L.massoc hx hjzx hjyz, L.jcomm hz hx, L.mabs hx hz]
  have hd := L.jlt hxy hzx
  have hdx : le (j (m x y) (m z x)) x := (L.jle hxy hzx hx).2 ⟨L.ml hx hy, L.mr hz hx⟩
  have r2 : j (j (m x y) (m y z)) (m z x) = j (m y z) (j (m x y) (m z x)) := by
    rw [L.jcomm hxy hyz, L.jassoc hyz hxy hzx]
  have r3 : j (m x (m y z)) (j (m x y) (m z x)) = j (m x y) (m z x) := by
    refine (L.le_j (L.mlt hx hyz) hd).1 ?_
    rw [L.massoc hx hy hz]
    exact L.trans (L.mlt hxy hz) hxy hd (L.ml hxy hz) (L.jl hxy hzx)
  rw [r1, r2, L.modul' hm hx hyz hd hdx, r3, L.mcomm hz hx] at e
  exact e.symm
theorem Lat.modul_pent : Modul n le j m ↔ NoPent n le j m := by
  constructor
  · intro h x hx z hz y hy hle hne ⟨e1, e2⟩
    apply hne
    have := h x hx y hy z hz hle
    rw [e1, L.mcomm hy hz, ← e2, L.jabs hx hy, L.mcomm (L.jlt hz hy) hz, L.mabs hz hy] at this
    exact this
  · intro h a ha b hb c hc hle
    apply Classical.byContradiction
    intro hne
    have hbc := L.mlt hb hc
    have hab := L.jlt ha hb
    have hx := L.jlt ha hbc
    have hz := L.mlt hab hc
    have hxz : le (j a (m b c)) (m (j a b) c) := (L.jle ha hbc hz).2 ⟨(L.lem hab hc ha).2 ⟨L.jl ha hb, hle⟩, (L.lem hab hc hbc).2 ⟨L.trans hbc hb hab (L.ml hb hc) (L.jr ha hb), L.mr hb hc⟩⟩
    refine h _ hx _ hz b hb hxz hne ⟨?_, ?_⟩
    · refine L.anti (L.jlt hx hb) (L.jlt hz hb) (L.jmono hx hb hz hb hxz (L.refl hb)) ((L.jle hz hb (L.jlt hx hb)).2 ⟨?_, L.jr hx hb⟩)
      refine L.trans hz hab (L.jlt hx hb) (L.ml hab hc) ((L.jle ha hb (L.jlt hx hb)).2 ⟨?_, L.jr hx hb⟩)
      exact L.trans ha hx (L.jlt hx hb) (L.jl ha hbc) (L.jl hx hb)
    · refine L.anti (L.mlt hx hb) (L.mlt hz hb) (L.mmono hx hb hz hb hxz (L.refl hb)) ((L.lem hx hb (L.mlt hz hb)).2 ⟨?_, L.mr hz hb⟩)
      refine L.trans (L.mlt hz hb) hbc hx ((L.lem hb hc (L.mlt hz hb)).2 ⟨L.mr hz hb, L.trans (L.mlt hz hb) hz hc (L.ml hz hb) (L.mr hab hc)⟩) (L.jr ha hbc)
theorem Lat.modul_turn (h : Modul n le j m) : Modul n (fun x y => le y x) m j := by
  intro x hx y hy z hz hle
  have := h z hz y hy x hx hle
  rw [L.mcomm hx (L.jlt hy hz), L.jcomm hy hz, ← this, L.jcomm hz (L.mlt hy hx), L.mcomm hy hx]
theorem Lat.lowE_lt {x y z : Nat} (hx : x < n) (hy : y < n) (hz : z < n) : lowE j m x y z < n := L.jlt (L.jlt (L.mlt hx hy) (L.mlt hy hz)) (L.mlt hz hx)
theorem Lat.highE_lt {x y z : Nat} (hx : x < n) (hy : y < n) (hz : z < n) : highE j m x y z < n := L.mlt (L.mlt (L.jlt hx hy) (L.jlt hy hz)) (L.jlt hz hx)
theorem Lat.midE_lt {x y z : Nat} (hx : x < n) (hy : y < n) (hz : z < n) : midE j m x y z < n := L.jlt (L.lowE_lt hx hy hz) (L.mlt hx (L.jlt hy hz))
theorem Lat.low_rot {x y z : Nat} (hx : x < n) (hy : y < n) (hz : z < n) : lowE j m y z x = lowE j m x y z := by
  unfold lowE
  rw [L.jcomm (L.jlt (L.mlt hy hz) (L.mlt hz hx)) (L.mlt hx hy), L.jassoc (L.mlt hx hy) (L.mlt hy hz) (L.mlt hz hx)]
theorem Lat.high_rot {x y z : Nat} (hx : x < n) (hy : y < n) (hz : z < n) : highE j m y z x = highE j m x y z := L.turn.low_rot hx hy hz
theorem Lat.low_le_high {x y z : Nat} (hx : x < n) (hy : y < n) (hz : z < n) : le (lowE j m x y z) (highE j m x y z) := by
  have hxy := L.mlt hx hy
  have hyz := L.mlt hy hz
  have hzx := L.mlt hz hx
  have gxy := L.jlt hx hy
  have gyz := L.jlt hy hz
  have gzx := L.jlt hz hx
  have e := L.highE_lt hx hy hz
  have up : ∀ v, v < n → le v (j x y) → le v (j y z) → le v (j z x) → le v (highE j m x y z) := fun v hv a b c =>
    (L.lem (L.mlt gxy gyz) gzx hv).2 ⟨(L.lem gxy gyz hv).2 ⟨a, b⟩, c⟩
  unfold lowE
  refine (L.jle (L.jlt hxy hyz) hzx e).2 ⟨(L.jle hxy hyz e).2 ⟨up _ hxy ?_ ?_ ?_, up _ hyz ?_ ?_ ?_⟩, up _ hzx ?_ ?_ ?_⟩
  · exact L.trans hxy hx gxy (L.ml hx hy) (L.jl hx hy)
  · exact L.trans hxy hy gyz (L.mr hx hy) (L.jl hy hz)
  · exact L.trans hxy hx gzx (L.ml hx hy) (L.jr hz hx)
  · exact L.trans hyz hy gxy (L.ml hy hz) (L.jr hx hy)
  · exact L.trans hyz hy gyz (L.ml hy hz) (L.jl hy hz)
  · exact L.trans hyz hz gzx (L.mr hy hz) (L.jl hz hx)
  · exact L.trans hzx hx gxy (L.mr hz hx) (L.jl hx hy)
  · exact L.trans hzx hz gyz (L.ml hz hx) (L.jr hy hz)
  · exact L.trans hzx hz gzx (L.ml hz hx) (L.jl hz hx)
theorem Lat.two_high (h : Modul n le j m) {x y z : Nat} (hx : x < n) (hy : y < n) (hz : z < n) : j (m x (j y z)) (m y (j z x)) = highE j m x y z := by
  have gxy := L.jlt hx hy
  have gyz := L.jlt hy hz
  have gzx := L.jlt hz hx
  have hA := L.mlt hx gyz
  rw [h _ hA y hy _ gzx (L.trans hA hx gzx (L.ml hx gyz) (L.jr hz hx)), L.jcomm hA hy, h y hy x hx _ gyz (L.jl hy hz), L.jcomm hy hx]
  rfl
theorem Lat.mid_join (h : Modul n le j m) {x y z : Nat} (hx : x < n) (hy : y < n) (hz : z < n) : j (midE j m x y z) (midE j m y z x) = highE j m x y z := by
  have hA := L.mlt hx (L.jlt hy hz)
  have hB := L.mlt hy (L.jlt hz hx)
  have hd := L.lowE_lt hx hy hz
  have hAB := L.jlt hA hB
  unfold midE
  rw [L.low_rot hx hy hz]
  have e : j (j (lowE j m x y z) (m x (j y z))) (j (lowE j m x y z) (m y (j z x))) = j (lowE j m x y z) (j (m x (j y z)) (m y (j z x))) :=
    L.ext (L.jlt (L.jlt hd hA) (L.jlt hd hB)) (L.jlt hd hAB) fun v hv => by
      rw [L.jle (L.jlt hd hA) (L.jlt hd hB) hv, L.jle hd hA hv, L.jle hd hB hv, L.jle hd hAB hv, L.jle hA hB hv]
      exact ⟨fun ⟨⟨a, b⟩, _, c⟩ => ⟨a, b, c⟩, fun ⟨a, b, c⟩ => ⟨⟨a, b⟩, a, c⟩⟩
  rw [e, L.two_high h hx hy hz]
  exact (L.le_j hd (L.highE_lt hx hy hz)).1 (L.low_le_high hx hy hz)
/-- in a modular lattice the middle ones are the same from above -/
theorem Lat.mid_turn (h : Modul n le j m) {x y z : Nat} (hx : x < n) (hy : y < n) (hz : z < n) : midE j m x y z = midE m j x y z := by
  have gxy := L.jlt hx hy
  have gyz := L.jlt hy hz
  have gzx := L.jlt hz hx
  have hd := L.lowE_lt hx hy hz
  have he := L.highE_lt hx hy hz
  have hxy := L.mlt hx hy
  have hyz := L.mlt hy hz
  have hzx := L.mlt hz hx
  have e1 : m x (highE j m x y z) = m x (j y z) := by
    unfold highE
    rw [L.massoc hx (L.mlt gxy gyz) gzx, L.massoc hx gxy gyz, L.mabs hx hy, ← L.massoc hx gyz gzx, L.mcomm gyz gzx, L.massoc hx gzx gyz, L.jcomm hz hx, L.mabs hx hz]
  have e2 : j x (lowE j m x y z) = j x (m y z) := by
    unfold lowE
    rw [L.jassoc hx (L.jlt hxy hyz) hzx, L.jassoc hx hxy hyz, L.jabs hx hy, ← L.jassoc hx hyz hzx, L.jcomm hyz hzx, L.jassoc hx hzx hyz, L.mcomm hz hx, L.jabs hx hz]
  have := h _ hd x hx _ he (L.low_le_high hx hy hz)
  rw [e1, L.jcomm hd hx, e2, L.mcomm (L.jlt hx hyz) he] at this
  exact this
theorem Lat.mid_meet (h : Modul n le j m) {x y z : Nat} (hx : x < n) (hy : y < n) (hz : z < n) : m (midE j m x y z) (midE j m y z x) = lowE j m x y z := by
  rw [L.mid_turn h hx hy hz, L.mid_turn h hy hz hx]
  exact L.turn.mid_join (L.modul_turn h) hx hy hz
theorem Lat.two_modul (h : NoTwo n j m) : Modul n le j m := by
  refine L.modul_pent.2 fun x hx z hz y hy _ hne ⟨e1, e2⟩ => hne (h y hy x hx z hz ?_ ?_)
  · rw [L.jcomm hy hx, e1, L.jcomm hz hy]
  · rw [L.mcomm hy hx, e2, L.mcomm hz hy]
theorem Lat.distr_two : Distr n j m ↔ NoTwo n j m := by
  refine ⟨fun h x hx y hy z hz h1 h2 => L.distr_cancel h hx hy hz h1 h2, fun h => L.median_distr fun x hx y hy z hz => ?_⟩
  have hm := L.two_modul h
  have hp := L.midE_lt hx hy hz
  have hq := L.midE_lt hy hz hx
  have hr := L.midE_lt hz hx hy
  have j1 := L.mid_join hm hx hy hz
  have j2 := L.mid_join hm hy hz hx
  have j3 := L.mid_join hm hz hx hy
  have m1 := L.mid_meet hm hx hy hz
  have m2 := L.mid_meet hm hy hz hx
  have m3 := L.mid_meet hm hz hx hy
  rw [L.high_rot hx hy hz] at j2
  rw [L.low_rot hx hy hz] at m2
  rw [L.high_rot hy hz hx, L.high_rot hx hy hz, L.jcomm hr hp] at j3
  rw [L.low_rot hy hz hx, L.low_rot hx hy hz, L.mcomm hr hp] at m3
  have e := h _ hp _ hq _ hr (j1.trans j3.symm) (m1.trans m3.symm)
  rw [← e, L.jidem hq] at j2
  rw [← e, L.midem hq] at m2
  exact m2.symm.trans j2
theorem Lat.distr_iff_median : Distr n j m ↔ Median n j m := ⟨L.distr_median, L.median_distr⟩
end
end Go.Proofs.YtjbfjdijgfhjfaaDoor
