/- Plain mathematics of chains of links: followed from each element that nothing is linked to, they have each element once. -/
import Derived.Test.YtnlkjklcikolaaaDoorSplitPlain
namespace Go.Proofs.YtnlkjklcikolaaaDoor

/-- links followed from i: what was met, and what comes next -/
inductive Fol (nx : Nat → Option Nat) (i : Nat) : List Nat → Option Nat → Prop
  | start : Fol nx i [] (some i)
  | step {L : List Nat} {x : Nat} : Fol nx i L (some x) → Fol nx i (L ++ [x]) (nx x)
/-- a strict order in which links go up, with a number that falls on the way -/
structure Rise (up : Nat → Nat → Prop) (n : Nat) (rk : Nat → Nat) : Prop where
  lt : ∀ {x y}, up x y → x < n ∧ y < n
  trans : ∀ {x y z}, up x y → up y z → up x z
  fall : ∀ {x y}, up x y → rk y < rk x
theorem Rise.irr {up : Nat → Nat → Prop} {n : Nat} {rk : Nat → Nat} (R : Rise up n rk) {x y : Nat} (h : up x y) : x ≠ y := fun e => by
  subst e; have := R.fall h; omega
section
variable {up : Nat → Nat → Prop} {nx pv : Nat → Option Nat} {n : Nat} {rk : Nat → Nat} (M : Mat up nx pv) (R : Rise up n rk)
include M R
theorem Fol.inv {i : Nat} (hi : i < n) {L : List Nat} {z : Option Nat} (h : Fol nx i L z) : (∀ x ∈ L, x < n) ∧ (∀ y, z = some y → y < n) ∧ L.Pairwise up ∧ (∀ x ∈ L, ∀ y, z = some y → up x y) := by
  induction h with
  | start => exact ⟨by simp, fun y e => by cases e; exact hi, .nil, by simp⟩
  | step h ih =>
    rename_i L x
    obtain ⟨h1, h2, h3, h4⟩ := ih
    have hx := h2 x rfl
    refine ⟨fun y hy => ?_, fun y e => (R.lt (M.isUp e)).2, ?_, fun y hy u e => ?_⟩
    · rcases List.mem_append.1 hy with q | q
      · exact h1 y q
      · rw [List.mem_singleton.1 q]; exact hx
    · rw [List.pairwise_append]
      exact ⟨h3, by simp, fun y hy u hu => by rw [List.mem_singleton.1 hu]; exact h4 y hy x rfl⟩
    · have hu := M.isUp e
      rcases List.mem_append.1 hy with q | q
      · exact R.trans (h4 y q x rfl) hu
      · rw [List.mem_singleton.1 q]; exact hu
omit M R in
theorem Fol.first {i : Nat} {L : List Nat} {z : Option Nat} (h : Fol nx i L z) : (L = [] ∧ z = some i) ∨ i ∈ L := by
  induction h with
  | start => exact .inl ⟨rfl, rfl⟩
  | step h ih =>
    rename_i L x
    rcases ih with ⟨_, e⟩ | q
    · cases e; exact .inr (by simp)
    · exact .inr (List.mem_append_left _ q)
omit M R in
theorem Fol.back {i : Nat} {L : List Nat} {z : Option Nat} (h : Fol nx i L z) : (∀ x ∈ L, x = i ∨ ∃ p ∈ L, nx p = some x) ∧ ∀ y, z = some y → y = i ∨ ∃ p ∈ L, nx p = some y := by
  induction h with
  | start => exact ⟨by simp, fun y e => by cases e; exact .inl rfl⟩
  | step h ih =>
    rename_i L x
    refine ⟨fun y hy => ?_, fun y e => .inr ⟨x, by simp, e⟩⟩
    rcases List.mem_append.1 hy with q | q
    · exact (ih.1 y q).imp id fun ⟨p, hp, e⟩ => ⟨p, List.mem_append_left _ hp, e⟩
    · rw [List.mem_singleton.1 q]
      exact (ih.2 x rfl).imp id fun ⟨p, hp, e⟩ => ⟨p, List.mem_append_left _ hp, e⟩
omit M R in
theorem Fol.on {i : Nat} {L : List Nat} {z : Option Nat} (h : Fol nx i L z) : ∀ x ∈ L, ∀ y, nx x = some y → y ∈ L ∨ z = some y := by
  induction h with
  | start => simp
  | step h ih =>
    rename_i L x
    intro u hu y e
    rcases List.mem_append.1 hu with q | q
    · rcases ih u q y e with r | r
      · exact .inl (List.mem_append_left _ r)
      · cases r; exact .inl (by simp)
    · rw [List.mem_singleton.1 q] at e; exact .inr e
omit R in
theorem Fol.same {i i' : Nat} (hp : pv i = none) (hp' : pv i' = none) {L L' : List Nat} {z z' : Option Nat} (h : Fol nx i L z) (h' : Fol nx i' L' z') : ∀ x, x ∈ L → x ∈ L' → i = i' := by
  induction h with
  | start => simp
  | step h ih =>
    rename_i L x
    intro y hy hy'
    rcases List.mem_append.1 hy with q | q
    · exact ih y q hy'
    · rw [List.mem_singleton] at q
      subst q
      rcases h.back.2 y rfl with e | ⟨p, hpL, e⟩
      · subst e
        rcases h'.back.1 y hy' with e' | ⟨p', _, e'⟩
        · exact e'
        · rw [(M.two p' y).1 e'] at hp; cases hp
      · rcases h'.back.1 y hy' with e' | ⟨p', hp'L, e'⟩
        · subst e'; rw [(M.two p y).1 e] at hp'; cases hp'
        · have a1 := (M.two p y).1 e
          have a2 := (M.two p' y).1 e'
          rw [a1] at a2
          cases a2
          exact ih p hpL hp'L
/-- the chains that begin below k -/
structure Chs (nx pv : Nat → Option Nat) (k : Nat) (cs : List (List Nat)) : Prop where
  from_ : ∀ c ∈ cs, ∃ i, i < k ∧ pv i = none ∧ Fol nx i c none
  all : ∀ i, i < k → pv i = none → ∃ c ∈ cs, Fol nx i c none
  len : cs.length = cntF (fun x => (pv x).isNone) k
  once : cs.flatten.Nodup
omit M R in
theorem cntF_succF (p : Nat → Bool) (k : Nat) : cntF p (k + 1) = cntF p k + if p k then 1 else 0 := by
  unfold cntF
  rw [List.range_succ, List.filter_append, List.length_append]
  cases h : p k <;> simp [h]
omit M R in
theorem Chs.start (nx pv : Nat → Option Nat) : Chs nx pv 0 [] := ⟨by simp, fun i hi => by omega, rfl, by simp⟩
omit M R in
theorem Chs.skip {k : Nat} {cs : List (List Nat)} (h : Chs nx pv k cs) {p : Nat} (hk : pv k = some p) : Chs nx pv (k + 1) cs := by
  refine ⟨fun c hc => ?_, fun i hi e => ?_, ?_, h.once⟩
  · obtain ⟨i, h1, h2⟩ := h.from_ c hc
    exact ⟨i, by omega, h2⟩
  · by_cases q : i = k
    · subst q; rw [hk] at e; cases e
    · exact h.all i (by omega) e
  · rw [h.len, cntF_succF, hk]; simp
theorem Chs.add {k : Nat} (hkn : k < n) {cs : List (List Nat)} (h : Chs nx pv k cs) (hk : pv k = none) {c : List Nat} (hc : Fol nx k c none) : Chs nx pv (k + 1) (cs ++ [c]) := by
  refine ⟨fun d hd => ?_, fun i hi e => ?_, ?_, ?_⟩
  · rcases List.mem_append.1 hd with q | q
    · obtain ⟨i, h1, h2⟩ := h.from_ d q
      exact ⟨i, by omega, h2⟩
    · rw [List.mem_singleton.1 q]; exact ⟨k, by omega, hk, hc⟩
  · by_cases q : i = k
    · subst q; exact ⟨c, by simp, hc⟩
    · obtain ⟨d, h1, h2⟩ := h.all i (by omega) e
      exact ⟨d, List.mem_append_left _ h1, h2⟩
  · rw [List.length_append, h.len, cntF_succF, hk]; simp
  · rw [List.flatten_append, List.nodup_append]
    refine ⟨h.once, ?_, fun x hx y hy e => ?_⟩
    · have := (hc.inv M R hkn).2.2.1
      simp only [List.flatten_cons, List.flatten_nil, List.append_nil]
      exact this.imp fun h => R.irr h
    · subst e
      obtain ⟨d, hd, hxd⟩ := List.mem_flatten.1 hx
      simp only [List.flatten_cons, List.flatten_nil, List.append_nil] at hy
      obtain ⟨i, h1, h2, h3⟩ := h.from_ d hd
      have := Fol.same M h2 hk h3 hc x hxd hy
      omega
theorem Chs.has {cs : List (List Nat)} (h : Chs nx pv n cs) {N : Nat} (hN : ∀ x, rk x ≤ N) : ∀ m x, x < n → N - rk x ≤ m → ∃ c ∈ cs, x ∈ c := by
  intro m
  induction m with
  | zero =>
    intro x hx hm
    cases e : pv x with
    | none =>
      obtain ⟨c, h1, h2⟩ := h.all x hx e
      rcases h2.first with ⟨_, q⟩ | q
      · cases q
      · exact ⟨c, h1, q⟩
    | some p =>
      have hu := M.isUp ((M.two p x).2 e)
      have := R.fall hu
      have := hN p
      omega
  | succ m ih =>
    intro x hx hm
    cases e : pv x with
    | none =>
      obtain ⟨c, h1, h2⟩ := h.all x hx e
      rcases h2.first with ⟨_, q⟩ | q
      · cases q
      · exact ⟨c, h1, q⟩
    | some p =>
      have hn := (M.two p x).2 e
      have hu := M.isUp hn
      have := R.fall hu
      have := hN p
      obtain ⟨c, h1, h2⟩ := ih p (R.lt hu).1 (by omega)
      obtain ⟨i, _, _, h3⟩ := h.from_ c h1
      rcases h3.on p h2 x hn with q | q
      · exact ⟨c, h1, q⟩
      · cases q
theorem Chs.whole {cs : List (List Nat)} (h : Chs nx pv n cs) {N : Nat} (hN : ∀ x, rk x ≤ N) : (∀ x, x < n → ∃ c ∈ cs, x ∈ c) ∧ (∀ c ∈ cs, c.Pairwise up) ∧ (∀ c ∈ cs, ∀ x ∈ c, x < n) ∧ cs.flatten.length = n := by
  have h1 : ∀ x, x < n → ∃ c ∈ cs, x ∈ c := fun x hx => Chs.has M R h hN (N - rk x) x hx (Nat.le_refl _)
  have h3 : ∀ c ∈ cs, ∀ x ∈ c, x < n := fun c hc x hx => by
    obtain ⟨i, hi, _, hF⟩ := h.from_ c hc
    exact (hF.inv M R hi).1 x hx
  refine ⟨h1, fun c hc => ?_, h3, Nat.le_antisymm (nodup_lt h.once fun x hx => ?_) ?_⟩
  · obtain ⟨i, hi, _, hF⟩ := h.from_ c hc
    exact (hF.inv M R hi).2.2.1
  · obtain ⟨c, hc, hx⟩ := List.mem_flatten.1 hx
    exact h3 c hc x hx
  · have := nodup_leN (a := List.range n) (b := cs.flatten) List.nodup_range fun x hx => by
      obtain ⟨c, hc, q⟩ := h1 x (List.mem_range.1 hx)
      exact List.mem_flatten.2 ⟨c, hc, q⟩
    simpa using this
end
end Go.Proofs.YtnlkjklcikolaaaDoor
