/- Plain: the table of what two words have in common, and the lattice that an order's tables are. -/
import Derived.Test.YtjbfjdijgfhjfaaDoorLatPlain
import Derived.Test.YtjbfjdijgfhjfaaDoorPlain
import Derived.Test.YtjbfjdijgfhjfaaDoorTurPlain
namespace Go.Proofs.YtjbfjdijgfhjfaaDoor

/-- the place of a word: the first, or as many as there are -/
def idxW (ws : List Nat) (x : Nat) : Nat → Nat
  | 0 => 0
  | k + 1 => if idxW ws x k < k then idxW ws x k else if wd ws k = x then k else k + 1
theorem idxW_le (ws : List Nat) (x : Nat) : ∀ k, idxW ws x k ≤ k
  | 0 => Nat.le_refl _
  | k + 1 => by unfold idxW; have := idxW_le ws x k; split <;> (try split) <;> omega
/-- js is the table of what each two of the words have in common, as far as place k -/
structure NearTo (ws js : List Nat) (k : Nat) : Prop where
  len : js.length = k
  near : ∀ i, i < k → wd js i < ws.length ∧ wd ws (wd js i) = andW (wd ws (i / ws.length)) (wd ws (i % ws.length))
theorem NearTo.start (ws : List Nat) : NearTo ws [] 0 := ⟨rfl, fun i hi => by omega⟩
theorem NearTo.snoc {ws js : List Nat} {a b i : Nat} (h : NearTo ws js (a * ws.length + b)) (hb : b < ws.length) (hi : i < ws.length) (he : wd ws i = andW (wd ws a) (wd ws b)) : NearTo ws (js ++ [i]) (a * ws.length + (b + 1)) := by
  have hn : 0 < ws.length := by omega
  refine ⟨by rw [List.length_append, h.len]; simp; omega, fun k hk => ?_⟩
  have hw : wd (js ++ [i]) k = if k < js.length then wd js k else i := by
    unfold wd
    rw [List.getD_eq_getElem?_getD, List.getD_eq_getElem?_getD]
    split
    · rename_i h'; rw [List.getElem?_append_left h']
    · rename_i h'
      have : k = js.length := by rw [h.len] at *; omega
      subst this
      simp
  rw [hw, h.len]
  split
  · rename_i h'; exact h.near k h'
  · have : k = a * ws.length + b := by omega
    subst this
    have e1 : (a * ws.length + b) / ws.length = a := by rw [Nat.add_comm, Nat.add_mul_div_right _ _ hn, Nat.div_eq_of_lt hb]; omega
    have e2 : (a * ws.length + b) % ws.length = b := by rw [Nat.add_comm, Nat.add_mul_mod_self_right, Nat.mod_eq_of_lt hb]
    rw [e1, e2]
    exact ⟨hi, he⟩
/-- two words of which no word is just what both have -/
def NoNear (ws : List Nat) : Prop := ∃ a b, a < ws.length ∧ b < ws.length ∧ ∀ i, i < ws.length → wd ws i ≠ andW (wd ws a) (wd ws b)
/-- has each two of the words one that is just what both have? -/
def nearB (ws : List Nat) : Bool := (List.range ws.length).all fun a => (List.range ws.length).all fun b => (List.range ws.length).any fun i => decide (wd ws i = andW (wd ws a) (wd ws b))
theorem nearB_true {ws : List Nat} : nearB ws = true ↔ ¬ NoNear ws := by
  unfold nearB NoNear
  constructor
  · rintro h ⟨a, b, ha, hb, hno⟩
    have h1 := List.all_eq_true.1 (List.all_eq_true.1 h a (List.mem_range.2 ha)) b (List.mem_range.2 hb)
    obtain ⟨i, hi, he⟩ := List.any_eq_true.1 h1
    exact hno i (List.mem_range.1 hi) (of_decide_eq_true he)
  · intro h
    refine List.all_eq_true.2 fun a ha => List.all_eq_true.2 fun b hb => ?_
    apply Classical.byContradiction
    intro hn
    refine h ⟨a, b, List.mem_range.1 ha, List.mem_range.1 hb, fun i hi he => hn ?_⟩
    exact List.any_eq_true.2 ⟨i, List.mem_range.2 hi, decide_eq_true he⟩
theorem nearB_false {ws : List Nat} : nearB ws = false ↔ NoNear ws := by
  constructor
  · intro h
    apply Classical.byContradiction
    intro hn
    rw [nearB_true.2 hn] at h
    cases h
  · intro h
    cases hb : nearB ws with
    | false => rfl
    | true => exact absurd h (nearB_true.1 hb)
def at2 (js : List Nat) (n a b : Nat) : Nat := wd js (a * n + b)
theorem place_lt {n a b : Nat} (ha : a < n) (hb : b < n) : a * n + b < n * n := by
  have := Nat.mul_le_mul_right n (show a + 1 ≤ n from ha)
  rw [Nat.add_mul] at this
  omega
theorem NearTo.at {ws js : List Nat} (h : NearTo ws js (ws.length * ws.length)) {a b : Nat} (ha : a < ws.length) (hb : b < ws.length) : at2 js ws.length a b < ws.length ∧ wd ws (at2 js ws.length a b) = andW (wd ws a) (wd ws b) := by
  have hn : 0 < ws.length := by omega
  have := h.near _ (place_lt ha hb)
  have e1 : (a * ws.length + b) / ws.length = a := by rw [Nat.add_comm, Nat.add_mul_div_right _ _ hn, Nat.div_eq_of_lt hb]; omega
  have e2 : (a * ws.length + b) % ws.length = b := by rw [Nat.add_comm, Nat.add_mul_mod_self_right, Nat.mod_eq_of_lt hb]
  rw [e1, e2] at this
  exact this
theorem NearTo.none {ws js : List Nat} (h : NearTo ws js (ws.length * ws.length)) : ¬ NoNear ws := by
  rintro ⟨a, b, ha, hb, hno⟩
  have := h.at ha hb
  exact hno _ this.1 this.2

/-- is a below b? -/
def leW (us : List Nat) (a b : Nat) : Prop := hasB (wd us a) b = true
theorem leW_refl {us : List Nat} (ho : IsOrd us) {a : Nat} (ha : a < us.length) : leW us a a := ((ho a ha a ha).1.1 rfl)
theorem leW_anti {us : List Nat} (ho : IsOrd us) {a b : Nat} (ha : a < us.length) (hb : b < us.length) (h1 : leW us a b) (h2 : leW us b a) : a = b := by
  apply Classical.byContradiction
  intro hne
  have := (ho a ha b hb).1.2 hne h1
  unfold leW at h2
  rw [this] at h2
  cases h2
theorem leW_trans {us : List Nat} (ho : IsOrd us) {a b c : Nat} (ha : a < us.length) (hb : b < us.length) (hc : c < us.length) (h1 : leW us a b) (h2 : leW us b c) : leW us a c := (ho a ha b hb).2 c hc h1 h2
theorem tur_le {us ds : List Nat} (hT : Tur us us.length [] ds) {a b : Nat} (ha : a < us.length) (hb : b < us.length) : leW ds a b ↔ leW us b a := by
  unfold leW
  rw [hT.has a ha]
  simp [hb]
/-- first put together with all elements below k -/
def gath (f : Nat → Nat → Nat) (x : Nat) : Nat → Nat
  | 0 => x
  | k + 1 => f (gath f x k) k
theorem gath_lt {f : Nat → Nat → Nat} {n : Nat} (hf : ∀ a b, a < n → b < n → f a b < n) {x : Nat} (hx : x < n) : ∀ k, k ≤ n → gath f x k < n
  | 0, _ => hx
  | k + 1, h => hf _ _ (gath_lt hf hx k (by omega)) (by omega)
/-- the tables of an order are a lattice -/
theorem lat_pre {us ds js ms : List Nat} (ho : IsOrd us) (hT : Tur us us.length [] ds) (hj : NearTo us js (us.length * us.length)) (hm : NearTo ds ms (us.length * us.length)) (h0 : 0 < us.length) :
    Lat us.length (leW us) (at2 js us.length) (at2 ms us.length) (gath (at2 ms us.length) 0 us.length) (gath (at2 js us.length) 0 us.length) := by
  have hl := hT.len
  have jlt : ∀ {x y}, x < us.length → y < us.length → at2 js us.length x y < us.length := fun hx hy => (hj.at hx hy).1
  have hm' : NearTo ds ms (ds.length * ds.length) := by rw [hl]; exact hm
  have mlt : ∀ {x y}, x < us.length → y < us.length → at2 ms us.length x y < us.length := fun hx hy => by
    have := (hm'.at (a := _) (b := _) (by rw [hl]; exact hx) (by rw [hl]; exact hy)).1
    rw [hl] at this
    exact this
  have jle : ∀ {x y z}, x < us.length → y < us.length → z < us.length → (leW us (at2 js us.length x y) z ↔ leW us x z ∧ leW us y z) := by
    intro x y z hx hy hz
    unfold leW
    rw [(hj.at hx hy).2, hasB_and]
    simp
  have lem : ∀ {x y z}, x < us.length → y < us.length → z < us.length → (leW us z (at2 ms us.length x y) ↔ leW us z x ∧ leW us z y) := by
    intro x y z hx hy hz
    rw [← tur_le hT (mlt hx hy) hz, ← tur_le hT hx hz, ← tur_le hT hy hz]
    have := (hm'.at (a := x) (b := y) (by rw [hl]; exact hx) (by rw [hl]; exact hy)).2
    rw [hl] at this
    unfold leW
    rw [this, hasB_and]
    simp
  have glt : ∀ k, k ≤ us.length → gath (at2 js us.length) 0 k < us.length := gath_lt (fun a b ha hb => jlt ha hb) h0
  have hlt : ∀ k, k ≤ us.length → gath (at2 ms us.length) 0 k < us.length := gath_lt (fun a b ha hb => mlt ha hb) h0
  have top : ∀ k, k ≤ us.length → ∀ x, x < k → leW us x (gath (at2 js us.length) 0 k) := by
    intro k
    induction k with
    | zero => intro _ x hx; omega
    | succ k ih =>
      intro hk x hx
      have g := glt k (by omega)
      have hkk : k < us.length := by omega
      have hself := (jle g hkk (jlt g hkk)).1 (leW_refl ho (jlt g hkk))
      show leW us x (at2 js us.length (gath (at2 js us.length) 0 k) k)
      by_cases e : x = k
      · subst e; exact hself.2
      · exact leW_trans ho (by omega) g (jlt g hkk) (ih (by omega) x (by omega)) hself.1
  have bot : ∀ k, k ≤ us.length → ∀ x, x < k → leW us (gath (at2 ms us.length) 0 k) x := by
    intro k
    induction k with
    | zero => intro _ x hx; omega
    | succ k ih =>
      intro hk x hx
      have g := hlt k (by omega)
      have hkk : k < us.length := by omega
      have hself := (lem g hkk (mlt g hkk)).1 (leW_refl ho (mlt g hkk))
      show leW us (at2 ms us.length (gath (at2 ms us.length) 0 k) k) x
      by_cases e : x = k
      · subst e; exact hself.2
      · exact leW_trans ho (mlt g hkk) g (by omega) hself.1 (ih (by omega) x (by omega))
  exact ⟨fun hx => leW_refl ho hx, fun hx hy => leW_anti ho hx hy, fun hx hy hz => leW_trans ho hx hy hz, jlt, mlt, jle, lem, hlt _ (Nat.le_refl _), glt _ (Nat.le_refl _), fun hx => bot _ (Nat.le_refl _) _ hx, fun hx => top _ (Nat.le_refl _) _ hx⟩
/-- words of an order are unlike -/
theorem ord_inj {us : List Nat} (ho : IsOrd us) {a b : Nat} (ha : a < us.length) (hb : b < us.length) (h : wd us a = wd us b) : a = b := by
  refine leW_anti ho ha hb ?_ ?_
  · unfold leW; rw [h]; exact leW_refl ho hb
  · unfold leW; rw [← h]; exact leW_refl ho ha
theorem NearTo.unique {us js ks : List Nat} {k : Nat} (ho : IsOrd us) (h : NearTo us js k) (h' : NearTo us ks k) : js = ks := by
  apply List.ext_getElem (by rw [h.len, h'.len])
  intro i h1 h2
  have hi : i < k := by rw [← h.len]; exact h1
  have := ord_inj ho (h.near i hi).1 (h'.near i hi).1 ((h.near i hi).2.trans (h'.near i hi).2.symm)
  unfold wd at this
  simpa [List.getD_eq_getElem?_getD, List.getElem?_eq_getElem h1, List.getElem?_eq_getElem h2] using this
/-- is the order (ds: upside down) a lattice? -/
def latB (us ds : List Nat) : Bool := !decide (us.length = 0) && nearB us && nearB ds
end Go.Proofs.YtjbfjdijgfhjfaaDoor
