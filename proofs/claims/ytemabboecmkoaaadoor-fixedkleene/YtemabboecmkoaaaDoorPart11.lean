/- Plain: the table of what two words have in common, and the lattice that an order's tables are. The contracts of the program's nearest, and of slices.Index at words. -/
import Derived.Test.YtemabboecmkoaaaDoorPart10
import Derived.Test.YtemabboecmkoaaaDoorPart3
import Derived.Test.YtemabboecmkoaaaDoorPart5
import Derived.Test.YtemabboecmkoaaaDoorPart6
import Derived.OwnWalk
namespace Go.Proofs.YtemabboecmkoaaaDoor

/-- the place of a word: the first, or as many as there are -/
def idxW (ws : List Nat) (x : Nat) : Nat → Nat
  | 0 => 0
  | k + 1 => if idxW ws x k < k then idxW ws x k else if wd ws k = x then k else k + 1
theorem idxW_le (ws : List Nat) (x : Nat) : ∀ k, idxW ws x k ≤ k
  | 0 => Nat.le_refl _
  | k + 1 => by unfold idxW; have := idxW_le ws x k; split <;> (try split) <;> omega
/-- js is the table of what each two of the words have in common, as far as place k -/
structure NearTo (ws js : List Nat) (k : Nat) : Prop where
  len : js.length = k
  near : ∀ i, i < k → wd js i < ws.length ∧ wd ws (wd js i) = andW (wd ws (i / ws.length)) (wd ws (i % ws.length))
theorem NearTo.start (ws : List Nat) : NearTo ws [] 0 := ⟨rfl, fun i hi => by omega⟩
theorem NearTo.snoc {ws js : List Nat} {a b i : Nat} (h : NearTo ws js (a * ws.length + b)) (hb : b < ws.length) (hi : i < ws.length) (he : wd ws i = andW (wd ws a) (wd ws b)) : NearTo ws (js ++ [i]) (a * ws.length + (b + 1)) := by
  have hn : 0 < ws.length := by omega
  refine ⟨by rw [List.length_append, h.len]; simp; omega, fun k hk => ?_⟩
  have hw : wd (js ++ [i]) k = if k < js.length then wd js k else i := by
    unfold wd
    rw [List.getD_eq_getElem?_getD, List.getD_eq_getElem?_getD]
    split
    · rename_i h'; rw [List.getElem?_append_left h']
    · rename_i h'
      have : k = js.length := by rw [h.len] at *; omega
      subst this
      simp
  rw [hw, h.len]
  split
  · rename_i h'; exact h.near k h'
  · have : k = a * ws.length + b := by omega
    subst this
    have e1 : (a * ws.length + b) / ws.length = a := by rw [Nat.add_comm, Nat.add_mul_div_right _ _ hn, Nat.div_eq_of_lt hb]; omega
    have e2 : (a * ws.length + b) % ws.length = b := by rw [Nat.add_comm, Nat.add_mul_mod_self_right, Nat.mod_eq_of_lt hb]
    rw [e1, e2]
    exact ⟨hi, he⟩
/-- two words of which no word is just what both have -/
def NoNear (ws : List Nat) : Prop := ∃ a b, a < ws.length ∧ b < ws.length ∧ ∀ i, i < ws.length → wd ws i ≠ andW (wd ws a) (wd ws b)
/-- has each two of the words one that is just what both have? -/
def nearB (ws : List Nat) : Bool := (List.range ws.length).all fun a => (List.range ws.length).all fun b => (List.range ws.length).any fun i => decide (wd ws i = andW (wd ws a) (wd ws b))
theorem nearB_true {ws : List Nat} : nearB ws = true ↔ ¬ NoNear ws := by
  unfold nearB NoNear
  constructor
  · rintro h ⟨a, b, ha, hb, hno⟩
    have h1 := List.all_eq_true.1 (List.all_eq_true.1 h a (List.mem_range.2 ha)) b (List.mem_range.2 hb)
    obtain ⟨i, hi, he⟩ := List.any_eq_true.1 h1
    exact hno i (List.mem_range.1 hi) (of_decide_eq_true he)
  · intro h
    refine List.all_eq_true.2 fun a ha => List.all_eq_true.2 fun b hb => ?_
    apply Classical.byContradiction
    intro hn
    refine h ⟨a, b, List.mem_range.1 ha, List.mem_range.1 hb, fun i hi he => hn ?_⟩
    exact List.any_eq_true.2 ⟨i, List.mem_range.2 hi, decide_eq_true he⟩
theorem nearB_false {ws : List Nat} : nearB ws = false ↔ NoNear ws := by
  constructor
  · intro h
    apply Classical.byContradiction
    intro hn
    rw [nearB_true.2 hn] at h
    cases h
  · intro h
    cases hb : nearB ws with
    | false => rfl
    | true => exact absurd h (nearB_true.1 hb)
def at2 (js : List Nat) (n a b : Nat) : Nat := wd js (a * n + b)
theorem place_lt {n a b : Nat} (ha : a < n) (hb : b < n) : a * n + b < n * n := by
  have := Nat.mul_le_mul_right n (show a + 1 ≤ n from ha)
  rw [Nat.add_mul] at this
  omega
theorem NearTo.at {ws js : List Nat} (h : NearTo ws js (ws.length * ws.length)) {a b : Nat} (ha : a < ws.length) (hb : b < ws.length) : at2 js ws.length a b < ws.length ∧ wd ws (at2 js ws.length a b) = andW (wd ws a) (wd ws b) := by
  have hn : 0 < ws.length := by omega
  have := h.near _ (place_lt ha hb)
  have e1 : (a * ws.length + b) / ws.length = a := by rw [Nat.add_comm, Nat.add_mul_div_right _ _ hn, Nat.div_eq_of_lt hb]; omega
  have e2 : (a * ws.length + b) % ws.length = b := by rw [Nat.add_comm, Nat.add_mul_mod_self_right, Nat.mod_eq_of_lt hb]
  rw [e1, e2] at this
  exact this
theorem NearTo.none {ws js : List Nat} (h : NearTo ws js (ws.length * ws.length)) : ¬ NoNear ws := by
  rintro ⟨a, b, ha, hb, hno⟩
  have := h.at ha hb
  exact hno _ this.1 this.2

/-- is a below b? -/
def leW (us : List Nat) (a b : Nat) : Prop := hasB (wd us a) b = true
theorem leW_refl {us : List Nat} (ho : IsOrd us) {a : Nat} (ha : a < us.length) : leW us a a := ((ho a ha a ha).1.1 rfl)
theorem leW_anti {us : List Nat} (ho : IsOrd us) {a b : Nat} (ha : a < us.length) (hb : b < us.length) (h1 : leW us a b) (h2 : leW us b a) : a = b := by
  apply Classical.byContradiction
  intro hne
  have := (ho a ha b hb).1.2 hne h1
  unfold leW at h2
  rw [this] at h2
  cases h2
theorem leW_trans {us : List Nat} (ho : IsOrd us) {a b c : Nat} (ha : a < us.length) (hb : b < us.length) (hc : c < us.length) (h1 : leW us a b) (h2 : leW us b c) : leW us a c := (ho a ha b hb).2 c hc h1 h2
theorem tur_le {us ds : List Nat} (hT : Tur us us.length [] ds) {a b : Nat} (ha : a < us.length) (hb : b < us.length) : leW ds a b ↔ leW us b a := by
  unfold leW
  rw [hT.has a ha]
  simp [hb]
/-- first put together with all elements below k -/
def gath (f : Nat → Nat → Nat) (x : Nat) : Nat → Nat
  | 0 => x
  | k + 1 => f (gath f x k) k
theorem gath_lt {f : Nat → Nat → Nat} {n : Nat} (hf : ∀ a b, a < n → b < n → f a b < n) {x : Nat} (hx : x < n) : ∀ k, k ≤ n → gath f x k < n
  | 0, _ => hx
  | k + 1, h => hf _ _ (gath_lt hf hx k (by omega)) (by omega)
/-- the tables of an order are a lattice -/
theorem lat_pre {us ds js ms : List Nat} (ho : IsOrd us) (hT : Tur us us.length [] ds) (hj : NearTo us js (us.length * us.length)) (hm : NearTo ds ms (us.length * us.length)) (h0 : 0 < us.length) :
    Lat us.length (leW us) (at2 js us.length) (at2 ms us.length) (gath (at2 ms us.length) 0 us.length) (gath (at2 js us.length) 0 us.length) := by
  have hl := hT.len
  have jlt : ∀ {x y}, x < us.length → y < us.length → at2 js us.length x y < us.length := fun hx hy => (hj.at hx hy).1
  have hm' : NearTo ds ms (ds.length * ds.length) := by rw [hl]; exact hm
  have mlt : ∀ {x y}, x < us.length → y < us.length → at2 ms us.length x y < us.length := fun hx hy => by
    have := (hm'.at (a := _) (b := _) (by rw [hl]; exact hx) (by rw [hl]; exact hy)).1
    rw [hl] at this
    exact this
  have jle : ∀ {x y z}, x < us.length → y < us.length → z < us.length → (leW us (at2 js us.length x y) z ↔ leW us x z ∧ leW us y z) := by
    intro x y z hx hy hz
    unfold leW
    rw [(hj.at hx hy).2, hasB_and]
    simp
  have lem : ∀ {x y z}, x < us.length → y < us.length → z < us.length → (leW us z (at2 ms us.length x y) ↔ leW us z x ∧ leW us z y) := by
    intro x y z hx hy hz
    rw [← tur_le hT (mlt hx hy) hz, ← tur_le hT hx hz, ← tur_le hT hy hz]
    have := (hm'.at (a := x) (b := y) (by rw [hl]; exact hx) (by rw [hl]; exact hy)).2
    rw [hl] at this
    unfold leW
    rw [this, hasB_and]
    simp
  have glt : ∀ k, k ≤ us.length → gath (at2 js us.length) 0 k < us.length := gath_lt (fun a b ha hb => jlt ha hb) h0
  have hlt : ∀ k, k ≤ us.length → gath (at2 ms us.length) 0 k < us.length := gath_lt (fun a b ha hb => mlt ha hb) h0
  have top : ∀ k, k ≤ us.length → ∀ x, x < k → leW us x (gath (at2 js us.length) 0 k) := by
    intro k
    induction k with
    | zero => intro _ x hx; omega
    | succ k ih =>
      intro hk x hx
      have g := glt k (by omega)
      have hkk : k < us.length := by omega
      have hself := (jle g hkk (jlt g hkk)).1 (leW_refl ho (jlt g hkk))
      show leW us x (at2 js us.length (gath (at2 js us.length) 0 k) k)
      by_cases e : x = k
      · subst e; exact hself.2
      · exact leW_trans ho (by omega) g (jlt g hkk) (ih (by omega) x (by omega)) hself.1
  have bot : ∀ k, k ≤ us.length → ∀ x, x < k → leW us (gath (at2 ms us.length) 0 k) x := by
    intro k
    induction k with
    | zero => intro _ x hx; omega
    | succ k ih =>
      intro hk x hx
      have g := hlt k (by omega)
      have hkk : k < us.length := by omega
      have hself := (lem g hkk (mlt g hkk)).1 (leW_refl ho (mlt g hkk))
      show leW us (at2 ms us.length (gath (at2 ms us.length) 0 k) k) x
      by_cases e : x = k
      · subst e; exact hself.2
      · exact leW_trans ho (mlt g hkk) g (by omega) hself.1 (ih (by omega) x (by omega))
  exact ⟨fun hx => leW_refl ho hx, fun hx hy => leW_anti ho hx hy, fun hx hy hz => leW_trans ho hx hy hz, jlt, mlt, jle, lem, hlt _ (Nat.le_refl _), glt _ (Nat.le_refl _), fun hx => bot _ (Nat.le_refl _) _ hx, fun hx => top _ (Nat.le_refl _) _ hx⟩
/-- words of an order are unlike -/
theorem ord_inj {us : List Nat} (ho : IsOrd us) {a b : Nat} (ha : a < us.length) (hb : b < us.length) (h : wd us a = wd us b) : a = b := by
  refine leW_anti ho ha hb ?_ ?_
  · unfold leW; rw [h]; exact leW_refl ho hb
  · unfold leW; rw [← h]; exact leW_refl ho ha
theorem NearTo.unique {us js ks : List Nat} {k : Nat} (ho : IsOrd us) (h : NearTo us js k) (h' : NearTo us ks k) : js = ks := by
  apply List.ext_getElem (by rw [h.len, h'.len])
  intro i h1 h2
  have hi : i < k := by rw [← h.len]; exact h1
  have := ord_inj ho (h.near i hi).1 (h'.near i hi).1 ((h.near i hi).2.trans (h'.near i hi).2.symm)
  unfold wd at this
  simpa [List.getD_eq_getElem?_getD, List.getElem?_eq_getElem h1, List.getElem?_eq_getElem h2] using this
/-- is the order (ds: upside down) a lattice? -/
def latB (us ds : List Nat) : Bool := !decide (us.length = 0) && nearB us && nearB ds
end Go.Proofs.YtemabboecmkoaaaDoor

namespace Go.Proofs.YtemabboecmkoaaaDoor
open Go.RowKit Go.Shelf

set_option maxHeartbeats 400000 in
theorem Index_any (a : Option Addr) (cap : Nat) (us : List Nat) (x n₀ : Nat) (hl : us.length ≤ 16) (w : World) (hw : IsWords n₀ w a us) :
    Calls Tryd.prog 56 #[.slice a us.length cap, .int .u32 (x : Nat)] w fun e w' => w' = w ∧ ∃ r : Int, e = .returned (.int .i64 r) ∧ ((r = -1 ∧ ∀ i, i < us.length → wd us i ≠ x) ∨ ∃ i : Nat, i < us.length ∧ r = (i : Int) ∧ wd us i = x ∧ ∀ j, j < i → wd us j ≠ x) := by
  go_enter Tryd.func56, Tryd.ntmps56
  go_wp2
  go_loop [8] (fun i => ∃ k : Nat, k ≤ us.length ∧ i = .int .i64 k ∧ ∀ j, j < k → wd us j ≠ x) (fun i => us.length - (intOf i).toNat)
  case atStart => exact ⟨0, Nat.zero_le _, rfl, fun j h1 => by omega⟩
  case round =>
    obtain ⟨k, hk, rfl, hall⟩ := hrel
    by_cases hlt : k < us.length
    · obtain ⟨b, off, rfl, hb, hc⟩ := hw.at hlt
      have hck := hc k hlt
      clear hc
      by_cases he : wd us k = x
      · have hd : ((x : Int) == ((wd us k : Nat) : Int)) = true := by rw [beq_iff_eq]; omega
        have He := hide he
        clear he
        go_wp2
        go_ret
        exact ⟨rfl, _, rfl, .inr ⟨k, hlt, rfl, He.out, hall⟩⟩
      · have hd : ((x : Int) == ((wd us k : Nat) : Int)) = false := by rw [beq_eq_false_iff_ne]; omega
        have He := hide he
        clear he
        go_wp2
        go_round
        case rel => exact ⟨k + 1, by omega, by go_num, fun j h1 => by
          by_cases e : j = k
          · rw [e]; exact He.out
          · exact hall j (by omega)⟩
        case measure => simp [intOf]; omega
    · go_wp2
      go_ret
      exact ⟨rfl, _, rfl, .inl ⟨rfl, fun i hi => hall i (by omega)⟩⟩

theorem first_ex (P : Nat → Prop) : ∀ n : Nat, (∃ i, i < n ∧ P i) → ∃ i, i < n ∧ P i ∧ ∀ j, j < i → ¬ P j
  | 0, ⟨i, hi, _⟩ => by omega
  | n + 1, ⟨i, hi, hp⟩ => by
    by_cases h : ∃ i, i < n ∧ P i
    · obtain ⟨i', h1, h2, h3⟩ := first_ex P n h
      exact ⟨i', by omega, h2, h3⟩
    · have : i = n := by
        apply Classical.byContradiction
        intro hne
        exact h ⟨i, by omega, hp⟩
      subst this
      exact ⟨i, hi, hp, fun j hj hpj => h ⟨j, hj, hpj⟩⟩
theorem Index_none (a : Option Addr) (cap : Nat) (us : List Nat) (x n₀ : Nat) (hl : us.length ≤ 16) (w : World) (hw : IsWords n₀ w a us) (hno : ∀ i, i < us.length → wd us i ≠ x) :
    Calls Tryd.prog 56 #[.slice a us.length cap, .int .u32 (x : Nat)] w fun e w' => e = .returned (.int .i64 (-1)) ∧ w' = w :=
  (Index_any a cap us x n₀ hl w hw).mono (by
    rintro e w' ⟨hww, r, rfl, ⟨rfl, _⟩ | ⟨i, hi, _, he, _⟩⟩
    · exact ⟨rfl, hww⟩
    · exact absurd he (hno i hi))
theorem Index_first (a : Option Addr) (cap : Nat) (us : List Nat) (x n₀ k : Nat) (hl : us.length ≤ 16) (w : World) (hw : IsWords n₀ w a us) (hk : k < us.length) (he : wd us k = x) (hno : ∀ i, i < k → wd us i ≠ x) :
    Calls Tryd.prog 56 #[.slice a us.length cap, .int .u32 (x : Nat)] w fun e w' => e = .returned (.int .i64 (k : Nat)) ∧ w' = w :=
  (Index_any a cap us x n₀ hl w hw).mono (by
    rintro e w' ⟨hww, r, rfl, ⟨rfl, hn⟩ | ⟨i, hi, rfl, hei, hfi⟩⟩
    · exact absurd he (hn k hk)
    · obtain rfl : i = k := by
        rcases Nat.lt_trichotomy i k with h | h | h
        · exact absurd hei (hno i h)
        · exact h
        · exact absurd he (hfi k h)
      exact ⟨rfl, hww⟩)

set_option maxRecDepth 100000 in
set_option maxHeartbeats 1000000 in
theorem nearest_any (a : Option Addr) (cap : Nat) (us : List Nat) (n₀ : Nat) (hf : Fit us) (hl : us.length ≤ 16) (w : World) (hw : IsWords n₀ w a us) (hn₀ : n₀ ≤ w.heap.size) :
    Calls Tryd.prog 46 #[.slice a us.length cap] w fun e w' => Below w.heap.size w w' ∧ ((NoNear us ∧ e = .returned (.tuple #[.slice none 0 0, .bool false])) ∨ ∃ av cv js, e = .returned (.tuple #[.slice av (us.length * us.length) cv, .bool true]) ∧ NearTo us js (us.length * us.length) ∧ w'.ownsRow w.heap.size 3 1 (.slice av (us.length * us.length) cv) (us.length * us.length) (ivals js)) := by
  obtain ⟨i0, hi, hz0, hz1, hz2⟩ := info_parts info_int
  have h256 : us.length * us.length ≤ 256 := Nat.mul_le_mul hl hl
  have hmul : IntKind.i64.wrap ((us.length : Int) * (us.length : Int)) = ((us.length * us.length : Nat) : Int) := by
    rw [← Int.natCast_mul]; exact IntWalk.i64_in _ (by omega)
  go_enter Tryd.func46, Tryd.ntmps46
  go_wp2_with (at_make; refine wpList_make_own _ rfl _ _ 25 rfl w.heap.size 3 i0 (.int .i64 0) 1 Tryd.underlying25 hi hz0 hz1 .i64 .i64 _ (us.length * us.length) rfl rfl (by first | rfl | exact hmul | simp [hmul]) (by rw [hz2]; omega) (by unfold maxLen; omega) (Nat.le_refl _) ?_; intro w1 hown hgrow)
  have hB1 : Below w.heap.size w w1 := (Below.refl _ _).grown hgrow (Nat.le_refl _) fun j ej => by cases ej
  clear hmul hgrow
  go_loopw [4, 18] (fun lst i wr => ∃ (k : Nat) (av : Option Addr) (cv : Nat) (js : List Nat), k ≤ us.length ∧ i = .int .i64 k ∧ lst = .slice av (k * us.length) cv ∧ Below w.heap.size w wr ∧ wr.ownsRow w.heap.size 3 1 (.slice av (k * us.length) cv) (k * us.length) (ivals js) ∧ NearTo us js (k * us.length)) (fun _ i _ => us.length - (intOf i).toNat)
  case atStart => exact ⟨0, some ⟨w.heap.size, 0, none⟩, us.length * us.length, [], Nat.zero_le _, rfl, by rw [Nat.zero_mul], hB1, by rw [Nat.zero_mul]; exact hown, by rw [Nat.zero_mul]; exact NearTo.start us⟩
  case round =>
    clear hown hB1
    obtain ⟨k, av, cv, js, hk, rfl, rfl, hB, hown, hN⟩ := hrel
    by_cases hlt : k < us.length
    · obtain ⟨b, off, rfl, hb, hc⟩ := (hw.below (hB.mono hn₀)).at hlt
      have hck := hc k hlt
      have hfk := hf k
      clear hc
      go_wp2
      go_loopw [4, 24] (fun lst i wr => ∃ (j : Nat) (av : Option Addr) (cv : Nat) (js : List Nat), j ≤ us.length ∧ i = .int .i64 j ∧ lst = .slice av (k * us.length + j) cv ∧ Below w.heap.size w wr ∧ wr.ownsRow w.heap.size 3 1 (.slice av (k * us.length + j) cv) (k * us.length + j) (ivals js) ∧ NearTo us js (k * us.length + j)) (fun _ i _ => us.length - (intOf i).toNat)
      case atStart => exact ⟨0, av, cv, js, Nat.zero_le _, rfl, rfl, hB, hown, hN⟩
      case round =>
        clear hB hown hN hck
        obtain ⟨j, av, cv, js, hj, rfl, rfl, hB, hown, hN⟩ := hrel
        by_cases hlj : j < us.length
        · have hwr := hw.below (hB.mono hn₀)
          obtain ⟨b', off', eb, _, hc⟩ := hwr.at hlj
          cases eb
          have hcj := hc j hlj
          have hfj := hf j
          have hand := bits_and32 (wd us k) (wd us j) hfk hfj
          have hpl := place_lt hlt hlj
          have hbsz := hB.size
          by_cases hex : ∃ i, i < us.length ∧ wd us i = andW (wd us k) (wd us j)
          · obtain ⟨i, hi', he', hfi⟩ := first_ex _ _ hex
            have hix := Index_first (some ⟨b, off, none⟩) cap us (andW (wd us k) (wd us j)) n₀ i hl wr hwr hi' he' hfi
            have Hix := hide he'
            clear hex he' hfi hc hwr
            go_wp2_with (first
              | (go_at_call 56; refine hix.mono ?_; rintro e w2 ⟨rfl, hww⟩; rw [hww]; clear hww w2)
              | (at_builtin; refine wpList_append_own _ rfl _ _ 25 rfl w.heap.size 3 i0 (.int .i64 0) 1 8 Tryd.underlying25 hi hz0 hz1 hz2 rfl (by decide) _ _ _ rfl (hown.alloc _) ⟨wr.heap.size, 0, none⟩ 1 1 [.int .i64 (i : Nat)] rfl rfl (cell_one_new _ _ _) (fun u hu => by simp at hu; subst hu; rfl) (by unfold maxLen; omega) (by omega) (by simp; omega) ?_; intro v' w3 hown3 hgrow3 _; obtain ⟨g', cap', rfl⟩ := ownsRow_succ hown3))
            have hB3 : Below w.heap.size w w3 := (hB.alloc hbsz (.cells #[.int .i64 (i : Nat)] 3)).grown hgrow3 (by simp; omega) fun q eq => by
              apply Nat.le_of_not_lt; intro hql
              exact ownBlock_ge hown (b := q) hql eq.symm
            exact ⟨⟨j + 1, some ⟨g', 0, none⟩, cap', js ++ [i], by omega, by go_num, rfl, hB3, by rw [ivals_snoc]; exact hown3, hN.snoc hlj hi' Hix.out⟩, by simp [intOf]; omega⟩
          · have hno : ∀ i, i < us.length → wd us i ≠ andW (wd us k) (wd us j) := fun i hi he => hex ⟨i, hi, he⟩
            have hix := Index_none (some ⟨b, off, none⟩) cap us (andW (wd us k) (wd us j)) n₀ hl wr hwr hno
            have Hno := hide hno
            clear hex hno hc hwr
            go_wp2_with (go_at_call 56; refine hix.mono ?_; rintro e w2 ⟨rfl, hww⟩; rw [hww]; clear hww w2)
            go_ret2
            exact ⟨hB, .inl ⟨⟨k, j, hlt, hlj, Hno.out⟩, rfl⟩⟩
        · obtain rfl : j = us.length := by omega
          have e1 : k * us.length + us.length = (k + 1) * us.length := by rw [Nat.add_mul]; omega
          rw [e1] at hown hN
          go_wp2
          rw [e1]
          exact ⟨⟨k + 1, av, cv, js, by omega, by go_num, rfl, hB, hown, hN⟩, by simp [intOf]; omega⟩
    · obtain rfl : k = us.length := by omega
      go_wp2
      go_ret2
      exact ⟨hB, .inr ⟨av, cv, js, rfl, hN, hown⟩⟩
/-- the same, told by one answer -/
theorem nearest_det (a : Option Addr) (cap : Nat) (us : List Nat) (jb : Bool) (hjb : nearB us = jb) (n₀ : Nat) (hf : Fit us) (hl : us.length ≤ 16) (w : World) (hw : IsWords n₀ w a us) (hn₀ : n₀ ≤ w.heap.size) :
    Calls Tryd.prog 46 #[.slice a us.length cap] w fun e w' => ∃ av lv cv, e = .returned (.tuple #[.slice av lv cv, .bool jb]) ∧ Below w.heap.size w w' ∧ (jb = true → lv = us.length * us.length ∧ ∃ js, NearTo us js (us.length * us.length) ∧ w'.ownsRow w.heap.size 3 1 (.slice av (us.length * us.length) cv) (us.length * us.length) (ivals js)) := by
  subst hjb
  exact (nearest_any a cap us n₀ hf hl w hw hn₀).mono (by
    rintro e w' ⟨hb, ⟨hno, rfl⟩ | ⟨av, cv, js, rfl, hN, hown⟩⟩
    · rw [nearB_false.2 hno]
      exact ⟨_, _, _, rfl, hb, fun h => by cases h⟩
    · rw [nearB_true.2 hN.none]
      exact ⟨av, _, cv, rfl, hb, fun _ => ⟨rfl, js, hN, hown⟩⟩)
end Go.Proofs.YtemabboecmkoaaaDoor
