/- Plain mathematics of concepts: the sets of rows that columns have in common, gathered column by column; no program is named here. Slices of ints in memory. -/
import Derived.Test.YtdeglbmoiofpoaaDoorPart5
import Derived.Test.YtdeglbmoiofpoaaDoorPart4
namespace Go.Proofs.YtdeglbmoiofpoaaDoor

/-- x is what some of the first n columns have in common -/
def Ext (us : List Nat) (n x : Nat) : Prop := ∃ c, c < 4294967296 ∧ Only n c ∧ dnW us c = x
theorem dn_zero (us : List Nat) : dnW us 0 = allW us.length := word_ext' fun i => by
  rw [mem_dn (by decide), hasB_all, decide_eq_true_iff]
  exact ⟨fun h => h.1, fun h => ⟨h, fun j hj => by rw [hasB_zero] at hj; cases hj⟩⟩
theorem dn_or (us : List Nat) {c d : Nat} (hc : c < 4294967296) (hd : d < 4294967296) : dnW us (orW c d) = andW (dnW us c) (dnW us d) := word_ext' fun i => by
  rw [hasB_and, Bool.and_eq_true, mem_dn hc, mem_dn hd, mem_dn (orW_lt hc hd)]
  constructor
  · rintro ⟨h1, h2⟩
    exact ⟨⟨h1, fun j hj => h2 j (by rw [hasB_or, hj]; rfl)⟩, h1, fun j hj => h2 j (by rw [hasB_or, hj]; simp)⟩
  · rintro ⟨⟨h1, h2⟩, _, h3⟩
    refine ⟨h1, fun j hj => ?_⟩
    rw [hasB_or, Bool.or_eq_true] at hj
    exact hj.elim (h2 j) (h3 j)
theorem Ext.mono {us : List Nat} {n m x : Nat} (h : Ext us n x) (hm : n ≤ m) : Ext us m x :=
  let ⟨c, h1, h2, h3⟩ := h; ⟨c, h1, fun j hj => Nat.lt_of_lt_of_le (h2 j hj) hm, h3⟩
theorem ext_zero {us : List Nat} {x : Nat} : Ext us 0 x ↔ x = allW us.length := by
  constructor
  · rintro ⟨c, _, h2, rfl⟩
    have : c = 0 := word_zero.2 fun j => by
      cases hb : hasB c j with
      | false => rfl
      | true => have := h2 j hb; omega
    rw [this, dn_zero]
  · rintro rfl
    exact ⟨0, by decide, (fun j hj => by rw [hasB_zero] at hj; cases hj), dn_zero us⟩
theorem ext_and {us : List Nat} {n y j : Nat} (h : Ext us n y) (hj : j < 32) (hn : n ≤ j) : Ext us (j + 1) (andW y (dnW us (bitW j))) := by
  obtain ⟨c, h1, h2, rfl⟩ := h
  refine ⟨orW c (bitW j), orW_lt h1 (bitW_lt hj), fun i hi => ?_, dn_or us h1 (bitW_lt hj)⟩
  rw [hasB_or, Bool.or_eq_true, hasB_bitW, decide_eq_true_iff] at hi
  rcases hi with hi | hi
  · have := h2 i hi; omega
  · omega
theorem ext_succ {us : List Nat} {j x : Nat} (hj : j < 32) : Ext us (j + 1) x ↔ Ext us j x ∨ ∃ y, Ext us j y ∧ x = andW y (dnW us (bitW j)) := by
  constructor
  · rintro ⟨c, h1, h2, rfl⟩
    cases hb : hasB c j with
    | false =>
      left
      refine ⟨c, h1, fun i hi => ?_, rfl⟩
      have := h2 i hi
      by_cases e : i = j
      · rw [e, hb] at hi; cases hi
      · omega
    | true =>
      right
      have hd : andN c (bitW j) < 4294967296 := andN_lt h1
      refine ⟨dnW us (andN c (bitW j)), ⟨andN c (bitW j), hd, fun i hi => ?_, rfl⟩, ?_⟩
      · rw [hasB_andN h1, hasB_bitW] at hi
        simp at hi
        have := h2 i hi.1
        omega
      · rw [← dn_or us hd (bitW_lt hj)]
        congr 1
        refine word_ext' fun i => ?_
        rw [hasB_or, Bool.or_eq_true, hasB_andN h1, hasB_bitW]
        by_cases e : j = i
        · subst e; simp [hb]
        · simp [e]
  · rintro (h | ⟨y, h, rfl⟩)
    · exact h.mono (by omega)
    · exact ext_and h hj (Nat.le_refl _)
theorem Ext.lt {us : List Nat} (hl : us.length ≤ 16) {n x : Nat} (h : Ext us n x) : x < 4294967296 := by
  obtain ⟨c, _, _, rfl⟩ := h
  exact dnW_lt hl c
theorem Ext.only {us : List Nat} {n x : Nat} (h : Ext us n x) : Only us.length x := by
  obtain ⟨c, h1, _, rfl⟩ := h
  exact only_dn us h1
theorem only_ltC {n x : Nat} (h : Only n x) : x < 2 ^ n := by
  apply Nat.lt_pow_two_of_testBit
  intro i hi
  cases hb : x.testBit i with
  | false => rfl
  | true => have := h i hb; omega
theorem lt_onlyC {n x : Nat} (h : x < 2 ^ n) : Only n x := fun i hi => by
  apply Nat.lt_of_not_le
  intro hle
  have : x.testBit i = false := Nat.testBit_lt_two_pow (Nat.lt_of_lt_of_le h (Nat.pow_le_pow_right (by decide) hle))
  unfold hasB at hi; rw [this] at hi; cases hi
theorem pow16 {n : Nat} (h : n ≤ 16) : 2 ^ n < 4294967296 := by
  have := Nat.pow_le_pow_right (n := 2) (by decide) h
  have : (2 : Nat) ^ 16 = 65536 := by decide
  omega
/-- a set of rows is a concept's just if it is what its columns' rows are -/
theorem ext_iff {us : List Nat} {n : Nat} (hn : n ≤ 16) {x : Nat} : Ext us n x ↔ Only us.length x ∧ dnW us (upW n us x) = x := by
  constructor
  · intro h
    refine ⟨h.only, ?_⟩
    obtain ⟨c, h1, h2, rfl⟩ := h
    exact word_ext' fun i => ⟨dn_anti h1 (upW_lt hn us _) (dn_up h1 h2) i, up_dn hn (only_dn us h1) i⟩
  · rintro ⟨_, h⟩
    exact ⟨upW n us x, upW_lt hn us x, only_up n us x, h⟩

/-- all concepts' sets of rows among the words below m, rising -/
def conTo (n : Nat) (us : List Nat) (m : Nat) : List Nat := (List.range m).filter fun x => decide (dnW us (upW n us x) = x)
def conL (n : Nat) (us : List Nat) : List Nat := conTo n us (2 ^ us.length)
theorem mem_conTo {n : Nat} {us : List Nat} {m x : Nat} : x ∈ conTo n us m ↔ x < m ∧ dnW us (upW n us x) = x := by
  unfold conTo; rw [List.mem_filter, List.mem_range, decide_eq_true_iff]
theorem mem_conL {n : Nat} (hn : n ≤ 16) {us : List Nat} {x : Nat} : x ∈ conL n us ↔ Ext us n x := by
  unfold conL
  rw [mem_conTo, ext_iff hn]
  exact ⟨fun h => ⟨lt_onlyC h.1, h.2⟩, fun h => ⟨only_ltC h.1, h.2⟩⟩
theorem rising_conTo (n : Nat) (us : List Nat) (m : Nat) : (conTo n us m).Pairwise (· < ·) := List.pairwise_lt_range.filter _
theorem rising_conL (n : Nat) (us : List Nat) : (conL n us).Pairwise (· < ·) := rising_conTo n us _
theorem nodup_of_rising {l : List Nat} (h : l.Pairwise (· < ·)) : l.Nodup := List.nodup_iff_pairwise_ne.2 (h.imp fun h e => by omega)
theorem conTo_succ (n : Nat) (us : List Nat) (m : Nat) : conTo n us (m + 1) = conTo n us m ++ (if dnW us (upW n us m) = m then [m] else []) := by
  unfold conTo
  rw [List.range_succ, List.filter_append]
  congr 1
  by_cases h : dnW us (upW n us m) = m
  · simp [h]
  · simp [h]
theorem conTo_pre (n : Nat) (us : List Nat) {m k : Nat} (h : m ≤ k) : conTo n us m <+: conTo n us k := by
  obtain ⟨d, rfl⟩ : ∃ d, k = m + d := ⟨k - m, by omega⟩
  induction d with
  | zero => exact List.prefix_rfl
  | succ d ih =>
    refine (ih (by omega)).trans ?_
    show conTo n us (m + d) <+: conTo n us (m + d + 1)
    rw [conTo_succ]
    exact List.prefix_append _ _
/-- of two rising lists with the same members each is the other -/
theorem rising_ext : ∀ {a b : List Nat}, a.Pairwise (· < ·) → b.Pairwise (· < ·) → (∀ x, x ∈ a ↔ x ∈ b) → a = b
  | [], [], _, _, _ => rfl
  | [], y :: b, _, _, h => absurd ((h y).2 (by simp)) (by simp)
  | x :: a, [], _, _, h => absurd ((h x).1 (by simp)) (by simp)
  | x :: a, y :: b, ha, hb, h => by
    rw [List.pairwise_cons] at ha hb
    have e : x = y := by
      have h1 := (h x).1 (by simp)
      have h2 := (h y).2 (by simp)
      rw [List.mem_cons] at h1 h2
      rcases h1 with h1 | h1
      · exact h1
      · rcases h2 with h2 | h2
        · exact h2.symm
        · have := hb.1 x h1; have := ha.1 y h2; omega
    subst e
    rw [rising_ext ha.2 hb.2 fun z => ?_]
    have := h z
    rw [List.mem_cons, List.mem_cons] at this
    constructor
    · intro hz
      rcases this.1 (.inr hz) with rfl | h1
      · have := ha.1 z hz; omega
      · exact h1
    · intro hz
      rcases this.2 (.inr hz) with rfl | h1
      · have := hb.1 z hz; omega
      · exact h1
theorem sub_len : ∀ {a b : List Nat}, a.Nodup → (∀ x ∈ a, x ∈ b) → a.length ≤ b.length
  | [], b, _, _ => Nat.zero_le _
  | x :: a, b, hn, hs => by
    rw [List.nodup_cons] at hn
    have hx : x ∈ b := hs x (by simp)
    have ih := sub_len (b := b.erase x) hn.2 fun y hy => by
      have hne : y ≠ x := fun e => hn.1 (e ▸ hy)
      exact (List.mem_erase_of_ne hne).2 (hs y (by simp [hy]))
    rw [List.length_erase_of_mem hx] at ih
    have := List.length_pos_of_mem hx
    simp only [List.length_cons]
    omega

/-- what has been gathered: the first j columns are whole, and of column j as much as the first k of the list that stood there give -/
structure Gath (us : List Nat) (j k : Nat) (base L : List Nat) : Prop where
  pre : ∃ M, L = base ++ M
  nodup : L.Nodup
  has : ∀ x, x ∈ base ↔ Ext us j x
  mem : ∀ x, x ∈ L ↔ Ext us j x ∨ ∃ i, i < k ∧ x = andW (wd base i) (dnW us (bitW j))
theorem Gath.start (us : List Nat) {j : Nat} {L : List Nat} (hn : L.Nodup) (h : ∀ x, x ∈ L ↔ Ext us j x) : Gath us j 0 L L :=
  ⟨⟨[], by simp⟩, hn, h, fun x => by rw [h x]; exact ⟨.inl, fun h => h.elim id fun ⟨i, hi, _⟩ => by omega⟩⟩
theorem Gath.old {us : List Nat} {j k : Nat} {base L : List Nat} (h : Gath us j k base L) (hm : andW (wd base k) (dnW us (bitW j)) ∈ L) : Gath us j (k + 1) base L :=
  ⟨h.pre, h.nodup, h.has, fun x => by
    rw [h.mem x]
    refine ⟨fun h => h.imp id fun ⟨i, hi, e⟩ => ⟨i, by omega, e⟩, fun h' => ?_⟩
    rcases h' with h' | ⟨i, hi, e⟩
    · exact .inl h'
    · by_cases ei : i = k
      · subst ei; rw [e]; exact (h.mem _).1 hm
      · exact .inr ⟨i, by omega, e⟩⟩
theorem Gath.new {us : List Nat} {j k : Nat} {base L : List Nat} (h : Gath us j k base L) (hm : ¬ andW (wd base k) (dnW us (bitW j)) ∈ L) : Gath us j (k + 1) base (L ++ [andW (wd base k) (dnW us (bitW j))]) := by
  refine ⟨?_, ?_, h.has, fun x => ?_⟩
  · obtain ⟨M, e⟩ := h.pre
    exact ⟨M ++ [andW (wd base k) (dnW us (bitW j))], by rw [e, List.append_assoc]⟩
  · rw [List.nodup_append]
    refine ⟨h.nodup, by simp, fun a ha b hb e => ?_⟩
    simp at hb
    subst hb e
    exact hm ha
  · rw [List.mem_append, List.mem_singleton, h.mem x]
    constructor
    · rintro (h' | rfl)
      · exact h'.imp id fun ⟨i, hi, e⟩ => ⟨i, by omega, e⟩
      · exact .inr ⟨k, by omega, rfl⟩
    · rintro (h' | ⟨i, hi, e⟩)
      · exact .inl (.inl h')
      · by_cases ei : i = k
        · subst ei; exact .inr e
        · exact .inl (.inr ⟨i, by omega, e⟩)
theorem wd_memL {l : List Nat} {i : Nat} (h : i < l.length) : wd l i ∈ l := by rw [wd_get h]; exact List.getElem_mem h
theorem Gath.ext {us : List Nat} {j k : Nat} {base L : List Nat} (h : Gath us j k base L) (hj : j < 32) (hk : k ≤ base.length) : ∀ x ∈ L, Ext us (j + 1) x := fun x hx => by
  rcases (h.mem x).1 hx with h' | ⟨i, hi, rfl⟩
  · exact h'.mono (by omega)
  · exact ext_and ((h.has _).1 (wd_memL (by omega))) hj (Nat.le_refl _)
theorem Gath.shared {us : List Nat} {j k : Nat} {base L : List Nat} (h : Gath us j k base L) (hj : j < 32) (hk : k < base.length) : Ext us (j + 1) (andW (wd base k) (dnW us (bitW j))) :=
  ext_and ((h.has _).1 (wd_memL hk)) hj (Nat.le_refl _)
theorem Gath.next {us : List Nat} {j : Nat} {base L : List Nat} (h : Gath us j base.length base L) (hj : j < 32) : ∀ x, x ∈ L ↔ Ext us (j + 1) x := fun x => by
  rw [h.mem x, ext_succ hj]
  refine or_congr_right ⟨fun ⟨i, hi, e⟩ => ⟨wd base i, (h.has _).1 (wd_memL hi), e⟩, fun ⟨y, hy, e⟩ => ?_⟩
  obtain ⟨i, hi, rfl⟩ := List.getElem_of_mem ((h.has y).2 hy)
  exact ⟨i, hi, by rw [wd_get hi]; exact e⟩
/-- too many: more than the list that stands there and one more -/
theorem too_many {us : List Nat} {n j k : Nat} (hn : n ≤ 16) {base L : List Nat} (h : Gath us j k base L) (hj : j < n) (hk : k < base.length) (hm : ¬ andW (wd base k) (dnW us (bitW j)) ∈ L) : L.length < (conL n us).length := by
  have hg := h.new hm
  have := sub_len hg.nodup fun x hx => (mem_conL hn).2 ((hg.ext (by omega) (by omega) x hx).mono (by omega))
  rw [List.length_append] at this
  simp at this
  omega
theorem just_all {us : List Nat} {n : Nat} (hn : n ≤ 16) {L : List Nat} (hd : L.Nodup) (h : ∀ x, x ∈ L ↔ Ext us n x) : L.length = (conL n us).length :=
  Nat.le_antisymm (sub_len hd fun x hx => (mem_conL hn).2 ((h x).1 hx)) (sub_len (nodup_of_rising (rising_conL n us)) fun x hx => (h x).2 ((mem_conL hn).1 hx))
end Go.Proofs.YtdeglbmoiofpoaaDoor

namespace Go.Proofs.YtdeglbmoiofpoaaDoor
open Go.RowKit Go.Shelf

/-- numbers as values -/
def ivals (l : List Nat) : List Value := l.map fun x => Value.int .i64 ((x : Nat) : Int)
theorem ivals_snoc (l : List Nat) (x : Nat) : ivals (l ++ [x]) = ivals l ++ [.int .i64 ((x : Nat) : Int)] := by unfold ivals; simp
theorem ivals_at {l : List Nat} {i : Nat} (h : i < l.length) : (ivals l)[i]? = some (.int .i64 ((wd l i : Nat) : Int)) := by
  unfold ivals wd; simp [List.getElem?_map, List.getElem?_eq_getElem h, List.getD_eq_getElem?_getD]
/-- a slice over numbers -/
def IsInts (n₀ : Nat) (W : World) (a : Option Addr) (l : List Nat) : Prop :=
  l = [] ∨ ∃ b off, a = some ⟨b, off, none⟩ ∧ b < n₀ ∧ ∀ i, i < l.length → W.cell? ⟨b, off + i, none⟩ = some (.int .i64 ((wd l i : Nat) : Int))
theorem IsInts.below {n₀ : Nat} {A B : World} {a : Option Addr} {l : List Nat} (h : IsInts n₀ A a l) (hb : Below n₀ A B) : IsInts n₀ B a l := by
  rcases h with h | ⟨b, off, h1, h2, h3⟩
  · exact .inl h
  · exact .inr ⟨b, off, h1, h2, fun i hi => (hb.cell (p := ⟨b, off + i, none⟩) h2).trans (h3 i hi)⟩
theorem IsInts.at {n₀ : Nat} {A : World} {a : Option Addr} {l : List Nat} (h : IsInts n₀ A a l) {i : Nat} (hi : i < l.length) :
    ∃ b off, a = some ⟨b, off, none⟩ ∧ b < n₀ ∧ ∀ i, i < l.length → A.cell? ⟨b, off + i, none⟩ = some (.int .i64 ((wd l i : Nat) : Int)) := by
  rcases h with h | h
  · subst h; simp at hi
  · exact h
theorem ownsRow_ints {W : World} {base : Nat} {av : Option Addr} {cv k : Nat} {l : List Nat} (h : W.ownsRow base 3 1 (.slice av k cv) k (ivals l)) : IsInts W.heap.size W av l := by
  have hlen : l.length = k := by have := h.1; simpa [ivals] using this
  rcases h.2 with ⟨h1, h2⟩ | ⟨g, cap, cur, h1, h2, h3, h4, h5, h6, h7⟩
  · exact .inl (List.length_eq_zero_iff.1 (by omega))
  · cases h1
    refine .inr ⟨g, 0, rfl, (Array.getElem?_eq_some_iff.1 h3).1, fun i hi => ?_⟩
    have hx : (cur.toList.take (k * 1))[i]? = (ivals l)[i]? := by rw [h7]
    rw [ivals_at hi, List.getElem?_take, if_pos (by omega)] at hx
    simp [World.cell?, h3, ← Array.getElem?_toList, hx]
theorem info_int : (Tryd.prog.info? 3).map (fun i => (i.zero, i.size, i.bytes)) = some (some (.int .i64 0), 1, 8) := by kernel_rfl

theorem ivals_set (us : List Nat) (i x : Nat) : (ivals us).set i (.int .i64 ((x : Nat) : Int)) = ivals (us.set i x) := by
  unfold ivals; rw [List.map_set]
theorem ivals_replicate (n : Nat) : (madeCells #[Value.int .i64 0] n) = (ivals (List.replicate n 0)).toArray := by
  unfold madeCells ivals
  apply Array.ext
  · simp
  · intro i h1 h2; simp [Nat.mod_one]

/-- is x in the list? -/
def memB (l : List Nat) (x : Nat) : Bool := decide (x ∈ l)
theorem memB_true {l : List Nat} {x : Nat} : memB l x = true ↔ x ∈ l := by unfold memB; exact decide_eq_true_iff
theorem memB_false {l : List Nat} {x : Nat} : memB l x = false ↔ x ∉ l := by unfold memB; exact decide_eq_false_iff_not
theorem wd_mem {l : List Nat} {i : Nat} (h : i < l.length) : wd l i ∈ l := by
  unfold wd; rw [List.getD_eq_getElem?_getD, List.getElem?_eq_getElem h]; exact List.getElem_mem h
theorem mem_wd {l : List Nat} {x : Nat} (h : x ∈ l) : ∃ i, i < l.length ∧ wd l i = x := by
  obtain ⟨i, hi, e⟩ := List.getElem_of_mem h
  exact ⟨i, hi, by unfold wd; rw [List.getD_eq_getElem?_getD, List.getElem?_eq_getElem hi]; exact e⟩

end Go.Proofs.YtdeglbmoiofpoaaDoor
