/- Concepts: what two have in common is one's, and turned round there are as many. -/
import Derived.Test.YtdeglbmoiofpoaaConPro
namespace Go.Proofs.Ytdeglbmoiofpoaa

theorem ext_both {us : List Nat} {n x y : Nat} (hx : Ext us n x) (hy : Ext us n y) : Ext us n (andW x y) := by
  obtain ⟨c, c1, c2, rfl⟩ := hx
  obtain ⟨d, d1, d2, rfl⟩ := hy
  refine ⟨orW c d, orW_lt c1 d1, fun i hi => ?_, dn_or us c1 d1⟩
  rw [hasB_or, Bool.or_eq_true] at hi
  exact hi.elim (c2 i) (d2 i)
theorem ext_cols {n : Nat} (hn : n ≤ 16) {us : List Nat} {x y : Nat} (hx : Ext us n x) (hy : Ext us n y) : ∃ z, Ext us n z ∧ upW n us z = andW (upW n us x) (upW n us y) := by
  refine ⟨dnW us (upW n us (orW x y)), ⟨upW n us (orW x y), upW_lt hn us _, only_up n us _, rfl⟩, ?_⟩
  rw [← up_or]
  refine up_dn_up hn fun i hi => ?_
  rw [hasB_or, Bool.or_eq_true] at hi
  exact hi.elim (hx.only i) (hy.only i)
/-- rows and columns exchanged -/
def turnC (n : Nat) (us : List Nat) : List Nat := (List.range n).map fun j => dnW us (bitW j)
theorem turnC_len (n : Nat) (us : List Nat) : (turnC n us).length = n := by unfold turnC; simp
theorem wd_turnC {n j : Nat} {us : List Nat} (h : j < n) : wd (turnC n us) j = dnW us (bitW j) := by
  unfold turnC
  generalize hF : (fun j => dnW us (bitW j)) = F
  have : dnW us (bitW j) = F j := by rw [← hF]
  rw [this]
  unfold wd
  simp [List.getD_eq_getElem?_getD, List.getElem?_map, List.getElem?_range h]
theorem has_turnC {n i j : Nat} (hn : n ≤ 16) {us : List Nat} (h : j < n) : hasB (wd (turnC n us) j) i = true ↔ i < us.length ∧ hasB (wd us i) j = true := by
  rw [wd_turnC h, mem_dn (bitW_lt (by omega))]
  constructor
  · rintro ⟨h1, h2⟩
    exact ⟨h1, h2 j (by rw [hasB_bitW]; simp)⟩
  · rintro ⟨h1, h2⟩
    refine ⟨h1, fun k hk => ?_⟩
    rw [hasB_bitW, decide_eq_true_iff] at hk
    rw [← hk]; exact h2
theorem up_turn {n : Nat} (hn : n ≤ 16) {us : List Nat} {c : Nat} (hc4 : c < 4294967296) (hc : Only n c) : upW us.length (turnC n us) c = dnW us c := word_ext' fun i => by
  rw [mem_up, mem_dn hc4, turnC_len]
  constructor
  · rintro ⟨h1, h2⟩
    exact ⟨h1, fun j hj => ((has_turnC hn (hc j hj)).1 (h2 j (hc j hj) hj)).2⟩
  · rintro ⟨h1, h2⟩
    exact ⟨h1, fun j hj hb => (has_turnC hn hj).2 ⟨h1, h2 j hb⟩⟩
theorem dn_turn {n : Nat} (hn : n ≤ 16) {us : List Nat} {s : Nat} (hs4 : s < 4294967296) (hs : Only us.length s) : dnW (turnC n us) s = upW n us s := word_ext' fun j => by
  rw [mem_dn hs4, mem_up, turnC_len]
  constructor
  · rintro ⟨h1, h2⟩
    exact ⟨h1, fun i hi hb => ((has_turnC hn h1).1 (h2 i hb)).2⟩
  · rintro ⟨h1, h2⟩
    exact ⟨h1, fun i hi => (has_turnC hn h1).2 ⟨hs i hi, h2 i (hs i hi) hi⟩⟩
theorem only_pow {n x : Nat} (hn : n ≤ 16) (h : Only n x) : x < 4294967296 := Nat.lt_trans (only_lt h) (pow16 hn)
theorem turn_code {n : Nat} (hn : n ≤ 16) {us : List Nat} (hl : us.length ≤ 16) : codeC (us.length : Int) (turnC n us) = 0 := by
  refine codeC_ok (by rw [turnC_len]; exact hn) hl (outAny_false.2 fun j hj => ?_)
  rw [turnC_len] at hj
  rw [← with_out (by rw [wd_turnC hj]; exact dnW_lt hl _), Bool.not_eq_false']
  refine (withB_iff (by rw [wd_turnC hj]; exact dnW_lt hl _)).2 fun i hi => ?_
  rw [hasB_all, decide_eq_true_iff]
  exact ((has_turnC hn hj).1 hi).1
/-- turned round there are as many -/
theorem turn_len {n : Nat} (hn : n ≤ 16) {us : List Nat} (hl : us.length ≤ 16) : (conL us.length (turnC n us)).length = (conL n us).length := by
  have e1 : ∀ c, c ∈ conL us.length (turnC n us) ↔ Only n c ∧ upW n us (dnW us c) = c := fun c => by
    rw [mem_conL hl, ext_iff hl, turnC_len]
    constructor
    · rintro ⟨h1, h2⟩
      have h4 := only_pow hn h1
      rw [up_turn hn h4 h1, dn_turn hn (dnW_lt hl c) (only_dn us h4)] at h2
      exact ⟨h1, h2⟩
    · rintro ⟨h1, h2⟩
      have h4 := only_pow hn h1
      refine ⟨h1, ?_⟩
      rw [up_turn hn h4 h1, dn_turn hn (dnW_lt hl c) (only_dn us h4)]
      exact h2
  have e2 : ∀ x, x ∈ conL n us ↔ Only us.length x ∧ dnW us (upW n us x) = x := fun x => by rw [mem_conL hn, ext_iff hn]
  have inj : ∀ {f g : Nat → Nat} {l : List Nat}, l.Nodup → (∀ x ∈ l, g (f x) = x) → (l.map f).Nodup := fun {f g l} hd h => by
    refine List.nodup_iff_pairwise_ne.2 ?_
    rw [List.pairwise_map]
    refine (List.nodup_iff_pairwise_ne.1 hd).imp_of_mem fun {a b} ha hb hne he => hne ?_
    rw [← h a ha, ← h b hb, he]
  refine Nat.le_antisymm ?_ ?_
  · have := sub_len (a := (conL us.length (turnC n us)).map (dnW us)) (b := conL n us) (inj (g := upW n us) (nodup_of_rising (rising_conL _ _)) fun c hc => ((e1 c).1 hc).2) (fun x hx => by
      rw [List.mem_map] at hx
      obtain ⟨c, hc, rfl⟩ := hx
      obtain ⟨h1, h2⟩ := (e1 c).1 hc
      exact (e2 _).2 ⟨only_dn us (only_pow hn h1), by rw [h2]⟩)
    rwa [List.length_map] at this
  · have := sub_len (a := (conL n us).map (upW n us)) (b := conL us.length (turnC n us)) (inj (g := dnW us) (nodup_of_rising (rising_conL _ _)) fun x hx => ((e2 x).1 hx).2) (fun c hc => by
      rw [List.mem_map] at hc
      obtain ⟨x, hx, rfl⟩ := hc
      obtain ⟨h1, h2⟩ := (e2 x).1 hx
      exact (e1 _).2 ⟨only_up n us x, by rw [h2]⟩)
    rwa [List.length_map] at this
/-- is v the rows, or the columns, of one of the first k? -/
def anyP (f : Nat × Nat → Nat) (P : List (Nat × Nat)) (v k : Nat) : Bool := (List.range k).any fun q => f (pd P q) == v
theorem anyP_zero (f : Nat × Nat → Nat) (P : List (Nat × Nat)) (v : Nat) : anyP f P v 0 = false := rfl
theorem anyP_succ (f : Nat × Nat → Nat) (P : List (Nat × Nat)) (v k : Nat) : anyP f P v (k + 1) = (anyP f P v k || f (pd P k) == v) := by
  unfold anyP; rw [List.range_succ, List.any_append]; simp
theorem anyP_mem {f : Nat × Nat → Nat} {P : List (Nat × Nat)} {v : Nat} {p : Nat × Nat} (hp : p ∈ P) (h : f p = v) : anyP f P v P.length = true := by
  obtain ⟨i, hi, rfl⟩ := List.getElem_of_mem hp
  unfold anyP
  rw [List.any_eq_true]
  refine ⟨i, List.mem_range.2 hi, ?_⟩
  rw [beq_iff_eq, ← h]
  unfold pd
  rw [List.getD_eq_getElem?_getD, List.getElem?_eq_getElem hi]; rfl
theorem pd_mem {P : List (Nat × Nat)} {i : Nat} (h : i < P.length) : pd P i ∈ P := by
  unfold pd; rw [List.getD_eq_getElem?_getD, List.getElem?_eq_getElem h]; exact List.getElem_mem h
theorem conP_mem {n : Nat} (hn : n ≤ 16) {us : List Nat} {p : Nat × Nat} : p ∈ conP n us ↔ Ext us n p.1 ∧ p.2 = upW n us p.1 := by
  unfold conP
  rw [List.mem_map]
  constructor
  · rintro ⟨x, hx, rfl⟩
    exact ⟨(mem_conL hn).1 hx, rfl⟩
  · rintro ⟨h1, h2⟩
    exact ⟨p.1, (mem_conL hn).2 h1, by rw [← h2]⟩
theorem any_rows {n : Nat} (hn : n ≤ 16) {us : List Nat} {i j : Nat} (hi : i < (conP n us).length) (hj : j < (conP n us).length) : anyP (·.1) (conP n us) (andW (pd (conP n us) i).1 (pd (conP n us) j).1) (conP n us).length = true := by
  have h1 := (conP_mem hn).1 (pd_mem hi)
  have h2 := (conP_mem hn).1 (pd_mem hj)
  exact anyP_mem (p := (_, upW n us _)) ((conP_mem hn).2 ⟨ext_both h1.1 h2.1, rfl⟩) rfl
theorem any_cols {n : Nat} (hn : n ≤ 16) {us : List Nat} {i j : Nat} (hi : i < (conP n us).length) (hj : j < (conP n us).length) : anyP (·.2) (conP n us) (andW (pd (conP n us) i).2 (pd (conP n us) j).2) (conP n us).length = true := by
  have h1 := (conP_mem hn).1 (pd_mem hi)
  have h2 := (conP_mem hn).1 (pd_mem hj)
  obtain ⟨z, hz, he⟩ := ext_cols hn h1.1 h2.1
  exact anyP_mem (p := (z, upW n us z)) ((conP_mem hn).2 ⟨hz, rfl⟩) (by rw [h1.2, h2.2]; exact he)
end Go.Proofs.Ytdeglbmoiofpoaa
