/- The walk of the law LatticeCloses: it answers true, and writes nothing that was there. -/
import Derived.Test.YtdjljnmpffhemaaDoorSub
import Derived.Test.YtdjljnmpffhemaaDoorKeepOpen
import Derived.Test.YtdjljnmpffhemaaDoorKeepZ
import Derived.Test.YtdjljnmpffhemaaDoorTurEx
import Derived.Test.YtdjljnmpffhemaaDoorDualPlain
namespace Go.Proofs.YtdjljnmpffhemaaDoor
open Go.RowKit Go.Shelf

/-- the first k of a list, as a word -/
def wordL (l : List Nat) : Nat → Nat
  | 0 => 0
  | k + 1 => orW (wordL l k) (bitW (wd l k))
theorem hasB_wordL (l : List Nat) (x : Nat) : ∀ k, hasB (wordL l k) x = true ↔ ∃ q, q < k ∧ wd l q = x
  | 0 => by simp [wordL, hasB_zero]
  | k + 1 => by
    unfold wordL
    rw [hasB_or, hasB_bitW, Bool.or_eq_true, hasB_wordL l x k, decide_eq_true_iff]
    constructor
    · rintro (⟨q, hq, e⟩ | e)
      · exact ⟨q, by omega, e⟩
      · exact ⟨k, by omega, e⟩
    · rintro ⟨q, hq, e⟩
      by_cases h : q = k
      · subst h; exact .inr e
      · exact .inl ⟨q, by omega, e⟩
theorem wordL_lt (l : List Nat) (hl : ∀ i, i < l.length → wd l i < 32) : ∀ k, k ≤ l.length → wordL l k < 4294967296
  | 0, _ => by unfold wordL; decide
  | k + 1, hk => by
    unfold wordL
    exact orW_lt (wordL_lt l hl k (by omega)) (bitW_lt (hl k (by omega)))
theorem mem_wordL (l : List Nat) (x : Nat) : hasB (wordL l l.length) x = true ↔ x ∈ l := by
  rw [hasB_wordL]
  exact ⟨fun ⟨q, hq, e⟩ => e ▸ wd_memN hq, fun h => mem_wdN h⟩
theorem zints1 (W : World) (t : TypeId) (x : Int) : ZInts (W.heap.size + 1) (W.alloc (.cells #[.int .i64 x] t)) (some ⟨W.heap.size, 0, none⟩) [x] := by
  have r := Row.new W t [.int .i64 x]
  refine .inr ⟨W.heap.size, 0, rfl, by omega, fun i hi => ?_⟩
  match i, hi with
  | 0, _ => exact r.cell (i := 0) rfl

set_option maxRecDepth 100000 in
set_option maxHeartbeats 1000000 in
theorem closes_err (n : Int) (a : Option Addr) (len cap : Nat) (ag : Option Addr) (lg cg : Nat) (st : Nat) (c : Int) (hc : c ≠ 0) (w : World) (h1 : ∀ W, Below w.heap.size w W → Calls Tryd.prog 15 #[.agg #[.int .i64 n, .slice a len cap], .slice ag lg cg] W fun e w' => e = subErr c ∧ Below W.heap.size W w')
    (h2 : ∀ W, Below w.heap.size w W → Calls Tryd.prog 19 #[.agg #[.int .i64 n, .slice a len cap]] W fun e w' => ∃ (m : Int) (a0 : Option Addr) (l0 c0 : Nat) (a1 : Option Addr) (l1 c1 : Nat) (a2 : Option Addr) (l2 c2 : Nat) (x y : Int) (ok : Bool), e = .returned (.tuple #[.agg #[.int .i64 m, .slice a0 l0 c0, .slice a1 l1 c1, .slice a2 l2 c2, .int .i64 x, .int .i64 y, .bool false], .bool ok]) ∧ Below W.heap.size W w') :
    Calls Tryd.prog 5 #[.agg #[.int .i64 n, .slice a len cap], .slice ag lg cg, .int .u32 (st : Nat)] w fun e w' => e = .returned (.bool true) ∧ Below w.heap.size w w' := by
  obtain ⟨r0, hb0, hs0⟩ := one_row w 24 (.int .i64 n) (.slice a len cap) rfl
  have s1 := h1 _ hb0
  unfold subErr at s1
  have e1 : (c != 0) = true := by rw [bne_iff_ne]; exact hc
  have lt0 := r0.lt
  clear h1 hc
  go_enter Tryd.func5, Tryd.ntmps5
  go_wp2_with fail
  refine s1.mono ?_
  rintro e w1 ⟨rfl, hb1⟩
  have q0 := row_below r0 hb1 lt0
  have j0 := q0.cell (i := 0) rfl
  have j1 := q0.cell (i := 1) rfl
  have hB1 : Below w.heap.size w w1 := hb0.trans (hb1.mono (by omega))
  go_wp2_with fail
  refine (h2 w1 hB1).mono ?_
  rintro e w2 ⟨m, a0, l0, c0, a1, l1, c1, a2, l2, c2, x, y, ok, rfl, hb2⟩
  go_wp2_with fail
  go_ret
  exact ⟨rfl, (hB1.trans (hb2.mono hB1.size)).alloc (by have := hb2.size; have := hB1.size; omega) _⟩

/-- what is known of a set that has so much so far -/
structure HasTo (j m : Nat → Nat → Nat) (n : Nat) (gs : List Nat) (st k x y : Nat) (h : Bool) : Prop where
  out : h = true → outsideB st n = false
  gen : h = true → ∀ q, q < k → hasB st (wd gs q) = true
  rows : h = true → ∀ p q, p < x → q < n → hasB st p = true → hasB st q = true → hasB st (j p q) = true ∧ hasB st (m p q) = true
  row : h = true → ∀ q, q < y → hasB st x = true → hasB st q = true → hasB st (j x q) = true ∧ hasB st (m x q) = true

theorem HasTo.stepK {j m : Nat → Nat → Nat} {n : Nat} {gs : List Nat} {st k : Nat} {h : Bool} (H : HasTo j m n gs st k 0 0 h) (h' : Bool) (h1 : h' = true → h = true) (h2 : h' = true → hasB st (wd gs k) = true) : HasTo j m n gs st (k + 1) 0 0 h' :=
  ⟨fun t => H.out (h1 t), fun t q hq => by
    by_cases e : q = k
    · subst e; exact h2 t
    · exact H.gen (h1 t) q (by omega), fun t p q hp => absurd hp (Nat.not_lt_zero _), fun t q hq => absurd hq (Nat.not_lt_zero _)⟩
theorem HasTo.stepY {j m : Nat → Nat → Nat} {n : Nat} {gs : List Nat} {st k x y : Nat} {h : Bool} (H : HasTo j m n gs st k x y h) (h' : Bool) (h1 : h' = true → h = true) (h2 : h' = true → hasB st x = true → hasB st y = true → hasB st (j x y) = true ∧ hasB st (m x y) = true) : HasTo j m n gs st k x (y + 1) h' :=
  ⟨fun t => H.out (h1 t), fun t => H.gen (h1 t), fun t => H.rows (h1 t), fun t q hq => by
    by_cases e : q = y
    · subst e; exact h2 t
    · exact H.row (h1 t) q (by omega)⟩
theorem HasTo.stepX {j m : Nat → Nat → Nat} {n : Nat} {gs : List Nat} {st k x : Nat} {h : Bool} (H : HasTo j m n gs st k x n h) : HasTo j m n gs st k (x + 1) 0 h :=
  ⟨H.out, H.gen, fun t p q hp hq => by
    by_cases e : p = x
    · subst e; exact H.row t q hq
    · exact H.rows t p q (by omega) hq, fun t q hq => absurd hq (Nat.not_lt_zero _)⟩
theorem bit_is {x i : Nat} {b : Bool} (h : hasB x i = b) (hx : x < 4294967296) (hi : i < 32) (w : World) :
    Calls Tryd.prog 20 #[.int .u32 x, .int .i64 i] w fun e w' => e = .returned (.bool b) ∧ w' = w := by
  have := Bit_any x i hx hi w
  rw [h] at this; exact this

set_option maxRecDepth 100000 in
set_option maxHeartbeats 20000000 in
theorem closes_ok (a : Option Addr) (cap : Nat) (us ds : List Nat) (ag : Option Addr) (cg : Nat) (zs : List Int) (st : Nat) (hst : st < 4294967296) (n₀ : Nat) (hf : Fit us) (w : World) (hT : TabAt w) (hw : IsWords n₀ w a us) (hz : ZInts n₀ w ag zs) (hg : 0 < n₀) (hn₀ : n₀ ≤ w.heap.size) (hc : codeOf us.length us = 0) (hD : Tur us us.length [] ds) (hl : latB us ds = true) (hz16 : zs.length ≤ 16) (hin : AllIn us.length zs) :
    Calls Tryd.prog 5 #[.agg #[.int .i64 us.length, .slice a us.length cap], .slice ag zs.length cg, .int .u32 (st : Nat)] w fun e w' => e = .returned (.bool true) ∧ Below w.heap.size w w' := by
  have hord := (code_zero hc).2.2.2.2
  have hl16 : us.length ≤ 16 := by have := code_zero hc; omega
  have hpos : 0 < us.length := Nat.pos_of_ne_zero (latB_parts hl).1
  obtain ⟨r0, hb0, hs0⟩ := one_row w 24 (.int .i64 us.length) (.slice a us.length cap) rfl
  have s1 := Sub_ok a cap us ds ag cg zs n₀ hf _ (hT.below hb0 (by omega)) (hw.below (hb0.mono hn₀)) (hz.below (hb0.mono hn₀)) hg (by omega) hc hD hl hz16 hin
  have hop : ∀ W, Below w.heap.size w W → _ := fun W hW => open_ok us.length a cap us ds n₀ hf W (hT.below hW (by omega)) (hw.below (hW.mono hn₀)) hg (by have := hW.size; omega) hc hD hl
  have hL : ∀ js ms, NearTo us js (us.length * us.length) → NearTo ds ms (us.length * us.length) → Lat us.length (leW us) (at2 js us.length) (at2 ms us.length) (gath (at2 ms us.length) 0 us.length) (gath (at2 js us.length) 0 us.length) := fun js ms h1 h2 => lat_pre hord hD h1 h2 hpos
  have hU1 : ∀ js ks, NearTo us js (us.length * us.length) → NearTo us ks (us.length * us.length) → js = ks := fun js ks h1 h2 => NearTo.unique hord h1 h2
  have hU2 : ∀ js ks, NearTo ds js (us.length * us.length) → NearTo ds ks (us.length * us.length) → js = ks := fun js ks h1 h2 => NearTo.unique (tur_ord hord hD) h1 h2
  have hgl : (natL zs).length = zs.length := natL_len zs
  have lt0 := r0.lt
  clear hc hl hD
  go_enter Tryd.func5, Tryd.ntmps5
  go_wp2_with fail
  refine s1.mono ?_
  rintro e w1 ⟨av, cv, s, js, ms, rfl, hb1, is, hsort, k1, k2, hmem⟩
  clear s1
  have q0 := row_below r0 hb1 lt0
  have lq0 := q0.lt
  have j0 := q0.cell (i := 0) rfl
  have j1 := q0.cell (i := 1) rfl
  have hB1 : Below w.heap.size w w1 := hb0.trans (hb1.mono (by omega))
  have s2 := hop _ hB1
  clear hop
  go_wp2_with fail
  refine s2.mono ?_
  rintro e w2 ⟨aj, cj, am, cm, js', ms', rfl, hb2, i3, i4, n1, n2⟩
  clear s2 j0 j1
  obtain rfl := hU1 js js' k1 n1
  obtain rfl := hU2 ms ms' k2 n2
  have L := hL js ms n1 n2
  have hlj := n1.len
  have hlm := n2.len
  have hj : ∀ {x y}, x < us.length → y < us.length → at2 js us.length x y < us.length := fun hx hy => L.jlt hx hy
  have hm : ∀ {x y}, x < us.length → y < us.length → at2 ms us.length x y < us.length := fun hx hy => L.mlt hx hy
  clear hL L n1 n2 hU1 hU2 k1 k2
  have hsn : ∀ x ∈ s, x < us.length := fun x hx => (hmem x).1 hx (fun y => y < us.length) (natL_lt hin) (fun p q hp hq => ⟨hj hp hq, hm hp hq⟩)
  have hsl : s.length ≤ us.length := nodup_lt (hsort.imp fun h => by omega) hsn
  have hwlt : wordL s s.length < 4294967296 := wordL_lt s (fun i hi => by have := hsn _ (wd_memN hi); omega) s.length (Nat.le_refl _)
  have hwg : ∀ q, q < (natL zs).length → hasB (wordL s s.length) (wd (natL zs) q) = true := fun q hq => (mem_wordL s _).2 ((hmem _).2 (Gen.base (wd_memN hq)))
  have hwc : ∀ x y, hasB (wordL s s.length) x = true → hasB (wordL s s.length) y = true → hasB (wordL s s.length) (at2 js us.length x y) = true ∧ hasB (wordL s s.length) (at2 ms us.length x y) = true := fun x y hx hy => by
    have h := Gen.two ((hmem x).1 ((mem_wordL s x).1 hx)) ((hmem y).1 ((mem_wordL s y).1 hy))
    exact ⟨(mem_wordL s _).2 ((hmem _).2 h.1), (mem_wordL s _).2 ((hmem _).2 h.2)⟩
  have hend : ∀ h : Bool, HasTo (at2 js us.length) (at2 ms us.length) us.length (natL zs) st (natL zs).length us.length 0 h → h = true → orW (wordL s s.length) st = st := fun h hh ht => by
    apply word_ext
    intro x
    rw [hasB_or]
    cases hx : hasB (wordL s s.length) x with
    | false => simp
    | true =>
      have hgx := (hmem x).1 ((mem_wordL s x).1 hx)
      have hin2 : ∀ p, hasB st p = true → p < us.length := fun p hp => by
        apply Nat.lt_of_not_le; intro hle
        rw [outsideB_false.1 (hh.out ht) p (hasB_lt hst hp) hle] at hp; cases hp
      have : hasB st x = true := hgx (fun p => hasB st p = true) (fun y hy => by
        obtain ⟨q, hq, e⟩ := mem_wdN hy
        rw [← e]; exact hh.gen ht q hq) (fun p q hp hq => hh.rows ht p q (hin2 p hp) (hin2 q hq) hp hq)
      rw [this]; rfl
  generalize gath (at2 ms us.length) 0 us.length = bt at *
  generalize gath (at2 js us.length) 0 us.length = tp at *
  have hs2 := hb2.size
  obtain ⟨V, hV⟩ : ∃ V, V = w2.alloc (.cells #[.int .i64 us.length, .slice a us.length cap, .slice aj (us.length * us.length) cj, .slice am (us.length * us.length) cm, .int .i64 (bt : Nat), .int .i64 (tp : Nat), .bool false] 50) := ⟨_, rfl⟩
  have hA : Below w2.heap.size w2 V := by rw [hV]; exact (Below.refl _ _).alloc (Nat.le_refl _) _
  have zB : Row V w2.heap.size 50 [.int .i64 us.length, .slice a us.length cap, .slice aj (us.length * us.length) cj, .slice am (us.length * us.length) cm, .int .i64 (bt : Nat), .int .i64 (tp : Nat), .bool false] := by rw [hV]; exact Row.new w2 _ _
  have lzB := zB.lt
  have hBV : Below w.heap.size w V := (hB1.trans (hb2.mono hB1.size)).trans (hA.mono (by have := hB1.size; omega))
  have z0 := row_below (row_below q0 hb2 lq0) hA (by omega)
  have lz0 := z0.lt
  have hzV := (natL_ints hin hz).below (hBV.mono hn₀)
  have hVs := hA.size
  have hBVs := hBV.size
  have isV : IsInts V.heap.size V av s := ((is.below hb2).below (hA.mono hs2)).mono (by omega)
  have I3 : IsInts V.heap.size V aj js := (i3.below hA).mono hVs
  have I4 : IsInts V.heap.size V am ms := (i4.below hA).mono hVs
  have por : ∀ (x y : Nat) (W : World), x < us.length → y < us.length → Below V.heap.size V W → Calls Tryd.prog 21 #[.agg #[.int .i64 us.length, .slice a us.length cap, .slice aj (us.length * us.length) cj, .slice am (us.length * us.length) cm, .int .i64 (bt : Nat), .int .i64 (tp : Nat), .bool false], .int .i64 x, .int .i64 y] W fun e w' => e = .returned (.int .i64 (at2 js us.length x y : Nat)) ∧ Below V.heap.size V w' := fun x y W hx hy hW =>
    (bor_any us.length a cap aj cj am cm (bt : Nat) (tp : Nat) false js x y V.heap.size hl16 hx hy hlj W (I3.below hW) hW.size).mono (by
      rintro e w' ⟨rfl, hb⟩
      exact ⟨rfl, hW.trans (hb.mono hW.size)⟩)
  have pand : ∀ (x y : Nat) (W : World), x < us.length → y < us.length → Below V.heap.size V W → Calls Tryd.prog 22 #[.agg #[.int .i64 us.length, .slice a us.length cap, .slice aj (us.length * us.length) cj, .slice am (us.length * us.length) cm, .int .i64 (bt : Nat), .int .i64 (tp : Nat), .bool false], .int .i64 x, .int .i64 y] W fun e w' => e = .returned (.int .i64 (at2 ms us.length x y : Nat)) ∧ Below V.heap.size V w' := fun x y W hx hy hW =>
    (band_any us.length a cap aj cj am cm (bt : Nat) (tp : Nat) false ms x y V.heap.size hl16 hx hy hlm W (I4.below hW) hW.size).mono (by
      rintro e w' ⟨rfl, hb⟩
      exact ⟨rfl, hW.trans (hb.mono hW.size)⟩)
  have hgn := natL_lt hin
  clear hmem hsort i3 i4 is hb1 hb2 q0 lq0 r0 hb0 hs0 lt0 hB1 I3 I4
  generalize natL zs = gs at *
  go_wp2_with fail
  rw [← hV]
  clear hV hA
  go_loopw [11, 44] (fun v i wr => ∃ k : Nat, k ≤ s.length ∧ i = .int .i64 k ∧ v = .int .u32 (wordL s k : Nat) ∧ Below V.heap.size V wr) (fun _ i _ => s.length - (intOf i).toNat)
  case atStart => exact ⟨0, Nat.zero_le _, rfl, rfl, Below.refl _ _⟩
  case round =>
    obtain ⟨k, hk, rfl, rfl, hbr⟩ := hrel
    have hbs := hbr.size
    by_cases hlt : k < s.length
    · obtain ⟨b, off, rfl, hb, hcc⟩ := (isV.below hbr).at hlt
      have hck := hcc k hlt
      have hxn := hsn _ (wd_memN hlt)
      have hwk := wordL_lt s (fun i hi => by have := hsn _ (wd_memN hi); omega) k hk
      have hstep : wordL s (k + 1) = orW (wordL s k) (bitW (wd s k)) := rfl
      have HS := hide hstep
      clear hcc hstep
      generalize wordL s k = acc at *
      generalize wd s k = x at *
      have o0 := (row_below z0 hbr lz0).cell (i := 0) rfl
      have hwi := kwithin_z us.length (some ⟨wr.heap.size, 0, none⟩) 1 [(x : Int)] (wr.heap.size + 1) (by simp) (wr.alloc (.cells #[.int .i64 (x : Nat)] 3)) (zints1 wr 3 x)
      have hwt : allInB us.length [(x : Int)] = true := allInB_true.2 fun i hi => by
        match i, hi with
        | 0, _ => exact ⟨by simp [zd], by simp [zd]; omega⟩
      rw [hwt] at hwi
      have hbr2 := bit_raw (i := x) (by omega)
      have hor := bits_or32 acc (bitW x) hwk (bitW_lt (by omega))
      clear hwt
      go_wp2_with (go_at_call 10; refine hwi.mono ?_; rintro e w3 ⟨rfl, hww⟩; rw [hww]; clear hww w3)
      exact ⟨⟨k + 1, by omega, by go_num, by rw [HS.out], hbr.alloc hbs _⟩, by simp [intOf]; omega⟩
    · obtain rfl : k = s.length := by omega
      generalize wordL s s.length = W at *
      have o0 := (row_below z0 hbr lz0).cell (i := 0) rfl
      have hout := Outside_any st us.length hst hl16 wr
      go_wp2_with (go_at_call 14; refine hout.mono ?_; rintro e w3 ⟨rfl, hww⟩; rw [hww]; clear hww w3)
      clear hout o0
      rw [hgl] at hend hwg
      go_loopw [14, 67] (fun v i wr => ∃ (k : Nat) (h : Bool), k ≤ zs.length ∧ i = .int .i64 k ∧ v = .bool h ∧ HasTo (at2 js us.length) (at2 ms us.length) us.length gs st k 0 0 h ∧ Below V.heap.size V wr) (fun _ i _ => zs.length - (intOf i).toNat)
      case atStart => exact ⟨0, _, Nat.zero_le _, rfl, rfl, ⟨fun h => by simpa using h, fun _ q hq => absurd hq (Nat.not_lt_zero _), fun _ p q hp => absurd hp (Nat.not_lt_zero _), fun _ q hq => absurd hq (Nat.not_lt_zero _)⟩, hbr⟩
      clear hbr hbs
      case round =>
        obtain ⟨k, h, hk, rfl, rfl, hH, hbr⟩ := hrel
        have hbs := hbr.size
        by_cases hlt : k < zs.length
        · obtain ⟨b, off, rfl, hb, hcc⟩ := (hzV.below (hbr.mono (by omega))).at (by omega : k < gs.length)
          have hck := hcc k (by omega)
          have hxn := hgn _ (wd_memN (by omega : k < gs.length))
          have B1 := bit_is (hwg k hlt) hwlt (by omega)
          have H1 := hH.stepK false (fun t => by cases t) (fun t => by cases t)
          have H2 := fun e => hH.stepK h (fun t => t) e
          clear hcc hH hwg hwc hend por pand
          generalize wd gs k = x at *
          cases h with
          | false =>
            go_wp2_with (go_at_call 20; refine (B1 _).mono ?_; rintro e w3 ⟨rfl, hww⟩; rw [hww]; clear hww w3)
            exact ⟨⟨k + 1, _, by omega, by go_num, rfl, H1, hbr⟩, by simp [intOf]; omega⟩
          | true =>
            cases hsx : hasB st x with
            | false =>
              have D1 := bit_is hsx hst (by omega)
              go_wp2_with (go_at_call 20; (first | (refine (B1 _).mono ?_; clear B1) | (refine (D1 _).mono ?_; clear D1)); rintro e w3 ⟨rfl, hww⟩; rw [hww]; clear hww w3)
              exact ⟨⟨k + 1, _, by omega, by go_num, rfl, H1, hbr⟩, by simp [intOf]; omega⟩
            | true =>
              have D1 := bit_is hsx hst (by omega)
              have H3 := H2 (fun _ => hsx)
              go_wp2_with (go_at_call 20; (first | (refine (B1 _).mono ?_; clear B1) | (refine (D1 _).mono ?_; clear D1)); rintro e w3 ⟨rfl, hww⟩; rw [hww]; clear hww w3)
              exact ⟨⟨k + 1, _, by omega, by go_num, rfl, H3, hbr⟩, by simp [intOf]; omega⟩
        · obtain rfl : k = zs.length := by omega
          clear hwg
          go_wp2
          go_loopw [14, 17] (fun v i wr => ∃ (x : Nat) (h : Bool), x ≤ us.length ∧ i = .int .i64 x ∧ v = .bool h ∧ HasTo (at2 js us.length) (at2 ms us.length) us.length gs st zs.length x 0 h ∧ Below V.heap.size V wr) (fun _ i _ => us.length - (intOf i).toNat)
          case atStart => exact ⟨0, _, Nat.zero_le _, rfl, rfl, hH, hbr⟩
          clear hbr hbs hH
          case round =>
            obtain ⟨x, h, hx', rfl, rfl, hH, hbr⟩ := hrel
            have hbs := hbr.size
            have o0 := (row_below z0 hbr lz0).cell (i := 0) rfl
            by_cases hx : x < us.length
            · go_wp2
              clear o0
              go_loopw [14, 18] (fun v i wr => ∃ (y : Nat) (h : Bool), y ≤ us.length ∧ i = .int .i64 y ∧ v = .bool h ∧ HasTo (at2 js us.length) (at2 ms us.length) us.length gs st zs.length x y h ∧ Below V.heap.size V wr) (fun _ i _ => us.length - (intOf i).toNat)
              case atStart => exact ⟨0, _, Nat.zero_le _, rfl, rfl, hH, hbr⟩
              clear hbr hbs hH
              case round =>
                obtain ⟨y, h, hy', rfl, rfl, hH, hbr⟩ := hrel
                have hbs := hbr.size
                have o0 := (row_below z0 hbr lz0).cell (i := 0) rfl
                by_cases hy : y < us.length
                · have c0 := (row_below zB hbr lzB).cell (i := 0) rfl
                  have c1 := (row_below zB hbr lzB).cell (i := 1) rfl
                  have c2 := (row_below zB hbr lzB).cell (i := 2) rfl
                  have c3 := (row_below zB hbr lzB).cell (i := 3) rfl
                  have c4 := (row_below zB hbr lzB).cell (i := 4) rfl
                  have c5 := (row_below zB hbr lzB).cell (i := 5) rfl
                  have c6 := (row_below zB hbr lzB).cell (i := 6) rfl
                  clear hend
                  go_wp2_with fail
                  refine (por x y _ hx hy hbr).mono ?_
                  rintro e wa ⟨rfl, hba⟩
                  clear c0 c1 c2 c3 c4 c5 c6 o0
                  have c0 := (row_below zB hba lzB).cell (i := 0) rfl
                  have c1 := (row_below zB hba lzB).cell (i := 1) rfl
                  have c2 := (row_below zB hba lzB).cell (i := 2) rfl
                  have c3 := (row_below zB hba lzB).cell (i := 3) rfl
                  have c4 := (row_below zB hba lzB).cell (i := 4) rfl
                  have c5 := (row_below zB hba lzB).cell (i := 5) rfl
                  have c6 := (row_below zB hba lzB).cell (i := 6) rfl
                  go_wp2_with fail
                  refine (pand x y _ hx hy hba).mono ?_
                  rintro e wb ⟨rfl, hbb⟩
                  clear c0 c1 c2 c3 c4 c5 c6 hbr hba hbs por pand
                  have hjn := hj hx hy
                  have hmn := hm hx hy
                  have hwc' := hwc x y
                  have HH := fun h' e1 e2 => hH.stepY h' e1 e2
                  clear hj hm hwc hH
                  generalize at2 js us.length x y = j at hjn hwc' HH ⊢
                  generalize at2 ms us.length x y = m at hmn hwc' HH ⊢
                  have W3 : hasB W x = false ∨ (hasB W x = true ∧ hasB W y = false) ∨ (hasB W x = true ∧ hasB W y = true ∧ hasB W j = true ∧ hasB W m = true) := by
                    cases e1 : hasB W x
                    · exact .inl rfl
                    · cases e2 : hasB W y
                      · exact .inr (.inl ⟨rfl, rfl⟩)
                      · exact .inr (.inr ⟨rfl, rfl, hwc' e1 e2⟩)
                  have HE : (∃ D : hasB st x = false, HasTo (at2 js us.length) (at2 ms us.length) us.length gs st zs.length x (y + 1) h) ∨ (∃ (_ : hasB st x = true) (_ : hasB st y = false), HasTo (at2 js us.length) (at2 ms us.length) us.length gs st zs.length x (y + 1) h) ∨ (∃ (_ : hasB st x = true) (_ : hasB st y = true) (_ : hasB st j = false), HasTo (at2 js us.length) (at2 ms us.length) us.length gs st zs.length x (y + 1) false) ∨ (∃ (_ : hasB st x = true) (_ : hasB st y = true) (_ : hasB st j = true) (_ : hasB st m = false), HasTo (at2 js us.length) (at2 ms us.length) us.length gs st zs.length x (y + 1) false) ∨ (∃ (_ : hasB st x = true) (_ : hasB st y = true) (_ : hasB st j = true) (_ : hasB st m = true), HasTo (at2 js us.length) (at2 ms us.length) us.length gs st zs.length x (y + 1) h) := by
                    cases e1 : hasB st x
                    · exact .inl ⟨rfl, HH h (fun t => t) (fun _ t => by rw [e1] at t; cases t)⟩
                    · cases e2 : hasB st y
                      · exact .inr (.inl ⟨rfl, rfl, HH h (fun t => t) (fun _ _ t => by rw [e2] at t; cases t)⟩)
                      · cases e3 : hasB st j
                        · exact .inr (.inr (.inl ⟨rfl, rfl, rfl, HH false (fun t => by cases t) (fun t => by cases t)⟩))
                        · cases e4 : hasB st m
                          · exact .inr (.inr (.inr (.inl ⟨rfl, rfl, rfl, rfl, HH false (fun t => by cases t) (fun t => by cases t)⟩)))
                          · exact .inr (.inr (.inr (.inr ⟨rfl, rfl, rfl, rfl, HH h (fun t => t) (fun _ _ _ => ⟨e3, e4⟩)⟩)))
                  clear HH hwc' hzV hgn isV hz16 hin hw hT hg hf hord hpos
                  rcases W3 with a1 | ⟨a1, a2⟩ | ⟨a1, a2, a3, a4⟩
                  all_goals (
                    have B1 := bit_is a1 hwlt (by omega)
                    try have B2 := bit_is a2 hwlt (by omega)
                    try have B3 := bit_is a3 hwlt (by omega)
                    try have B4 := bit_is a4 hwlt (by omega)
                    rcases HE with ⟨b1, H⟩ | ⟨b1, b2, H⟩ | ⟨b1, b2, b3, H⟩ | ⟨b1, b2, b3, b4, H⟩ | ⟨b1, b2, b3, b4, H⟩
                    all_goals (
                      have D1 := bit_is b1 hst (by omega)
                      try have D2 := bit_is b2 hst (by omega)
                      try have D3 := bit_is b3 hst (by omega)
                      try have D4 := bit_is b4 hst (by omega)
                      go_wp2_with (go_at_call 20; (first | (refine (B1 _).mono ?_; clear B1) | (refine (B2 _).mono ?_; clear B2) | (refine (B3 _).mono ?_; clear B3) | (refine (B4 _).mono ?_; clear B4) | (refine (D1 _).mono ?_; clear D1) | (refine (D2 _).mono ?_; clear D2) | (refine (D3 _).mono ?_; clear D3) | (refine (D4 _).mono ?_; clear D4)); rintro e w3 ⟨rfl, hww⟩; rw [hww]; clear hww w3)
                      exact ⟨⟨y + 1, _, by omega, by go_num, rfl, H, hbb⟩, by simp [intOf]; omega⟩))
                · obtain rfl : y = us.length := by omega
                  have HX := hH.stepX
                  clear hend
                  go_wp2
                  exact ⟨⟨x + 1, _, by omega, by go_num, rfl, HX, hbr⟩, by simp [intOf]; omega⟩
            · obtain rfl : x = us.length := by omega
              have hor := bits_or32 W st hwlt hst
              have hfin := hend h hH
              have hB : Below w.heap.size w _ := hBV.trans (hbr.mono hBVs)
              clear hend hH
              cases h with
              | false =>
                go_wp2
                go_ret
                exact ⟨rfl, hB⟩
              | true =>
                rw [hfin rfl] at hor
                have e3 : ((st : Int) == (st : Int)) = true := by simp
                go_wp2
                go_ret
                exact ⟨rfl, hB⟩

theorem closes_any (n : Int) (a : Option Addr) (cap : Nat) (us : List Nat) (ag : Option Addr) (cg : Nat) (zs : List Int) (st : Nat) (hst : st < 4294967296) (n₀ : Nat) (hf : Fit us) (h63 : zs.length ≤ 9223372036854775807) (w : World) (hT : TabAt w) (hw : IsWords n₀ w a us) (hz : ZInts n₀ w ag zs) (hg : 0 < n₀) (hn₀ : n₀ ≤ w.heap.size) :
    Calls Tryd.prog 5 #[.agg #[.int .i64 n, .slice a us.length cap], .slice ag zs.length cg, .int .u32 (st : Nat)] w fun e w' => e = .returned (.bool true) ∧ Below w.heap.size w w' := by
  have hTW : ∀ {W}, Below w.heap.size w W → TabAt W := fun hW => hT.below hW (by omega)
  have hwW : ∀ {W}, Below w.heap.size w W → IsWords n₀ W a us := fun hW => hw.below (hW.mono hn₀)
  have hzW : ∀ {W}, Below w.heap.size w W → ZInts n₀ W ag zs := fun hW => hz.below (hW.mono hn₀)
  have hnW : ∀ {W}, Below w.heap.size w W → n₀ ≤ W.heap.size := fun hW => by have := hW.size; omega
  have hcomp : ∀ {W X}, Below w.heap.size w W → Below W.heap.size W X → Below w.heap.size w X := fun hW hX => hW.trans (hX.mono hW.size)
  by_cases hc : codeOf n us = 0
  · obtain ⟨ds, hD⟩ := tur_ex hf (by have := code_zero hc; omega)
    cases hl : latB us ds with
    | true =>
      have en := (code_zero hc).2.2.1.symm
      subst en
      have hbadAll : ∀ c : Int, c ≠ 0 → ((16 < zs.length ∧ c = 1) ∨ (zs.length ≤ 16 ∧ ¬ AllIn us.length zs ∧ c = 2)) → _ := fun c hc0 hbad =>
        closes_err us.length a us.length cap ag zs.length cg st c hc0 w (fun W hW => Sub_bad a cap us ds ag cg zs n₀ hf h63 W (hTW hW) (hwW hW) (hzW hW) hg (hnW hW) hc hD hl c hbad)
          (fun W hW => (open_ok us.length a cap us ds n₀ hf W (hTW hW) (hwW hW) hg (hnW hW) hc hD hl).mono (by
            rintro e w' ⟨aj, cj, am, cm, js, ms, rfl, hb, _⟩
            exact ⟨_, _, _, _, _, _, _, _, _, _, _, _, _, rfl, hb⟩))
      by_cases h16 : 16 < zs.length
      · exact hbadAll 1 (by decide) (.inl ⟨h16, rfl⟩)
      · cases hin : allInB us.length zs with
        | true => exact closes_ok a cap us ds ag cg zs st hst n₀ hf w hT hw hz hg hn₀ hc hD hl (by omega) (allInB_true.1 hin)
        | false => exact hbadAll 2 (by decide) (.inr ⟨by omega, allInB_false.1 hin, rfl⟩)
    | false => exact closes_err n a us.length cap ag zs.length cg st 5 (by decide) w (fun W hW => Sub_err n a us.length cap ag zs.length cg 5 (by decide) W fun X hX => TableOf_none n a cap us ds n₀ hf X (hTW (hcomp hW hX)) (hwW (hcomp hW hX)) hg (hnW (hcomp hW hX)) hc hD hl) (fun W hW => (open_err n a us.length cap 5 (by decide) W fun X hX _ => Make_none n a cap us ds n₀ hf X (hTW (hcomp hW hX)) (hwW (hcomp hW hX)) hg (hnW (hcomp hW hX)) hc hD hl).mono (by
          rintro e w' ⟨rfl, hb⟩
          exact ⟨_, _, _, _, _, _, _, _, _, _, _, _, _, rfl, hb⟩))
  · exact closes_err n a us.length cap ag zs.length cg st _ hc w (fun W hW => Sub_err n a us.length cap ag zs.length cg _ hc W fun X hX => TableOf_bad n a cap us n₀ hf X (hTW (hcomp hW hX)) (hwW (hcomp hW hX)) hg (hnW (hcomp hW hX)) hc) (fun W hW => (open_err n a us.length cap _ hc W fun X hX _ => Make_bad n a cap us n₀ hf X (hTW (hcomp hW hX)) (hwW (hcomp hW hX)) hg (hnW (hcomp hW hX)) hc).mono (by
          rintro e w' ⟨rfl, hb⟩
          exact ⟨_, _, _, _, _, _, _, _, _, _, _, _, _, rfl, hb⟩))
end Go.Proofs.YtdjljnmpffhemaaDoor
