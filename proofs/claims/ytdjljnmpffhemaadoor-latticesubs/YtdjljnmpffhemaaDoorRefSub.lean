/- The contract of the document's LatticeSub. -/
import Derived.Test.YtdjljnmpffhemaaDoorRefOrAnd
import Derived.Test.YtdjljnmpffhemaaDoorSubPlain
import Derived.Test.YtdjljnmpffhemaaDoorLatErr
import Derived.Test.YtdjljnmpffhemaaDoorApart
namespace Go.Proofs.YtdjljnmpffhemaaDoor
open Go.RowKit Go.Shelf

def bvals (bs : List Bool) : List Value := bs.map Value.bool
theorem bvals_at {bs : List Bool} {i : Nat} (h : i < bs.length) : (bvals bs)[i]? = some (.bool (bd bs i)) := by
  unfold bvals bd; simp [List.getElem?_map, List.getElem?_eq_getElem h, List.getD_eq_getElem?_getD]
theorem bvals_set (bs : List Bool) (i : Nat) (b : Bool) : (bvals bs).set i (.bool b) = bvals (bs.set i b) := by unfold bvals; rw [List.map_set]
theorem bvals_replicate (n : Nat) : (madeCells #[Value.bool false] n) = (bvals (List.replicate n false)).toArray := by
  unfold madeCells bvals
  apply Array.ext
  · simp
  · intro i h1 h2; simp [Nat.mod_one]
theorem bd_replicate (n i : Nat) : bd (List.replicate n false) i = false := by
  unfold bd; rw [List.getD_eq_getElem?_getD, List.getElem?_replicate]; split <;> rfl
theorem info_bool : (Tryd.prog.info? 4).map (fun i => (i.zero, i.size, i.bytes)) = some (some (.bool false), 1, 1) := by kernel_rfl

/-- the boxes and the set, as they lie in a round of LatticeSub -/
structure SSt (w : World) (O L : List Value) (bs : List Bool) (W : World) : Prop where
  o : Row W w.heap.size 24 O
  l : Row W (w.heap.size + 1) 44 L
  s : Row W (w.heap.size + 1 + 1) 4 (bvals bs)
  b : Below w.heap.size w W
theorem SSt.below {w : World} {O L : List Value} {bs : List Bool} {W W' : World} (h : SSt w O L bs W) (hb : Below W.heap.size W W') : SSt w O L bs W' :=
  ⟨row_below h.o hb h.o.lt, row_below h.l hb h.l.lt, row_below h.s hb h.s.lt, h.b.trans (hb.mono h.b.size)⟩
theorem SSt.set {w : World} {O L : List Value} {bs : List Bool} {W : World} (h : SSt w O L bs W) (i : Nat) : SSt w O L (bs.set i true) (W.setCell ⟨w.heap.size + 1 + 1, i, none⟩ (.bool true)) :=
  ⟨h.o.other (by omega) _ _, h.l.other (by omega) _ _, by rw [← bvals_set]; exact h.s.set i _, h.b.setCell (p := ⟨w.heap.size + 1 + 1, i, none⟩) (by simp; omega) _⟩
/-- a turn, as far as a and b -/
structure Half (j m : Nat → Nat → Nat) (n : Nat) (G : Nat → Prop) (cs bs : List Bool) (a b : Nat) : Prop where
  len : bs.length = n
  up : ∀ x, bd cs x = true → bd bs x = true
  gen : ∀ x, bd bs x = true → Gen j m G x
  rows : ∀ p q, p < a → bd cs p = true → bd cs q = true → bd bs (j p q) = true ∧ bd bs (m p q) = true
  row : ∀ q, q < b → bd cs a = true → bd cs q = true → bd bs (j a q) = true ∧ bd bs (m a q) = true
theorem Half.skip {j m : Nat → Nat → Nat} {n : Nat} {G : Nat → Prop} {cs bs : List Bool} {a b : Nat} (h : Half j m n G cs bs a b) (hno : ¬ (bd bs a = true ∧ bd bs b = true)) : Half j m n G cs bs a (b + 1) :=
  ⟨h.len, h.up, h.gen, h.rows, fun q hq h1 h2 => by
    by_cases e : q = b
    · subst e; exact absurd ⟨h.up a h1, h.up q h2⟩ hno
    · exact h.row q (by omega) h1 h2⟩
theorem Half.take {j m : Nat → Nat → Nat} {n : Nat} {G : Nat → Prop} {cs bs : List Bool} {a b : Nat} (h : Half j m n G cs bs a b) (ha : bd bs a = true) (hb : bd bs b = true) (hj : j a b < n) (hm : m a b < n) : Half j m n G cs ((bs.set (j a b) true).set (m a b) true) a (b + 1) := by
  have hl1 : (bs.set (j a b) true).length = n := by simp [h.len]
  have key : ∀ x, bd ((bs.set (j a b) true).set (m a b) true) x = true ↔ x = m a b ∨ x = j a b ∨ bd bs x = true := fun x => by
    rw [bd_set (by rw [hl1]; exact hm), bd_set (by rw [h.len]; exact hj)]
  have hg := Gen.two (h.gen a ha) (h.gen b hb)
  refine ⟨by simp [h.len], fun x hx => (key x).2 (.inr (.inr (h.up x hx))), fun x hx => ?_, fun p q h1 h2 h3 => ?_, fun q hq h1 h2 => ?_⟩
  · rcases (key x).1 hx with e | e | e
    · rw [e]; exact hg.2
    · rw [e]; exact hg.1
    · exact h.gen x e
  · have := h.rows p q h1 h2 h3
    exact ⟨(key _).2 (.inr (.inr this.1)), (key _).2 (.inr (.inr this.2))⟩
  · by_cases e : q = b
    · subst e; exact ⟨(key _).2 (.inr (.inl rfl)), (key _).2 (.inl rfl)⟩
    · have := h.row q (by omega) h1 h2
      exact ⟨(key _).2 (.inr (.inr this.1)), (key _).2 (.inr (.inr this.2))⟩
theorem Half.next {j m : Nat → Nat → Nat} {n : Nat} {G : Nat → Prop} {cs bs : List Bool} {a : Nat} (hl : cs.length = n) (h : Half j m n G cs bs a n) : Half j m n G cs bs (a + 1) 0 :=
  ⟨h.len, h.up, h.gen, fun p q h1 h2 h3 => by
    by_cases e : p = a
    · subst e; exact h.row q (by have := bd_lt h3; omega) h2 h3
    · exact h.rows p q (by omega) h2 h3, fun q hq => by omega⟩
theorem Half.turn {j m : Nat → Nat → Nat} {n : Nat} {G : Nat → Prop} {cs bs : List Bool} {t : Nat} (ht : TurnTo j m n G cs t) (h : Half j m n G cs bs n 0) : TurnTo j m n G bs (t + 1) :=
  ht.next h.len h.up h.gen fun a b ha hb => h.rows a b (by have := bd_lt ha; have := ht.len; omega) ha hb
/-- the first k elements of a set, as a list -/
def setTo (bs : List Bool) (k : Nat) : List Nat := (List.range k).filter (bd bs)
theorem setTo_succ (bs : List Bool) (k : Nat) : setTo bs (k + 1) = setTo bs k ++ if bd bs k then [k] else [] := by
  unfold setTo
  rw [List.range_succ, List.filter_append]
  cases h : bd bs k <;> simp [h]
theorem setTo_len (bs : List Bool) (k : Nat) : (setTo bs k).length ≤ k := by
  unfold setTo
  have := List.length_filter_le (bd bs) (List.range k)
  simpa using this

set_option maxRecDepth 100000 in
set_option maxHeartbeats 4000000 in
theorem RefSub_any (a : Option Addr) (cap : Nat) (us : List Nat) (aj : Option Addr) (cj : Nat) (am : Option Addr) (cm : Nat) (bt tp : Nat) (js ms : List Nat) (ag : Option Addr) (cg : Nat) (gs : List Nat) (n₀ : Nat) (hl16 : us.length ≤ 16) (hlj : js.length = us.length * us.length) (hlm : ms.length = us.length * us.length)
    (hj : ∀ {x y}, x < us.length → y < us.length → at2 js us.length x y < us.length) (hm : ∀ {x y}, x < us.length → y < us.length → at2 ms us.length x y < us.length) (hgs : ∀ x ∈ gs, x < us.length) (hgl : gs.length ≤ 16)
    (w : World) (h1 : IsInts n₀ w aj js) (h2 : IsInts n₀ w am ms) (h3 : IsInts n₀ w ag gs) (hn₀ : n₀ ≤ w.heap.size) :
    Calls Tryd.prog 18 #[.agg #[.int .i64 us.length, .slice a us.length cap], .agg #[.slice aj (us.length * us.length) cj, .slice am (us.length * us.length) cm, .int .i64 (bt : Nat), .int .i64 (tp : Nat)], .slice ag gs.length cg] w fun e w' => ∃ av cv s, e = .returned (.slice av (List.length s) cv) ∧ Below w.heap.size w w' ∧ IsInts w'.heap.size w' av s ∧ s.Pairwise (· < ·) ∧ ∀ x, x ∈ s ↔ Gen (at2 js us.length) (at2 ms us.length) (fun x => x ∈ gs) x := by
  obtain ⟨i0, hi, hz0, hz1, hz2⟩ := info_parts info_int
  have hmk := run_make_row' (P := Tryd.prog) 70 4 (.bool false) 1 Tryd.underlying70 info_bool rfl .i64 .i64 us.length (by omega) (by omega)
  obtain ⟨O, hO⟩ : ∃ O : List Value, O = [.int .i64 us.length, .slice a us.length cap] := ⟨_, rfl⟩
  obtain ⟨V0, hV0⟩ : ∃ V, V = (w.alloc (.cells #[.int .i64 us.length, .slice a us.length cap] 24)).alloc (.cells #[.slice aj (us.length * us.length) cj, .slice am (us.length * us.length) cm, .int .i64 (bt : Nat), .int .i64 (tp : Nat)] 44) := ⟨_, rfl⟩
  obtain ⟨r0, r1, hb0, hs0⟩ := rows_two w 24 44 [.int .i64 us.length, .slice a us.length cap] [.slice aj (us.length * us.length) cj, .slice am (us.length * us.length) cm, .int .i64 (bt : Nat), .int .i64 (tp : Nat)] hV0.symm
  obtain ⟨V, hV⟩ : ∃ V, V = V0.alloc (.cells (madeCells #[Value.bool false] us.length) 4) := ⟨_, rfl⟩
  have hst0 : SSt w [.int .i64 us.length, .slice a us.length cap] [.slice aj (us.length * us.length) cj, .slice am (us.length * us.length) cm, .int .i64 (bt : Nat), .int .i64 (tp : Nat)] (List.replicate us.length false) V := by
    rw [hV, bvals_replicate]
    have r2 := Row.new V0 4 (bvals (List.replicate us.length false))
    rw [hs0] at r2
    exact ⟨r0.alloc _, r1.alloc _, r2, hb0.alloc (by omega) _⟩
  clear hO O
  go_enter Tryd.func18, Tryd.ntmps18
  go_wp2
  rw [← hV0, ← hV]
  clear hV hV0 hmk r0 r1 hb0 hs0
  go_loopw [20] (fun i wr => ∃ (k : Nat) (bs : List Bool), k ≤ gs.length ∧ i = .int .i64 k ∧ SSt w [.int .i64 us.length, .slice a us.length cap] [.slice aj (us.length * us.length) cj, .slice am (us.length * us.length) cm, .int .i64 (bt : Nat), .int .i64 (tp : Nat)] bs wr ∧ bs.length = us.length ∧ (∀ x, bd bs x = true → x ∈ gs) ∧ (∀ q, q < k → bd bs (wd gs q) = true)) (fun i _ => gs.length - (intOf i).toNat)
  case atStart => exact ⟨0, _, Nat.zero_le _, rfl, hst0, by simp, fun x hx => (by rw [bd_replicate] at hx; cases hx), fun q hq => by omega⟩
  case round =>
    clear hst0
    obtain ⟨k, bs, hk, rfl, hst, hbl, hsub, hhas⟩ := hrel
    by_cases hlt : k < gs.length
    · obtain ⟨b, off, rfl, hb, hc⟩ := (h3.below (hst.b.mono hn₀)).at hlt
      have hck := hc k hlt
      have hgk := wd_memN hlt
      have hgn := hgs _ hgk
      generalize hx : wd gs k = x at *
      have HX := hide hx
      have s0 := hst.s.cell (bvals_at (show x < bs.length by omega))
      have sf := hst.s.frozen x
      have hxi : (x : Int) < (us.length : Int) := by omega
      clear hc hx
      go_wp2
      refine ⟨⟨k + 1, bs.set x true, by omega, by go_num, hst.set x, by simp [hbl], fun y hy => ?_, fun q hq => ?_⟩, by simp [intOf]; omega⟩
      · rcases (bd_set (by omega)).1 hy with e | e
        · rw [e]; exact hgk
        · exact hsub y e
      · rw [bd_set (by omega)]
        by_cases e : q = k
        · subst e; exact .inl HX.out
        · exact .inr (hhas q (by omega))
    · obtain rfl : k = gs.length := by omega
      have ht0 : TurnTo (at2 js us.length) (at2 ms us.length) us.length (fun x => x ∈ gs) bs 0 := TurnTo.start hbl fun x => ⟨hsub x, fun hx => by
        obtain ⟨i, hi, e⟩ := mem_wdN hx
        rw [← e]; exact hhas i hi⟩
      clear hbl hsub hhas
      go_wp2
      go_loopw [10] (fun i wr => ∃ (t : Nat) (bs : List Bool), t ≤ us.length ∧ i = .int .i64 t ∧ SSt w [.int .i64 us.length, .slice a us.length cap] [.slice aj (us.length * us.length) cj, .slice am (us.length * us.length) cm, .int .i64 (bt : Nat), .int .i64 (tp : Nat)] bs wr ∧ TurnTo (at2 js us.length) (at2 ms us.length) us.length (fun x => x ∈ gs) bs t) (fun i _ => us.length - (intOf i).toNat)
      case atStart => exact ⟨0, bs, Nat.zero_le _, rfl, hst, ht0⟩
      case round =>
        clear hst ht0
        clear bs
        obtain ⟨t, cs, ht, rfl, hst, hT⟩ := hrel
        have o0 := hst.o.cell (i := 0) rfl
        by_cases hlt : t < us.length
        · go_wp2
          go_loopw [11] (fun i wr => ∃ (x : Nat) (bs : List Bool), x ≤ us.length ∧ i = .int .i64 x ∧ SSt w [.int .i64 us.length, .slice a us.length cap] [.slice aj (us.length * us.length) cj, .slice am (us.length * us.length) cm, .int .i64 (bt : Nat), .int .i64 (tp : Nat)] bs wr ∧ Half (at2 js us.length) (at2 ms us.length) us.length (fun x => x ∈ gs) cs bs x 0) (fun i _ => us.length - (intOf i).toNat)
          case atStart => exact ⟨0, cs, Nat.zero_le _, rfl, hst, hT.len, fun _ h => h, hT.gen, fun p q h => by omega, fun q h => by omega⟩
          case round =>
            clear hst o0
            obtain ⟨x, bs, hx', rfl, hst, hH⟩ := hrel
            have o0 := hst.o.cell (i := 0) rfl
            by_cases hx : x < us.length
            · go_wp2
              go_loopw [12] (fun i wr => ∃ (y : Nat) (bs : List Bool), y ≤ us.length ∧ i = .int .i64 y ∧ SSt w [.int .i64 us.length, .slice a us.length cap] [.slice aj (us.length * us.length) cj, .slice am (us.length * us.length) cm, .int .i64 (bt : Nat), .int .i64 (tp : Nat)] bs wr ∧ Half (at2 js us.length) (at2 ms us.length) us.length (fun x => x ∈ gs) cs bs x y) (fun i _ => us.length - (intOf i).toNat)
              case atStart => exact ⟨0, bs, Nat.zero_le _, rfl, hst, hH⟩
              case round =>
                clear hst o0 hH
                clear bs
                obtain ⟨y, bs, hy', rfl, hst, hH⟩ := hrel
                have o0 := hst.o.cell (i := 0) rfl
                have hbl := hH.len
                by_cases hy : y < us.length
                · have sx := hst.s.cell (bvals_at (show x < bs.length by omega))
                  have sy := hst.s.cell (bvals_at (show y < bs.length by omega))
                  have hxi : (x : Int) < (us.length : Int) := by omega
                  have hyi : (y : Int) < (us.length : Int) := by omega
                  cases hbx : bd bs x with
                  | false =>
                    rw [hbx] at sx
                    have hH2 := hH.skip (fun h => by rw [hbx] at h; cases h.1)
                    clear hbx
                    go_wp2
                    exact ⟨⟨y + 1, bs, by omega, by go_num, hst, hH2⟩, by simp [intOf]; omega⟩
                  | true =>
                    cases hby : bd bs y with
                    | false =>
                      rw [hbx] at sx
                      rw [hby] at sy
                      have hH2 := hH.skip (fun h => by rw [hby] at h; cases h.2)
                      clear hbx hby
                      go_wp2
                      exact ⟨⟨y + 1, bs, by omega, by go_num, hst, hH2⟩, by simp [intOf]; omega⟩
                    | true =>
                      have hH2 := hH.take hbx hby (hj hx hy) (hm hx hy)
                      rw [hbx] at sx
                      rw [hby] at sy
                      have e0 := hst.l.cell (i := 0) rfl
                      have e1 := hst.l.cell (i := 1) rfl
                      have e2 := hst.l.cell (i := 2) rfl
                      have e3 := hst.l.cell (i := 3) rfl
                      have hor := rOr_any us.length aj cj am cm (bt : Nat) (tp : Nat) js x y n₀ hl16 hx hy hlj wr (h1.below (hst.b.mono hn₀)) (by have := hst.b.size; omega)
                      have hand := fun (W : World) (hW : Below w.heap.size w W) => rAnd_any us.length aj cj am cm (bt : Nat) (tp : Nat) ms x y n₀ hl16 hx hy hlm W (h2.below (hW.mono hn₀)) (by have := hW.size; omega)
                      have hr1 := hj hx hy
                      have hr2 := hm hx hy
                      generalize at2 js us.length x y = p at *
                      generalize at2 ms us.length x y = q at *
                      have hpi : (p : Int) < (us.length : Int) := by omega
                      have hqi : (q : Int) < (us.length : Int) := by omega
                      clear hbx hby hH
                      go_wp2_with (first
                        | (go_at_call 35; refine hor.mono ?_; rintro e w3 ⟨rfl, hb3⟩; have st3 := hst.below hb3; have sp := st3.s.cell (bvals_at (show p < bs.length by omega)); have fp := st3.s.frozen p; have st4 := st3.set p; have ha := hand _ st4.b; have e0 := st4.l.cell (i := 0) rfl; have e1 := st4.l.cell (i := 1) rfl; have e2 := st4.l.cell (i := 2) rfl; have e3 := st4.l.cell (i := 3) rfl; have o0 := st4.o.cell (i := 0) rfl)
                        | (go_at_call 36; refine ha.mono ?_; rintro e w5 ⟨rfl, hb5⟩; have st5 := st4.below hb5; have sq := st5.s.cell (bvals_at (show q < (bs.set p true).length by simp; omega)); have fq := st5.s.frozen q))
                      exact ⟨⟨y + 1, _, by omega, by go_num, st5.set q, hH2⟩, by simp [intOf]; omega⟩
                · obtain rfl : y = us.length := by omega
                  have hH2 := Half.next hT.len hH
                  go_wp2
                  exact ⟨⟨x + 1, bs, by omega, by go_num, hst, hH2⟩, by simp [intOf]; omega⟩
            · obtain rfl : x = us.length := by omega
              have hT2 := Half.turn hT hH
              go_wp2
              exact ⟨⟨t + 1, bs, by omega, by go_num, hst, hT2⟩, by simp [intOf]; omega⟩
        · obtain rfl : t = us.length := by omega
          have hall := hT.all
          have hcl := hT.len
          go_wp2
          go_loopw [13, 14] (fun v i wr => ∃ (x : Nat) (av : Option Addr) (cv : Nat), x ≤ us.length ∧ i = .int .i64 x ∧ v = .slice av (setTo cs x).length cv ∧ SSt w [.int .i64 us.length, .slice a us.length cap] [.slice aj (us.length * us.length) cj, .slice am (us.length * us.length) cm, .int .i64 (bt : Nat), .int .i64 (tp : Nat)] cs wr ∧ wr.ownsRow (w.heap.size + 1 + 1 + 1) 3 1 (.slice av (setTo cs x).length cv) (setTo cs x).length (ivals (setTo cs x))) (fun _ i _ => us.length - (intOf i).toNat)
          case atStart => exact ⟨0, none, 0, Nat.zero_le _, rfl, rfl, hst, World.ownsRow_nil ..⟩
          case round =>
            clear hst o0
            obtain ⟨x, av, cv, hx', rfl, rfl, hst, hown⟩ := hrel
            have o0 := hst.o.cell (i := 0) rfl
            have hsl := setTo_len cs x
            by_cases hx : x < us.length
            · have sx := hst.s.cell (bvals_at (show x < cs.length by omega))
              have hxi : (x : Int) < (us.length : Int) := by omega
              have hls := hst.s.lt
              have HS := hide (setTo_succ cs x)
              cases hbx : bd cs x with
              | false =>
                rw [hbx] at sx HS
                clear hbx
                have HS' : Hid (setTo cs (x + 1) = setTo cs x) := by rw [HS.out]; simp [Hid]
                go_wp2
                exact ⟨⟨x + 1, av, cv, by omega, by go_num, by rw [HS'.out], hst, by rw [HS'.out]; exact hown⟩, by simp [intOf]; omega⟩
              | true =>
                rw [hbx] at sx HS
                clear hbx
                have HS' : Hid (setTo cs (x + 1) = setTo cs x ++ [x]) := by rw [HS.out]; simp [Hid]
                generalize setTo cs x = S at *
                go_wp2_with (at_builtin; refine wpList_append_own _ rfl _ _ 27 rfl (w.heap.size + 1 + 1 + 1) 3 i0 (.int .i64 0) 1 8 Tryd.underlying27 hi hz0 hz1 hz2 rfl (by decide) _ _ _ rfl (hown.alloc _) ⟨wr.heap.size, 0, none⟩ 1 1 [.int .i64 (x : Nat)] rfl rfl (cell_one_new _ _ _) (fun u hu => by simp at hu; subst hu; rfl) (by unfold maxLen; omega) (by omega) (by simp; omega) ?_; intro v' w3 hown' hgrow3 _; obtain ⟨g', cap', rfl⟩ := ownsRow_succ hown')
                have hne : ∀ q, q < w.heap.size + 1 + 1 + 1 → some q ≠ (Value.slice av S.length cv).ownBlock := fun q hq e => ownBlock_ge hown hq e
                have hst3 : SSt w [.int .i64 us.length, .slice a us.length cap] [.slice aj (us.length * us.length) cj, .slice am (us.length * us.length) cm, .int .i64 (bt : Nat), .int .i64 (tp : Nat)] cs w3 := ⟨(hst.o.alloc (.cells #[.int .i64 (x : Nat)] 3)).kept hgrow3 (hne _ (by omega)), (hst.l.alloc (.cells #[.int .i64 (x : Nat)] 3)).kept hgrow3 (hne _ (by omega)), (hst.s.alloc (.cells #[.int .i64 (x : Nat)] 3)).kept hgrow3 (hne _ (by omega)), (hst.b.alloc hst.b.size (.cells #[.int .i64 (x : Nat)] 3)).grown hgrow3 (by have := hst.b.size; simp; omega) fun q eq => by
                  have := own_block_ge hown eq
                  omega⟩
                have hl2 : (S ++ [x]).length = S.length + 1 := by simp
                exact ⟨⟨x + 1, some ⟨g', 0, none⟩, cap', by omega, by go_num, by rw [HS'.out, hl2], hst3, by rw [HS'.out, hl2, ivals_snoc]; exact hown'⟩, by simp [intOf]; omega⟩
            · obtain rfl : x = us.length := by omega
              go_wp2
              go_ret
              refine ⟨av, cv, setTo cs us.length, rfl, hst.b, ownsRow_ints hown, filter_riseN _ _, fun y => ?_⟩
              unfold setTo
              rw [List.mem_filter, List.mem_range, ← hall y]
              exact ⟨fun h => h.2, fun h => ⟨by have := bd_lt h; omega, h⟩⟩
end Go.Proofs.YtdjljnmpffhemaaDoor
