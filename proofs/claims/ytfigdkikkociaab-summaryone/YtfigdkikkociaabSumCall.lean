/- The contracts of Check, Apply, Then, Leq and of the document's like, in one form for the laws' walks. -/
import Derived.Test.YtfigdkikkociaabSumArg
import Derived.Test.YtfigdkikkociaabSumRef
import Derived.Test.YtfigdkikkociaabSumThen
import Derived.Test.YtfigdkikkociaabSumLeq
namespace Go.Proofs.Ytfigdkikkociaab
open Go.RowKit Go.Shelf

/-- what Apply hands back -/
def resA (s : Sm) (t : List Int) : List Int := if codeA s t = 0 then makeS s t else []
theorem resA_ok {s : Sm} {t : List Int} (h : codeA s t = 0) : resA s t = makeS s t := if_pos h
theorem resA_bad {s : Sm} {t : List Int} (h : codeA s t ≠ 0) : resA s t = [] := if_neg h
theorem resA_len (s : Sm) (t : List Int) : (resA s t).length ≤ 17592186044416 := by
  by_cases h : codeA s t = 0
  · rw [resA_ok h, makeS_len]
    have := (good_of (codeA_zero h).2.1).out4
    omega
  · rw [resA_bad h]; decide
/-- what Then hands back -/
def resN (s r : Sm) : Sm := if codeN s r = 0 then thenS s r else ⟨0, 0, []⟩
theorem resN_ok {s r : Sm} (h : codeN s r = 0) : resN s r = thenS s r := if_pos h
theorem resN_bad {s r : Sm} (h : codeN s r ≠ 0) : resN s r = ⟨0, 0, []⟩ := if_neg h
theorem resN_len (s r : Sm) : (resN s r).z.length ≤ 17592186044416 := by
  by_cases h : codeN s r = 0
  · rw [resN_ok h, thenS_zlen]
    have := (goods_of h).ro.out4
    omega
  · rw [resN_bad h]; decide
def GotA (s : Sm) (t : List Int) (w : World) (e : Ending) (w' : World) : Prop :=
  ∃ l av cv, l = resA s t ∧ e = .returned (.tuple #[.slice av l.length cv, .int .i64 (codeA s t)]) ∧ SArg w'.heap.size w' av cv l ∧ Below w.heap.size w w'
def GotN (s r : Sm) (w : World) (e : Ending) (w' : World) : Prop :=
  ∃ q av cv, q = resN s r ∧ e = .returned (.tuple #[.agg #[.int .i64 q.k, .int .i64 q.d, .slice av q.z.length cv], .int .i64 (codeN s r)]) ∧ SArg w'.heap.size w' av cv q.z ∧ Below w.heap.size w w'
theorem got_a {s : Sm} {t : List Int} {w : World} {e : Ending} {w' : World} (h : ApplyPost s t w.heap.size e w' ∧ Below w.heap.size w w') : GotA s t w e w' := by
  obtain ⟨⟨hc, he⟩ | ⟨hc, l, av, cv, hl, he, ho⟩, hb⟩ := h
  · exact ⟨[], none, 0, (resA_bad hc).symm, by rw [he]; rfl, ⟨.inl rfl, fun _ => rfl, Nat.le_refl _, by decide⟩, hb⟩
  · exact ⟨l, av, cv, by rw [resA_ok hc]; exact hl, by rw [he, hc], own_arg ho (by have := resA_len s t; rw [resA_ok hc, ← hl] at this; exact this), hb⟩
theorem got_n {s r : Sm} {w : World} {e : Ending} {w' : World} (h : ThenPost s r w.heap.size e w' ∧ Below w.heap.size w w') : GotN s r w e w' := by
  obtain ⟨⟨hc, he⟩ | ⟨hc, q, av, cv, hq, he, ho⟩, hb⟩ := h
  · exact ⟨⟨0, 0, []⟩, none, 0, (resN_bad hc).symm, by rw [he]; rfl, ⟨.inl rfl, fun _ => rfl, Nat.le_refl _, by decide⟩, hb⟩
  · exact ⟨q, av, cv, by rw [resN_ok hc]; exact hq, by rw [he, hc], own_arg ho (by have := resN_len s r; rw [resN_ok hc, ← hq] at this; exact this), hb⟩

theorem cApply {k d : Int} {a : Option Addr} {cap : Nat} {zs : List Int} {b : Option Addr} {cb : Nat} {t : List Int} {w : World} (h : SArg w.heap.size w a cap zs) (ht : SArg w.heap.size w b cb t) :
    Calls Try.prog 11 #[.agg #[.int .i64 k, .int .i64 d, .slice a zs.length cap], .slice b t.length cb] w (GotA ⟨k, d, zs⟩ t w) :=
  (sapply_any k d a cap zs b cb t w.heap.size h.len ht.len63 h.nil ht.cap w h.lies ht.lies (Nat.le_refl _)).mono fun _ _ h => got_a h
theorem cThen {k d : Int} {a : Option Addr} {cap : Nat} {zs : List Int} {k2 d2 : Int} {b : Option Addr} {cb : Nat} {z2 : List Int} {w : World} (h : SArg w.heap.size w a cap zs) (h2 : SArg w.heap.size w b cb z2) :
    Calls Try.prog 9 #[.agg #[.int .i64 k, .int .i64 d, .slice a zs.length cap], .agg #[.int .i64 k2, .int .i64 d2, .slice b z2.length cb]] w (GotN ⟨k, d, zs⟩ ⟨k2, d2, z2⟩ w) :=
  (sthen_any k d a cap zs k2 d2 b cb z2 w.heap.size h.len h2.len h2.nil h.cap w h.lies h2.lies (Nat.le_refl _)).mono fun _ _ h => got_n h
theorem cCheck {k d : Int} {a : Option Addr} {cap : Nat} {zs : List Int} {n : Int} {w : World} (h : SArg w.heap.size w a cap zs) :
    Calls Try.prog 8 #[.agg #[.int .i64 k, .int .i64 d, .slice a zs.length cap], .int .i64 n] w fun e w' => e = .returned (.int .i64 (codeS ⟨k, d, zs⟩ n)) ∧ Below w.heap.size w w' :=
  scheck_any k d a cap zs n w.heap.size h.len w h.lies (Nat.le_refl _)
theorem cLeq {k d : Int} {a : Option Addr} {cap : Nat} {zs : List Int} {k2 d2 : Int} {b : Option Addr} {cb : Nat} {z2 : List Int} {w : World} (h : SArg w.heap.size w a cap zs) (h2 : SArg w.heap.size w b cb z2) :
    Calls Try.prog 12 #[.agg #[.int .i64 k, .int .i64 d, .slice a zs.length cap], .agg #[.int .i64 k2, .int .i64 d2, .slice b z2.length cb]] w fun e w' => e = .returned (.bool (leqM ⟨k, d, zs⟩ ⟨k2, d2, z2⟩)) ∧ Below w.heap.size w w' :=
  sleq_any k d a cap zs k2 d2 b cb z2 w.heap.size h.len h2.len w h.lies h2.lies (Nat.le_refl _)
theorem rLeq {k d : Int} {a : Option Addr} {cap : Nat} {zs : List Int} {k2 d2 : Int} {b : Option Addr} {cb : Nat} {z2 : List Int} {w : World} (h : SArg w.heap.size w a cap zs) (h2 : SArg w.heap.size w b cb z2) :
    Calls Try.prog 16 #[.agg #[.int .i64 k, .int .i64 d, .slice a zs.length cap], .agg #[.int .i64 k2, .int .i64 d2, .slice b z2.length cb]] w fun e w' => e = .returned (.bool (leqM ⟨k, d, zs⟩ ⟨k2, d2, z2⟩)) ∧ Below w.heap.size w w' :=
  rsleq_any k d a cap zs k2 d2 b cb z2 w.heap.size h.len h2.len w h.lies h2.lies (Nat.le_refl _)
theorem rSame {k d : Int} {a : Option Addr} {cap : Nat} {zs : List Int} {k2 d2 : Int} {b : Option Addr} {cb : Nat} {z2 : List Int} {w : World} (h : SArg w.heap.size w a cap zs) (h2 : SArg w.heap.size w b cb z2) :
    Calls Try.prog 10 #[.agg #[.int .i64 k, .int .i64 d, .slice a zs.length cap], .agg #[.int .i64 k2, .int .i64 d2, .slice b z2.length cb]] w fun e w' => e = .returned (.bool (sameM ⟨k, d, zs⟩ ⟨k2, d2, z2⟩)) ∧ Below w.heap.size w w' :=
  rssame_any k d a cap zs k2 d2 b cb z2 w.heap.size h.len w h.lies h2.lies (Nat.le_refl _)
theorem tSame {a : Option Addr} {cap : Nat} {zs : List Int} {b : Option Addr} {cb : Nat} {t : List Int} {w : World} (h : SArg w.heap.size w a cap zs) (ht : SArg w.heap.size w b cb t) :
    Calls Try.prog 15 #[.slice a zs.length cap, .slice b t.length cb] w fun e w' => e = .returned (.bool (sameB zs t)) ∧ Below w.heap.size w w' :=
  rtsame_any a cap zs b cb t w.heap.size h.len63 w h.lies ht.lies (Nat.le_refl _)
theorem tLeq {a : Option Addr} {cap : Nat} {zs : List Int} {b : Option Addr} {cb : Nat} {t : List Int} {w : World} (h : SArg w.heap.size w a cap zs) (ht : SArg w.heap.size w b cb t) :
    Calls Try.prog 13 #[.slice a zs.length cap, .slice b t.length cb] w fun e w' => e = .returned (.bool (leqT zs t)) ∧ Below w.heap.size w w' :=
  tleq_any a cap zs b cb t w.heap.size h.len63 ht.len63 w h.lies ht.lies (Nat.le_refl _)
/-- the same, where blocks are made meanwhile -/
theorem regr {f : FuncId} {args : Array Value} {W : World} {v : Value} (h : ∀ V, Below W.heap.size W V → Calls Try.prog f args V fun e w' => e = .returned v ∧ Below V.heap.size V w') (dr : Nat) (os : Array Obj) :
    Calls Try.prog f args (Go.Sort.grow (redrawn W dr) os) fun e w'' => e = .returned v ∧ ∃ p : Regrown, w'' = Go.Sort.grow (redrawn W p.d) p.os :=
  Calls.regrown_of (h _ (below_regrown W dr os))
end Go.Proofs.Ytfigdkikkociaab
