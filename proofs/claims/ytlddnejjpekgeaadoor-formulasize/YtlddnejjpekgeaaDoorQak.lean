/- Formulas by numbers: what parterrelaw08.Made makes. -/
import Derived.Test.YtlddnejjpekgeaaDoorQaj
import Derived.Test.YtlddnejjpekgeaaDoorQag
import Derived.Test.YtlddnejjpekgeaaDoorQaa
import Derived.Test.YtlddnejjpekgeaaDoorQaf
import Derived.Deep.CutBlock
import Derived.Deep.DeepCutAuto
import Derived.RegionCalls
import Derived.Laws.NewBlocks
import Derived.Deep.RegionWith
import Derived.Lib.SmallJoins
set_option linter.unusedSimpArgs false
set_option linter.unusedVariables false
namespace Go.Proofs.YtlddnejjpekgeaaDoor
namespace Fm
open Tk

def pickS (zs : List Nat) (n a : Nat) : Nat := if zs.length < a + 1 then 0 else zs.getD a 0 % n
def namesL : List Bs := [[113], [108, 48], [111, 117, 116], [108, 49], [105, 48], [111, 48], [97, 45, 98]]
/-- A formula's kind and what is picked then: where the numbers end, or are too many, or there are enough formulas around it, it is an atom or true. -/
def kindM (zs : List Nat) (d a : Nat) : Int × Nat := if d = 0 ∨ zs.length ≤ a + 1 ∨ 30 < a + 1 then (3 - ((pickS zs 7 (a + 1) / 5 : Nat) : Int), a + 2) else (1 + (pickS zs 18 a : Int), a + 1)
def nameM (zs : List Nat) (k : Int) (a : Nat) : Bs × Nat := if k = 3 then (namesL.getD (pickS zs 7 a) [], a + 1) else ([], a)
def kidsM (g : Nat → F × Nat) : Nat → Nat → List F × Nat
  | 0, a => ([], a)
  | n + 1, a => ((g a).1 :: (kidsM g n (g a).2).1, (kidsM g n (g a).2).2)
def kidN (k : Int) : Nat := (kidsN k).getD 0
def makeS (zs : List Nat) : Nat → Nat → F × Nat
  | 0, a => (.mk (kindM zs 0 a).1 (nameM zs (kindM zs 0 a).1 (kindM zs 0 a).2).1 0 [], (nameM zs (kindM zs 0 a).1 (kindM zs 0 a).2).2)
  | d + 1, a => (.mk (kindM zs (d + 1) a).1 (nameM zs (kindM zs (d + 1) a).1 (kindM zs (d + 1) a).2).1 0 (kidsM (makeS zs d) (kidN (kindM zs (d + 1) a).1) (nameM zs (kindM zs (d + 1) a).1 (kindM zs (d + 1) a).2).2).1,
      (kidsM (makeS zs d) (kidN (kindM zs (d + 1) a).1) (nameM zs (kindM zs (d + 1) a).1 (kindM zs (d + 1) a).2).2).2)
theorem pick_lt (zs : List Nat) (n a : Nat) (h : 0 < n) : pickS zs n a < n := by
  unfold pickS
  split
  · exact h
  · exact Nat.mod_lt _ h
theorem kind_ok (zs : List Nat) (d a : Nat) : 1 ≤ (kindM zs d a).1 ∧ (kindM zs d a).1 ≤ 18 ∧ (d = 0 → (kindM zs d a).1 = 2 ∨ (kindM zs d a).1 = 3) := by
  unfold kindM
  have h7 := pick_lt zs 7 (a + 1) (by decide)
  have h18 := pick_lt zs 18 a (by decide)
  by_cases h : d = 0 ∨ zs.length ≤ a + 1 ∨ 30 < a + 1
  · rw [if_pos h]
    simp only
    omega
  · rw [if_neg h]
    refine ⟨by simp only; omega, by simp only; omega, fun h0 => absurd (Or.inl h0) h⟩
theorem kidsN_some {k : Int} (h1 : 1 ≤ k) (h2 : k ≤ 18) : kidsN k = some (kidN k) := by
  unfold kidN kidsN
  split
  · rfl
  · split
    · rfl
    · rw [if_pos (by omega)]
      rfl
theorem name_ok (zs : List Nat) (k : Int) (a : Nat) : (if k = 3 then wordB (nameM zs k a).1 else (nameM zs k a).1.isEmpty) = true := by
  unfold nameM
  by_cases h : k = 3
  · rw [if_pos h, if_pos h]
    simp only
    have h7 := pick_lt zs 7 a (by decide)
    generalize pickS zs 7 a = p at *
    have hp : p = 0 ∨ p = 1 ∨ p = 2 ∨ p = 3 ∨ p = 4 ∨ p = 5 ∨ p = 6 := by omega
    rcases hp with rfl | rfl | rfl | rfl | rfl | rfl | rfl <;> decide
  · rw [if_neg h, if_neg h]
    rfl
theorem kids_len (g : Nat → F × Nat) : ∀ n a, (kidsM g n a).1.length = n
  | 0, _ => rfl
  | n + 1, a => by rw [kidsM, List.length_cons, kids_len g n]
theorem kids_all {P : F → Prop} (g : Nat → F × Nat) (h : ∀ a, P (g a).1) : ∀ n a, ∀ f ∈ (kidsM g n a).1, P f
  | 0, _ => by intro f hf; cases hf
  | n + 1, a => by
    intro f hf
    rw [kidsM] at hf
    rcases List.mem_cons.1 hf with rfl | hf
    · exact h a
    · exact kids_all g h n _ f hf
theorem okL_of {ks : List F} (h : ∀ f ∈ ks, f.okB = true) : okL ks = true := by
  induction ks with
  | nil => rfl
  | cons a r ih =>
    rw [okL, h a (List.mem_cons_self ..), ih (fun f hf => h f (List.mem_cons_of_mem _ hf))]
    rfl
theorem depL_le {ks : List F} {m : Nat} (h : ∀ f ∈ ks, f.dep ≤ m) : depL ks ≤ m := by
  induction ks with
  | nil => exact Nat.zero_le _
  | cons a r ih =>
    rw [depL]
    have h1 := h a (List.mem_cons_self ..)
    have h2 := ih (fun f hf => h f (List.mem_cons_of_mem _ hf))
    omega
theorem cntL_le {ks : List F} {m : Nat} (h : ∀ f ∈ ks, f.cnt ≤ m) : cntL ks ≤ ks.length * m := by
  induction ks with
  | nil => exact Nat.zero_le _
  | cons a r ih =>
    rw [cntL, List.length_cons, Nat.succ_mul]
    have h1 := h a (List.mem_cons_self ..)
    have h2 := ih (fun f hf => h f (List.mem_cons_of_mem _ hf))
    omega
theorem make_ok (zs : List Nat) : ∀ d a, (makeS zs d a).1.okB = true ∧ (makeS zs d a).1.dep ≤ d + 1 ∧ (makeS zs d a).1.cnt + 1 ≤ 2 ^ (d + 1)
  | 0, a => by
    obtain ⟨h1, h2, h3⟩ := kind_ok zs 0 a
    have hn := name_ok zs (kindM zs 0 a).1 (kindM zs 0 a).2
    have hk : kidsN (kindM zs 0 a).1 = some 0 := by
      rcases h3 rfl with h | h <;> rw [h] <;> rfl
    refine ⟨?_, ?_, ?_⟩
    · simp only [makeS, F.okB, okL, nodeB, Bool.and_true, Bool.and_eq_true, decide_eq_true_eq]
      exact ⟨hk, trivial, hn⟩
    · simp [makeS, F.dep, depL]
    · simp [makeS, F.cnt, cntL]
  | d + 1, a => by
    obtain ⟨h1, h2, _⟩ := kind_ok zs (d + 1) a
    have hn := name_ok zs (kindM zs (d + 1) a).1 (kindM zs (d + 1) a).2
    have hk := kidsN_some h1 h2
    have ih := make_ok zs d
    have hl := kids_len (makeS zs d) (kidN (kindM zs (d + 1) a).1) (nameM zs (kindM zs (d + 1) a).1 (kindM zs (d + 1) a).2).2
    have hle := kidsN_le hk
    refine ⟨?_, ?_, ?_⟩
    · simp only [makeS, F.okB, nodeB, Bool.and_eq_true, decide_eq_true_eq]
      rw [hl]
      exact ⟨⟨hk, trivial, hn⟩, okL_of (kids_all _ (fun b => (ih b).1) _ _)⟩
    · simp only [makeS, F.dep]
      have := depL_le (kids_all (P := fun f => f.dep ≤ d + 1) _ (fun b => (ih b).2.1) (kidN (kindM zs (d + 1) a).1) (nameM zs (kindM zs (d + 1) a).1 (kindM zs (d + 1) a).2).2)
      omega
    · simp only [makeS, F.cnt]
      have := cntL_le (kids_all (P := fun f => f.cnt ≤ 2 ^ (d + 1) - 1) _ (fun b => Nat.le_sub_one_of_lt ((ih b).2.2)) (kidN (kindM zs (d + 1) a).1) (nameM zs (kindM zs (d + 1) a).1 (kindM zs (d + 1) a).2).2)
      rw [hl] at this
      have h3 : kidN (kindM zs (d + 1) a).1 * (2 ^ (d + 1) - 1) ≤ 2 * (2 ^ (d + 1) - 1) := Nat.mul_le_mul_right _ hle
      have h4 : 2 ^ (d + 1 + 1) = 2 * 2 ^ (d + 1) := by rw [Nat.pow_succ]; omega
      have h5 : 1 ≤ 2 ^ (d + 1) := Nat.one_le_two_pow
      omega
/-- What is made is valid, and its text is short. -/
theorem make_valid (zs : List Nat) : validB (makeS zs 6 0).1 = true ∧ (makeS zs 6 0).1.text.length ≤ 2794 := by
  obtain ⟨h1, h2, h3⟩ := make_ok zs 6 0
  have h4 := text_len h1
  have h5 : (2 : Nat) ^ (6 + 1) = 128 := by decide
  rw [h5] at h3
  refine ⟨?_, by omega⟩
  simp only [validB, Bool.and_eq_true, decide_eq_true_eq]
  exact ⟨h1, by omega, by omega⟩
end Fm
end Go.Proofs.YtlddnejjpekgeaaDoor
/- The tokens of a text: what they look like. -/
namespace Go.Proofs.YtlddnejjpekgeaaDoor
namespace Fm
open Tk

/-- A name as it stands among the tokens. -/
def NameT (t : Bs) : Prop := (t ≠ [] ∧ t.all plainB = true) ∨ ∃ w : Bs, w ≠ [] ∧ w.all quotB = true ∧ t = 34 :: (w ++ [34])
def TokT (t : Tok) : Prop := (t.k = 1 ∧ NameT t.t) ∨ (t.k = 2 ∧ t.t ∈ signsL)
def Shape (ts : List Tok) : Prop := ∃ us e, ts = us ++ [e] ∧ e.k = 0 ∧ e.t = [] ∧ ∀ t ∈ us, TokT t
theorem run_all (p : UInt8 → Bool) (u : Bs) : (u.take (runS p u)).all p = true := by
  induction u with
  | nil => rfl
  | cons a u ih =>
    rw [runS]
    split
    · rename_i h
      rw [List.take_succ_cons, List.all_cons, h, ih]
      rfl
    · rfl
theorem first_tok (u : Bs) (h : (firstS u).2 ≠ 0) (a : Nat) : TokT ⟨(firstS u).1, u.take (firstS u).2, a⟩ := by
  have hle := first_le u
  unfold firstS at h hle ⊢
  by_cases h1 : runS plainB u ≠ 0
  · rw [if_pos h1] at h hle ⊢
    refine Or.inl ⟨rfl, Or.inl ⟨?_, run_all plainB u⟩⟩
    intro e
    have := congrArg List.length e
    rw [List.length_take] at this
    simp only [List.length_nil] at this hle
    omega
  · rw [if_neg h1] at h hle ⊢
    by_cases h2 : quotedS u ≠ 0
    · rw [if_pos h2] at h hle ⊢
      refine Or.inl ⟨rfl, Or.inr ?_⟩
      unfold quotedS at h2 hle ⊢
      by_cases hc : u[0]? = some 34 ∧ runS quotB (u.drop 1) ≠ 0 ∧ (u.drop 1)[runS quotB (u.drop 1)]? = some 34
      · rw [if_pos hc] at hle ⊢
        obtain ⟨c1, c2, c3⟩ := hc
        cases u with
        | nil => simp at c1
        | cons b v =>
          simp only [List.getElem?_cons_zero, Option.some.injEq] at c1
          subst c1
          simp only [List.drop_succ_cons, List.drop_zero] at c2 c3 hle ⊢
          refine ⟨v.take (runS quotB v), ?_, run_all quotB v, ?_⟩
          · intro e
            have := congrArg List.length e
            rw [List.length_take] at this
            simp only [List.length_nil, List.length_cons] at this hle
            omega
          · rw [List.take_succ_cons]
            congr 1
            rw [List.take_add_one, c3]
            rfl
      · rw [if_neg hc] at h2
        exact absurd rfl h2
    · rw [if_neg h2] at h hle ⊢
      refine Or.inr ⟨rfl, ?_⟩
      obtain ⟨x, hx, hl, hp⟩ := signIn_some (l := signsL) (u := u) h
      show u.take (signS u) ∈ signsL
      have : u.take (signS u) = x := by
        unfold signS
        rw [← hl]
        exact (List.prefix_iff_eq_take.1 hp).symm
      rw [this]
      exact hx
theorem scan_shape (s : Bs) : ∀ (n a : Nat), s.length + 1 ≤ n + a → a ≤ s.length → (scan s n a).2 = none → Shape (scan s n a).1
  | 0, a, hn, ha, _ => by
    exfalso
    omega
  | n + 1, a, hn, ha, h => by
    by_cases hl : s.length ≤ a
    · rw [scan_end hl]
      exact ⟨[], _, rfl, rfl, rfl, fun t ht => by cases ht⟩
    · by_cases h0 : (firstS (s.drop a)).2 = 0
      · rw [scan_bad (by omega) h0] at h
        cases h
      · rw [scan_tok (by omega) h0] at h ⊢
        have hg := skip_ge s (a + (firstS (s.drop a)).2)
        have hfl := first_le (s.drop a)
        rw [List.length_drop] at hfl
        obtain ⟨us, e, e1, e2, e3, e4⟩ := scan_shape s n _ (by omega) (skip_le s _ (by omega)) h
        refine ⟨_ :: us, e, by rw [e1]; rfl, e2, e3, ?_⟩
        intro t ht
        rcases List.mem_cons.1 ht with rfl | ht
        · exact first_tok _ h0 a
        · exact e4 t ht
theorem lex_shape {s : Bs} {ts : List Tok} (h : lexA s = (ts, 0, 0)) : Shape ts ∧ ts.length ≤ 20001 := by
  have hl := lexA_len s
  rw [h] at hl
  refine ⟨?_, hl⟩
  unfold lexA at h
  split at h
  · simp at h
  · cases he : (lexS s).2 with
    | none =>
      rw [he] at h
      simp only [Prod.mk.injEq, and_true] at h
      rw [← h]
      exact scan_shape s _ _ (by omega) (skip_le s 0 (Nat.zero_le _)) he
    | some b =>
      rw [he] at h
      simp at h
theorem name_trim {t : Bs} (h : NameT t) : (trimQ t = t ∧ t.all plainB = true ∧ t.head? ≠ some 34) ∨ (∃ w : Bs, w ≠ [] ∧ w.all quotB = true ∧ t = 34 :: (w ++ [34]) ∧ trimQ t = w) := by
  rcases h with ⟨h0, h1⟩ | ⟨w, h0, h1, rfl⟩
  · left
    have hh : t.head? ≠ some 34 := by
      cases t with
      | nil => simp
      | cons b r =>
        simp only [List.all_cons, Bool.and_eq_true] at h1
        intro e
        simp only [List.head?_cons, Option.some.injEq] at e
        subst e
        exact absurd h1.1 (by decide)
    refine ⟨?_, h1, hh⟩
    unfold trimQ
    rw [if_neg hh]
  · right
    refine ⟨w, h0, h1, rfl, ?_⟩
    unfold trimQ
    rw [if_pos (show (34 :: (w ++ [34])).head? = some 34 from rfl)]
    simp
end Fm
end Go.Proofs.YtlddnejjpekgeaaDoor
/- Formulas in memory. -/
namespace Go.Proofs.YtlddnejjpekgeaaDoor
open Go.RowKit

mutual
/-- The value v is the formula f, whose parts lie in blocks of a kind. -/
def FV (w : World) (K : Nat → Prop) : Fm.F → Value → Prop
  | .mk k nm lit ks, v => ∃ (A : Option Addr) (c : Nat), v = .agg #[.int .i64 k, .string ⟨nm.toArray⟩, .int .i64 lit, .slice A ks.length c] ∧ FL w K ks A 0
/-- At A lie some formulas, from a place on. -/
def FL (w : World) (K : Nat → Prop) : List Fm.F → Option Addr → Nat → Prop
  | [], _, _ => True
  | f :: r, A, i => (∃ (b off : Nat) (v0 v1 v2 v3 : Value), A = some ⟨b, off, none⟩ ∧ K b ∧ w.cell? ⟨b, off + i * 4, none⟩ = some v0 ∧ w.cell? ⟨b, off + i * 4 + 1, none⟩ = some v1 ∧ w.cell? ⟨b, off + i * 4 + 2, none⟩ = some v2 ∧ w.cell? ⟨b, off + i * 4 + 3, none⟩ = some v3 ∧ FV w K f (.agg #[v0, v1, v2, v3])) ∧ FL w K r A (i + 1)
end
theorem FL.keepL {w w' : World} {K K' : Nat → Prop} (ks : List Fm.F) (h : ∀ f ∈ ks, ∀ v, FV w K f v → FV w' K' f v) (hk : ∀ p : Addr, K p.block → w'.cell? p = w.cell? p) (hB : ∀ b, K b → K' b) : ∀ A i, FL w K ks A i → FL w' K' ks A i := by
  induction ks with
  | nil => intro A i _; trivial
  | cons f r ih =>
    intro A i hl
    rw [FL] at hl ⊢
    obtain ⟨⟨b, off, v0, v1, v2, v3, hA, hb, h0, h1, h2, h3, hf⟩, hr⟩ := hl
    exact ⟨⟨b, off, v0, v1, v2, v3, hA, hB b hb, (hk _ hb).trans h0, (hk _ hb).trans h1, (hk _ hb).trans h2, (hk _ hb).trans h3, h f (List.mem_cons_self ..) _ hf⟩, ih (fun g hg => h g (List.mem_cons_of_mem _ hg)) _ _ hr⟩
theorem FV.keep {w w' : World} {K K' : Nat → Prop} (hk : ∀ p : Addr, K p.block → w'.cell? p = w.cell? p) (hB : ∀ b, K b → K' b) (f : Fm.F) : ∀ v, FV w K f v → FV w' K' f v := by
  induction f using Fm.F.ind with
  | h k nm lit ks ih =>
    intro v hv
    rw [FV] at hv ⊢
    obtain ⟨A, c, e, hl⟩ := hv
    exact ⟨A, c, e, FL.keepL ks ih hk hB A 0 hl⟩
theorem FL.keep {w w' : World} {K K' : Nat → Prop} (hk : ∀ p : Addr, K p.block → w'.cell? p = w.cell? p) (hB : ∀ b, K b → K' b) {ks : List Fm.F} {A : Option Addr} {i : Nat} (h : FL w K ks A i) : FL w' K' ks A i :=
  FL.keepL ks (fun f _ v hv => FV.keep hk hB f v hv) hk hB A i h
/-- Blocks below a bound; those of them that are not one of them. -/
abbrev Lo (B : Nat) : Nat → Prop := fun b => b < B
abbrev NotR (R B : Nat) : Nat → Prop := fun b => b < B ∧ b ≠ R
theorem FV.below {w w' : World} {B C : Nat} {f : Fm.F} {v : Value} (h : FV w (Lo B) f v) (hb : Below C w w') (hB : B ≤ C) : FV w' (Lo B) f v :=
  FV.keep (fun _ hp => hb.cell (Nat.lt_of_lt_of_le hp hB)) (fun _ h => h) f v h
theorem FV.on {w w' : World} {f : Fm.F} {v : Value} (h : FV w (Lo w.heap.size) f v) (hb : Below w.heap.size w w') : FV w' (Lo w'.heap.size) f v :=
  FV.keep (fun _ hp => hb.cell hp) (fun _ h => Nat.lt_of_lt_of_le h hb.size) f v h
theorem FV.more {w : World} {K K' : Nat → Prop} {f : Fm.F} {v : Value} (h : FV w K f v) (hB : ∀ b, K b → K' b) : FV w K' f v := FV.keep (fun _ _ => rfl) hB f v h
theorem FL.on {w w' : World} {ks : List Fm.F} {A : Option Addr} {i : Nat} (h : FL w (Lo w.heap.size) ks A i) (hb : Below w.heap.size w w') : FL w' (Lo w'.heap.size) ks A i :=
  FL.keep (fun _ hp => hb.cell hp) (fun _ h => Nat.lt_of_lt_of_le h hb.size) h
theorem FL.more {w : World} {K K' : Nat → Prop} {ks : List Fm.F} {A : Option Addr} {i : Nat} (h : FL w K ks A i) (hB : ∀ b, K b → K' b) : FL w K' ks A i := FL.keep (fun _ _ => rfl) hB h
/-- The formula at a place: its four cells. -/
theorem FL.at {w : World} {K : Nat → Prop} : ∀ (ks : List Fm.F) (A : Option Addr) (i : Nat), FL w K ks A i → ∀ j (hj : j < ks.length), ∃ (b off : Nat) (A' : Option Addr) (c' : Nat), A = some ⟨b, off, none⟩ ∧ K b ∧
    w.cell? ⟨b, off + (i + j) * 4, none⟩ = some (.int .i64 ks[j].k) ∧ w.cell? ⟨b, off + (i + j) * 4 + 1, none⟩ = some (.string ⟨ks[j].nm.toArray⟩) ∧ w.cell? ⟨b, off + (i + j) * 4 + 2, none⟩ = some (.int .i64 ks[j].lit) ∧ w.cell? ⟨b, off + (i + j) * 4 + 3, none⟩ = some (.slice A' ks[j].ks.length c') ∧
    FV w K ks[j] (.agg #[.int .i64 ks[j].k, .string ⟨ks[j].nm.toArray⟩, .int .i64 ks[j].lit, .slice A' ks[j].ks.length c'])
  | [], _, _, _ => by intro j hj; cases hj
  | f :: r, A, i, h => by
    intro j hj
    rw [FL] at h
    obtain ⟨⟨b, off, v0, v1, v2, v3, hA, hb, h0, h1, h2, h3, hf⟩, hr⟩ := h
    cases j with
    | zero =>
      simp only [List.getElem_cons_zero, Nat.add_zero]
      cases f with
      | mk k nm lit ks =>
        have hf' := hf
        rw [FV] at hf'
        obtain ⟨A', c', e, _⟩ := hf'
        simp only [Value.agg.injEq, Array.mk.injEq, List.cons.injEq, and_true] at e
        obtain ⟨rfl, rfl, rfl, rfl⟩ := e
        exact ⟨b, off, A', c', hA, hb, h0, h1, h2, h3, hf⟩
    | succ j =>
      have := FL.at r A (i + 1) hr j (by simpa using hj)
      simp only [List.getElem_cons_succ]
      rw [show i + (j + 1) = i + 1 + j by omega]
      exact this
theorem FV.mk {w : World} {K : Nat → Prop} {k : Int} {nm : Tk.Bs} {lit : Int} {ks : List Fm.F} {A : Option Addr} {c : Nat} (h : FL w K ks A 0) : FV w K (.mk k nm lit ks) (.agg #[.int .i64 k, .string ⟨nm.toArray⟩, .int .i64 lit, .slice A ks.length c]) := by
  rw [FV]
  exact ⟨A, c, rfl, h⟩
theorem FL.nil (w : World) (K : Nat → Prop) (A : Option Addr) (i : Nat) : FL w K [] A i := by rw [FL]; trivial
theorem FL.cons {w : World} {K : Nat → Prop} {f : Fm.F} {r : List Fm.F} {b off i : Nat} {v0 v1 v2 v3 : Value} (hb : K b) (h0 : w.cell? ⟨b, off + i * 4, none⟩ = some v0) (h1 : w.cell? ⟨b, off + i * 4 + 1, none⟩ = some v1) (h2 : w.cell? ⟨b, off + i * 4 + 2, none⟩ = some v2) (h3 : w.cell? ⟨b, off + i * 4 + 3, none⟩ = some v3)
    (hf : FV w K f (.agg #[v0, v1, v2, v3])) (hr : FL w K r (some ⟨b, off, none⟩) (i + 1)) : FL w K (f :: r) (some ⟨b, off, none⟩) i := by
  rw [FL]
  exact ⟨⟨b, off, v0, v1, v2, v3, rfl, hb, h0, h1, h2, h3, hf⟩, hr⟩
end Go.Proofs.YtlddnejjpekgeaaDoor
/- The reader of formulas: its box, its tokens, what it keeps. -/
namespace Go.Proofs.YtlddnejjpekgeaaDoor
open Go.RowKit

/-- Every block but the reader's stays as it was. -/
structure RKeep (R : Nat) (w w' : World) : Prop where
  os : w'.os = w.os
  tape : w'.tape = w.tape
  output : w'.output = w.output
  size : w.heap.size ≤ w'.heap.size
  blk : ∀ b, b < w.heap.size → b ≠ R → w'.heap[b]? = w.heap[b]?
theorem RKeep.refl (R : Nat) (w : World) : RKeep R w w := ⟨rfl, rfl, rfl, Nat.le_refl _, fun _ _ _ => rfl⟩
theorem RKeep.trans {R : Nat} {a b c : World} (h : RKeep R a b) (k : RKeep R b c) : RKeep R a c :=
  ⟨k.os.trans h.os, k.tape.trans h.tape, k.output.trans h.output, Nat.le_trans h.size k.size, fun i hi hn => (k.blk i (Nat.lt_of_lt_of_le hi h.size) hn).trans (h.blk i hi hn)⟩
theorem RKeep.below {R : Nat} {a b c : World} (h : RKeep R a b) (k : Below b.heap.size b c) : RKeep R a c :=
  h.trans ⟨k.os, k.tape, k.output, k.size, fun i hi _ => k.block i hi⟩
theorem RKeep.set {R : Nat} {a b : World} (h : RKeep R a b) {p : Addr} (hp : p.block = R) (u : Value) : RKeep R a (b.setCell p u) :=
  ⟨h.os, h.tape, h.output, by simpa using h.size, fun i hi hn => (Below.heap_setCell b p u i (fun e => hn (by omega))).trans (h.blk i hi hn)⟩
theorem RKeep.blkOf {R g : Nat} {a b : World} {t : TypeId} {cs : Array Value} (h : RKeep R a b) (k : Blk a g t cs) (hn : g ≠ R) : Blk b g t cs := k.keep (h.blk g k.lt hn)
theorem RKeep.cell {R : Nat} {a b : World} (h : RKeep R a b) {p : Addr} (hl : p.block < a.heap.size) (hn : p.block ≠ R) : b.cell? p = a.cell? p := World.cell?_of_block (h.blk p.block hl hn)
theorem RKeep.low {R B : Nat} {w w' : World} (h : RKeep R w w') (hB : B ≤ w.heap.size) (hR : B ≤ R) : Below B w w' := ⟨h.os, h.tape, h.output, h.size, fun i hi => h.blk i (by omega) (by omega)⟩
theorem RKeep.drew {R : Nat} {a b : World} (h : RKeep R a b) : RKeep R a b.drew := ⟨h.os, h.tape, h.output, h.size, h.blk⟩
theorem RKeep.alloc {R : Nat} {a b : World} (h : RKeep R a b) (o : Obj) : RKeep R a (b.alloc o) := h.below (lowAlloc b o)
/-- Tokens that lie behind an address, below a bound. -/
def TL (w : World) (B b off : Nat) (ts : List Tk.Tok) : Prop := b < B ∧ b < w.heap.size ∧ ∀ k (h : k < ts.length), w.cell? ⟨b, off + k * 3, none⟩ = some (.int .i64 ((ts[k]).k : Int)) ∧ w.cell? ⟨b, off + k * 3 + 1, none⟩ = some (.string (bsv (ts[k]).t)) ∧ w.cell? ⟨b, off + k * 3 + 2, none⟩ = some (.int .i64 ((ts[k]).a : Int))
theorem TL.rk {w w' : World} {R b off : Nat} {ts : List Tk.Tok} (h : TL w R b off ts) (k : RKeep R w w') : TL w' R b off ts :=
  ⟨h.1, Nat.lt_of_lt_of_le h.2.1 k.size, fun i hi => by
    obtain ⟨h0, h1, h2⟩ := h.2.2 i hi
    have hb := h.1
    have hl := h.2.1
    exact ⟨(k.cell (p := ⟨b, _, none⟩) hl (by simp only; omega)).trans h0, (k.cell (p := ⟨b, _, none⟩) hl (by simp only; omega)).trans h1, (k.cell (p := ⟨b, _, none⟩) hl (by simp only; omega)).trans h2⟩⟩
theorem TL.tail {w : World} {B b off : Nat} {t : Tk.Tok} {ts : List Tk.Tok} (h : TL w B b off (t :: ts)) : TL w B b (off + 3) ts :=
  ⟨h.1, h.2.1, fun i hi => by
    have := h.2.2 (i + 1) (by simpa using hi)
    rw [show off + (i + 1) * 3 = off + 3 + i * 3 by omega] at this
    exact this⟩
/-- A row of words and the end, none of them long. -/
def ShapeL (ts : List Tk.Tok) : Prop := Fm.Shape ts ∧ ∀ t ∈ ts, t.t.length ≤ 1000000
/-- The reader at R, the tokens that are left. -/
def PR (w : World) (R : Nat) (ts : List Tk.Tok) : Prop := ∃ b off cap, Blk w R 89 #[.slice (some ⟨b, off, none⟩) ts.length cap] ∧ TL w R b off ts ∧ ShapeL ts ∧ ts.length ≤ 20001 ∧ ts.length ≤ cap
theorem PR.lt {w : World} {R : Nat} {ts : List Tk.Tok} (h : PR w R ts) : R < w.heap.size := by
  obtain ⟨_, _, _, hb, _⟩ := h
  exact hb.lt
theorem shape_cons {t : Tk.Tok} {ts : List Tk.Tok} (h : ShapeL (t :: ts)) (hk : t.k ≠ 0) : ShapeL ts ∧ ts ≠ [] := by
  obtain ⟨⟨us, e, e1, e2, e3, e4⟩, hs⟩ := h
  cases us with
  | nil =>
    simp only [List.nil_append, List.cons.injEq] at e1
    obtain ⟨rfl, rfl⟩ := e1
    exact absurd e2 hk
  | cons u us =>
    simp only [List.cons_append, List.cons.injEq] at e1
    obtain ⟨rfl, rfl⟩ := e1
    exact ⟨⟨⟨us, e, rfl, e2, e3, fun t ht => e4 t (List.mem_cons_of_mem _ ht)⟩, fun t ht => hs t (List.mem_cons_of_mem _ ht)⟩, by simp⟩
theorem shape_head {t : Tk.Tok} {ts : List Tk.Tok} (h : ShapeL (t :: ts)) : (t.k = 0 ∧ t.t = []) ∨ Fm.TokT t := by
  obtain ⟨⟨us, e, e1, e2, e3, e4⟩, _⟩ := h
  cases us with
  | nil =>
    simp only [List.nil_append, List.cons.injEq] at e1
    obtain ⟨rfl, rfl⟩ := e1
    exact Or.inl ⟨e2, e3⟩
  | cons u us =>
    simp only [List.cons_append, List.cons.injEq] at e1
    obtain ⟨rfl, rfl⟩ := e1
    exact Or.inr (e4 _ (List.mem_cons_self ..))
theorem shape_ne {ts : List Tk.Tok} (h : ShapeL ts) : ∃ t r, ts = t :: r := by
  obtain ⟨⟨us, e, rfl, _⟩, _⟩ := h
  cases us with
  | nil => exact ⟨e, [], rfl⟩
  | cons u us => exact ⟨u, us ++ [e], rfl⟩
/-- A text that is there stands at a token that is not the end. -/
theorem shape_text {t : Tk.Tok} {ts : List Tk.Tok} (h : ShapeL (t :: ts)) (hx : t.t ≠ []) : t.k ≠ 0 := by
  rcases shape_head h with ⟨_, h2⟩ | h
  · exact absurd h2 hx
  · rcases h with ⟨h1, _⟩ | ⟨h1, _⟩ <;> omega
abbrev FaultE (k a : Nat) : Ending := .panicked [{ v := .iface 87 (.agg #[.int .i64 (k : Int), .int .i64 (a : Int)]), recovered := false }]
/-- Blocks that were made between two sizes of the heap. -/
abbrev Fr (lo hi : Nat) : Nat → Prop := fun b => lo ≤ b ∧ b < hi
/-- A reading of a formula. -/
def ResP (R : Nat) (w : World) (o : Fm.Res) (e : Ending) (w' : World) : Prop :=
  match o with
  | .error (k, a) => e = FaultE k a ∧ RKeep R w w'
  | .ok (f, ts) => ∃ v, e = .returned v ∧ FV w' (Fr w.heap.size w'.heap.size) f v ∧ PR w' R ts ∧ RKeep R w w'
theorem FV.rk {w w' : World} {R : Nat} {K : Nat → Prop} {f : Fm.F} {v : Value} (h : FV w K f v) (hK : ∀ b, K b → b < w.heap.size ∧ b ≠ R) (k : RKeep R w w') : FV w' K f v :=
  FV.keep (fun p hp => k.cell (hK _ hp).1 (hK _ hp).2) (fun _ hb => hb) f v h
theorem FV.low {w w' : World} {K : Nat → Prop} {f : Fm.F} {v : Value} (h : FV w K f v) (hK : ∀ b, K b → b < w.heap.size) (k : Below w.heap.size w w') : FV w' K f v :=
  FV.keep (fun p hp => k.cell (hK _ hp)) (fun _ hb => hb) f v h
theorem cell_far (w : World) (p q : Addr) (v : Value) (h : p.block ≠ q.block) : (w.setCell q v).cell? p = w.cell? p := World.cell?_of_block (Below.heap_setCell w q v p.block h)
theorem PR.below {w w' : World} {R : Nat} {ts : List Tk.Tok} (h : PR w R ts) (k : Below w.heap.size w w') : PR w' R ts := by
  obtain ⟨b, off, cap, hb, hT, hS, hl, hc⟩ := h
  exact ⟨b, off, cap, hb.below k hb.lt, hT.rk ((RKeep.refl R w).below k), hS, hl, hc⟩
theorem PR.far {w : World} {R : Nat} {ts : List Tk.Tok} (h : PR w R ts) {p : Addr} (hp : R < p.block) (v : Value) : PR (w.setCell p v) R ts := by
  obtain ⟨b, off, cap, hb, hT, hS, hl, hc⟩ := h
  have hbR := hT.1
  exact ⟨b, off, cap, hb.far (by omega) v, ⟨hT.1, by simpa using hT.2.1, fun i hi => by
    obtain ⟨h0, h1, h2⟩ := hT.2.2 i hi
    exact ⟨(cell_far w ⟨b, _, none⟩ p v (by simp only; omega)).trans h0, (cell_far w ⟨b, _, none⟩ p v (by simp only; omega)).trans h1, (cell_far w ⟨b, _, none⟩ p v (by simp only; omega)).trans h2⟩⟩, hS, hl, hc⟩
theorem RKeep.far {R : Nat} {a b : World} (h : RKeep R a b) {p : Addr} (hp : a.heap.size ≤ p.block) (u : Value) : RKeep R a (b.setCell p u) :=
  ⟨h.os, h.tape, h.output, by simpa using h.size, fun i hi hn => (Below.heap_setCell b p u i (by omega)).trans (h.blk i hi hn)⟩
theorem FV.far {w : World} {K : Nat → Prop} {f : Fm.F} {v : Value} (h : FV w K f v) {p : Addr} (hK : ¬ K p.block) (u : Value) : FV (w.setCell p u) K f v :=
  FV.keep (fun q hq => cell_far w q p u (fun e => hK (e ▸ hq))) (fun _ hb => hb) f v h
theorem PR.drew {w : World} {R : Nat} {ts : List Tk.Tok} (h : PR w R ts) : PR w.drew R ts := h
end Go.Proofs.YtlddnejjpekgeaaDoor
