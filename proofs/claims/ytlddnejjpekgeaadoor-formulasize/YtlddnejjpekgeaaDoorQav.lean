/- Formulas in memory: keywords, plain names, atoms' texts. -/
import Derived.Test.YtlddnejjpekgeaaDoorQau
set_option linter.unusedSimpArgs false
set_option linter.unusedVariables false
namespace Go.Proofs.YtlddnejjpekgeaaDoor
open Go.RowKit

theorem plain_all_run {s : Tk.Bs} (h : s.all Tk.plainB = true) : Tk.runS Tk.plainB s = s.length := by
  induction s with
  | nil => rfl
  | cons b t ih =>
    simp only [List.all_cons, Bool.and_eq_true] at h
    rw [Tk.runS, if_pos h.1, ih h.2, List.length_cons]
theorem run_all_plain {s : Tk.Bs} (h : Tk.runS Tk.plainB s = s.length) : s.all Tk.plainB = true := by
  induction s with
  | nil => rfl
  | cons b t ih =>
    rw [Tk.runS] at h
    split at h
    · rename_i hb
      rw [List.length_cons] at h
      simp only [List.all_cons, Bool.and_eq_true]
      exact ⟨hb, ih (by omega)⟩
    · rw [List.length_cons] at h
      omega
theorem lex_first (s : Tk.Bs) (hw : Fm.wordB s = true) : (s.all Tk.plainB = true ∧ Tk.lexA s = ([⟨1, s, 0⟩, ⟨0, [], s.length⟩], 0, 0)) ∨ (s.all Tk.plainB = false ∧ ((∃ a, Tk.lexA s = ([], 40, a)) ∨ ∃ t r, Tk.lexA s = (t :: r, 0, 0) ∧ ¬ (t.k = 1 ∧ t.t = s))) := by
  simp only [Fm.wordB, Bool.and_eq_true, decide_eq_true_eq] at hw
  obtain ⟨h1, h20, hq⟩ := hw
  have hq0 : Tk.quotB (s[0]) = true := List.all_eq_true.1 hq _ (List.getElem_mem _)
  have hb0 : Tk.blankB (s[0]) = false := by
    simp only [Tk.quotB, Tk.blankB, decide_eq_true_eq, decide_eq_false_iff_not] at hq0 ⊢
    omega
  have hs0 : Tk.skipS s 0 = 0 := Tk.skip_not (by omega) hb0
  have hqt : Tk.quotedS s = 0 := by
    unfold Tk.quotedS
    rw [if_neg]
    rintro ⟨h, _⟩
    rw [List.getElem?_eq_getElem (by omega)] at h
    injection h with h
    rw [h] at hq0
    revert hq0
    decide
  have hscan : Tk.lexS s = (if (Tk.firstS s).2 = 0 then ([], some 0) else
    (⟨(Tk.firstS s).1, s.take (Tk.firstS s).2, 0⟩ :: (Tk.scan s s.length (Tk.skipS s (0 + (Tk.firstS s).2))).1, (Tk.scan s s.length (Tk.skipS s (0 + (Tk.firstS s).2))).2)) := by
    unfold Tk.lexS
    rw [hs0, Tk.scan, if_neg (by omega), List.drop_zero]
  have hlA : ∀ l o, Tk.lexS s = (l, o) → Tk.lexA s = match o with | none => (l, 0, 0) | some a => ([], 40, a) := by
    intro l o e
    unfold Tk.lexA
    rw [if_neg (by omega), e]
    cases o <;> rfl
  by_cases hp : s.all Tk.plainB = true
  · refine Or.inl ⟨hp, ?_⟩
    have hr := plain_all_run hp
    have hf : Tk.firstS s = (1, s.length) := by
      unfold Tk.firstS
      rw [if_pos (by omega), hr]
    have hsk : Tk.skipS s (0 + s.length) = s.length := by
      unfold Tk.skipS
      rw [Nat.zero_add, List.drop_length]
      rfl
    have hend : Tk.scan s s.length s.length = ([⟨0, [], s.length⟩], none) := by
      obtain ⟨n, hn⟩ : ∃ n, s.length = n + 1 := ⟨s.length - 1, by omega⟩
      have : ∀ a, Tk.scan s (n + 1) a = if s.length ≤ a then ([⟨0, [], s.length⟩], none) else
        if (Tk.firstS (s.drop a)).2 = 0 then ([], some a) else
        (⟨(Tk.firstS (s.drop a)).1, (s.drop a).take (Tk.firstS (s.drop a)).2, a⟩ :: (Tk.scan s n (Tk.skipS s (a + (Tk.firstS (s.drop a)).2))).1, (Tk.scan s n (Tk.skipS s (a + (Tk.firstS (s.drop a)).2))).2) := fun a => by rw [Tk.scan]
      have h2 := this s.length
      rw [if_pos (Nat.le_refl _)] at h2
      rw [← h2, ← hn]
    rw [hf] at hscan
    simp only at hscan
    rw [if_neg (by omega), hsk, hend, List.take_length] at hscan
    exact hlA _ _ hscan
  · have hpf : s.all Tk.plainB = false := by
      cases h : s.all Tk.plainB
      · rfl
      · exact absurd h hp
    refine Or.inr ⟨hpf, ?_⟩
    by_cases h0 : (Tk.firstS s).2 = 0
    · rw [if_pos h0] at hscan
      exact Or.inl ⟨0, hlA _ _ hscan⟩
    · rw [if_neg h0] at hscan
      rcases ho : (Tk.scan s s.length (Tk.skipS s (0 + (Tk.firstS s).2))).2 with _ | a
      · rw [ho] at hscan
        refine Or.inr ⟨_, _, hlA _ _ hscan, ?_⟩
        rintro ⟨e1, e2⟩
        simp only at e1 e2
        unfold Tk.firstS at e1 e2
        by_cases hr : Tk.runS Tk.plainB s ≠ 0
        · rw [if_pos hr] at e2
          simp only at e2
          have hle := Tk.run_le Tk.plainB s
          have hl : (s.take (Tk.runS Tk.plainB s)).length = s.length := by rw [e2]
          rw [List.length_take] at hl
          exact hp (run_all_plain (by omega))
        · rw [if_neg hr, hqt, if_neg (by simp)] at e1
          simp at e1
      · rw [ho] at hscan
        exact Or.inl ⟨a, hlA _ _ hscan⟩
theorem key_eq (s : Tk.Bs) : Fm.keyB s = ((s == [116, 114, 117, 101]) || ((s == [102, 97, 108, 115, 101]) || ((s == [69]) || ((s == [65]) || ((s == [69, 88]) || ((s == [65, 88]) || ((s == [69, 70]) || ((s == [65, 70]) || ((s == [69, 71]) || ((s == [65, 71]) || ((s == [85]) || ((s == [82]))))))))))))) := by
  unfold Fm.keyB Fm.keysL
  simp only [List.contains_cons, List.contains_nil, Bool.or_false]
set_option maxRecDepth 10000 in
set_option maxHeartbeats 4000000 in
theorem iskeyword_any (s : Tk.Bs) (w : World) : Calls Tryd.prog 60 #[.string (bsv s)] w fun e w' => e = .returned (.bool (Fm.keyB s)) ∧ w = w' := by
  have HK := Lib.hid (key_eq s)
  have q0 := eq_lit s [116, 114, 117, 101]
  have q1 := eq_lit s [102, 97, 108, 115, 101]
  have q2 := eq_lit s [69]
  have q3 := eq_lit s [65]
  have q4 := eq_lit s [69, 88]
  have q5 := eq_lit s [65, 88]
  have q6 := eq_lit s [69, 70]
  have q7 := eq_lit s [65, 70]
  have q8 := eq_lit s [69, 71]
  have q9 := eq_lit s [65, 71]
  have q10 := eq_lit s [85]
  have q11 := eq_lit s [82]
  cases h0 : (s == ([116, 114, 117, 101] : Tk.Bs)) with
  | true =>
    have HV : Hid (Fm.keyB s = true) := by unfold Hid; rw [HK.out]; simp only [h0, Bool.true_or, Bool.false_or, Bool.or_true]
    rw [h0] at q0
    clear h0
    go_enter Tryd.func60, Tryd.ntmps60
    go_wp2
    go_ret
    exact ⟨by rw [HV.out]; rfl, rfl⟩
  | false =>
  rw [h0] at q0
  cases h1 : (s == ([102, 97, 108, 115, 101] : Tk.Bs)) with
  | true =>
    have HV : Hid (Fm.keyB s = true) := by unfold Hid; rw [HK.out]; simp only [h0, h1, Bool.true_or, Bool.false_or, Bool.or_true]
    rw [h1] at q1
    clear h0 h1
    go_enter Tryd.func60, Tryd.ntmps60
    go_wp2
    go_ret
    exact ⟨by rw [HV.out]; rfl, rfl⟩
  | false =>
  rw [h1] at q1
  cases h2 : (s == ([69] : Tk.Bs)) with
  | true =>
    have HV : Hid (Fm.keyB s = true) := by unfold Hid; rw [HK.out]; simp only [h0, h1, h2, Bool.true_or, Bool.false_or, Bool.or_true]
    rw [h2] at q2
    clear h0 h1 h2
    go_enter Tryd.func60, Tryd.ntmps60
    go_wp2
    go_ret
    exact ⟨by rw [HV.out]; rfl, rfl⟩
  | false =>
  rw [h2] at q2
  cases h3 : (s == ([65] : Tk.Bs)) with
  | true =>
    have HV : Hid (Fm.keyB s = true) := by unfold Hid; rw [HK.out]; simp only [h0, h1, h2, h3, Bool.true_or, Bool.false_or, Bool.or_true]
    rw [h3] at q3
    clear h0 h1 h2 h3
    go_enter Tryd.func60, Tryd.ntmps60
    go_wp2
    go_ret
    exact ⟨by rw [HV.out]; rfl, rfl⟩
  | false =>
  rw [h3] at q3
  cases h4 : (s == ([69, 88] : Tk.Bs)) with
  | true =>
    have HV : Hid (Fm.keyB s = true) := by unfold Hid; rw [HK.out]; simp only [h0, h1, h2, h3, h4, Bool.true_or, Bool.false_or, Bool.or_true]
    rw [h4] at q4
    clear h0 h1 h2 h3 h4
    go_enter Tryd.func60, Tryd.ntmps60
    go_wp2
    go_ret
    exact ⟨by rw [HV.out]; rfl, rfl⟩
  | false =>
  rw [h4] at q4
  cases h5 : (s == ([65, 88] : Tk.Bs)) with
  | true =>
    have HV : Hid (Fm.keyB s = true) := by unfold Hid; rw [HK.out]; simp only [h0, h1, h2, h3, h4, h5, Bool.true_or, Bool.false_or, Bool.or_true]
    rw [h5] at q5
    clear h0 h1 h2 h3 h4 h5
    go_enter Tryd.func60, Tryd.ntmps60
    go_wp2
    go_ret
    exact ⟨by rw [HV.out]; rfl, rfl⟩
  | false =>
  rw [h5] at q5
  cases h6 : (s == ([69, 70] : Tk.Bs)) with
  | true =>
    have HV : Hid (Fm.keyB s = true) := by unfold Hid; rw [HK.out]; simp only [h0, h1, h2, h3, h4, h5, h6, Bool.true_or, Bool.false_or, Bool.or_true]
    rw [h6] at q6
    clear h0 h1 h2 h3 h4 h5 h6
    go_enter Tryd.func60, Tryd.ntmps60
    go_wp2
    go_ret
    exact ⟨by rw [HV.out]; rfl, rfl⟩
  | false =>
  rw [h6] at q6
  cases h7 : (s == ([65, 70] : Tk.Bs)) with
  | true =>
    have HV : Hid (Fm.keyB s = true) := by unfold Hid; rw [HK.out]; simp only [h0, h1, h2, h3, h4, h5, h6, h7, Bool.true_or, Bool.false_or, Bool.or_true]
    rw [h7] at q7
    clear h0 h1 h2 h3 h4 h5 h6 h7
    go_enter Tryd.func60, Tryd.ntmps60
    go_wp2
    go_ret
    exact ⟨by rw [HV.out]; rfl, rfl⟩
  | false =>
  rw [h7] at q7
  cases h8 : (s == ([69, 71] : Tk.Bs)) with
  | true =>
    have HV : Hid (Fm.keyB s = true) := by unfold Hid; rw [HK.out]; simp only [h0, h1, h2, h3, h4, h5, h6, h7, h8, Bool.true_or, Bool.false_or, Bool.or_true]
    rw [h8] at q8
    clear h0 h1 h2 h3 h4 h5 h6 h7 h8
    go_enter Tryd.func60, Tryd.ntmps60
    go_wp2
    go_ret
    exact ⟨by rw [HV.out]; rfl, rfl⟩
  | false =>
  rw [h8] at q8
  cases h9 : (s == ([65, 71] : Tk.Bs)) with
  | true =>
    have HV : Hid (Fm.keyB s = true) := by unfold Hid; rw [HK.out]; simp only [h0, h1, h2, h3, h4, h5, h6, h7, h8, h9, Bool.true_or, Bool.false_or, Bool.or_true]
    rw [h9] at q9
    clear h0 h1 h2 h3 h4 h5 h6 h7 h8 h9
    go_enter Tryd.func60, Tryd.ntmps60
    go_wp2
    go_ret
    exact ⟨by rw [HV.out]; rfl, rfl⟩
  | false =>
  rw [h9] at q9
  cases h10 : (s == ([85] : Tk.Bs)) with
  | true =>
    have HV : Hid (Fm.keyB s = true) := by unfold Hid; rw [HK.out]; simp only [h0, h1, h2, h3, h4, h5, h6, h7, h8, h9, h10, Bool.true_or, Bool.false_or, Bool.or_true]
    rw [h10] at q10
    clear h0 h1 h2 h3 h4 h5 h6 h7 h8 h9 h10
    go_enter Tryd.func60, Tryd.ntmps60
    go_wp2
    go_ret
    exact ⟨by rw [HV.out]; rfl, rfl⟩
  | false =>
  rw [h10] at q10
  cases h11 : (s == ([82] : Tk.Bs)) with
  | true =>
    have HV : Hid (Fm.keyB s = true) := by unfold Hid; rw [HK.out]; simp only [h0, h1, h2, h3, h4, h5, h6, h7, h8, h9, h10, h11, Bool.true_or, Bool.false_or, Bool.or_true]
    rw [h11] at q11
    clear h0 h1 h2 h3 h4 h5 h6 h7 h8 h9 h10 h11
    go_enter Tryd.func60, Tryd.ntmps60
    go_wp2
    go_ret
    exact ⟨by rw [HV.out]; rfl, rfl⟩
  | false =>
  rw [h11] at q11
  have HV : Hid (Fm.keyB s = false) := by unfold Hid; rw [HK.out]; simp only [h0, h1, h2, h3, h4, h5, h6, h7, h8, h9, h10, h11, Bool.or_self]
  clear h0 h1 h2 h3 h4 h5 h6 h7 h8 h9 h10 h11
  go_enter Tryd.func60, Tryd.ntmps60
  go_wp2
  go_ret
  exact ⟨by rw [HV.out]; rfl, rfl⟩
end Go.Proofs.YtlddnejjpekgeaaDoor
/- Formulas in memory: plain names, atoms' texts. -/
namespace Go.Proofs.YtlddnejjpekgeaaDoor
open Go.RowKit

theorem tok_eql (k a : Int) (s s2 : Tk.Bs) (w : World) : (binOp .eql 53 (.agg #[.int .i64 k, .string (bsv s), .int .i64 a]) (.agg #[.int .i64 1, .string (bsv s2), .int .i64 0])).run Tryd.prog w = .ok (.bool (decide (k = 1 ∧ s = s2 ∧ a = 0))) w := by
  have u3 := Tryd.underlying3
  have a3 := Tryd.isAgg3
  have z3 := Tryd.sizeOf3
  have u4 := Tryd.underlying9
  have a4 := Tryd.isAgg9
  have z4 := Tryd.sizeOf9
  have hS : Tryd.prog.underlying 53 = some (.struct (Tryd.prog.fieldsOf 53)) := by kernel_rfl
  have hp : Tryd.prog.stoodInHeld 53 = false := by kernel_rfl
  generalize hd : decide (k = 1 ∧ s = s2 ∧ a = 0) = d
  have HD := Lib.hid hd
  clear hd
  rw [run_eql_struct, show (10000 : Nat) = 9999 + 1 from rfl, run_equalIn_agg w 9999 53 _ _ hS hp]
  simp only [Program.fieldsOf, Tryd.underlying53]
  go_simp
  have e : ((bsv s).toList = (bsv s2).toList) ↔ s = s2 := by rw [Lib.toList_data, Lib.toList_data]; exact Iff.rfl
  have hd := HD.out
  subst hd
  by_cases h1 : k = 1
  · by_cases h2 : s = s2
    · by_cases h3 : a = 0
      · rw [if_pos h1, if_pos (e.2 h2), if_pos h3, decide_eq_true ⟨h1, h2, h3⟩]
      · rw [if_pos h1, if_pos (e.2 h2), if_neg h3, decide_eq_false (fun h => h3 h.2.2)]
    · rw [if_pos h1, if_neg (fun h => h2 (e.1 h)), decide_eq_false (fun h => h2 h.2.1)]
  · rw [if_neg h1, decide_eq_false (fun h => h1 h.1)]
theorem addw (u x : Tk.Bs) (h : u.length + x.length ≤ 1000000) (w : World) : (Op.stringOp .add (bsv u) (bsv x)).run Tryd.prog w = .ok (.string (bsv (u ++ x))) w := by
  rw [run_string_add_sum w _ _ (by rw [bsv_size, bsv_size]; omega)]
  refine congrArg (fun s => Result.ok (Value.string s) w) ?_
  apply ByteArray.ext
  simp [bsv]
set_option maxRecDepth 10000 in
set_option maxHeartbeats 4000000 in
theorem isplain_any (s : Tk.Bs) (w : World) (hw : Fm.wordB s = true) (hg : Sig w) (h0 : 0 < w.heap.size) :
    Calls Tryd.prog 59 #[.string (bsv s)] w fun e w' => e = .returned (.bool (s.all Tk.plainB)) ∧ Below w.heap.size w w' := by
  have hs : s.length ≤ 9223372036854775807 := by
    simp only [Fm.wordB, Bool.and_eq_true, decide_eq_true_eq] at hw
    omega
  have HX := Lib.hid (lex_any s w hs hg h0)
  have HF := Lib.hid (lex_first s hw)
  clear hw hs hg
  go_enter Tryd.func59, Tryd.ntmps59
  go_wp2_with fail
  refine HX.out.mono ?_
  intro e w1 hQ
  clear HX
  unfold LexP at hQ
  have fin : ∀ (ts : List Tk.Tok) (t : Tk.Tok) (r : List Tk.Tok), ts = t :: r → ∀ v, w1.ownsRow w.heap.size 53 3 v ts.length (flatT ts) → ∃ b c, v = .slice (some ⟨b, 0, none⟩) ts.length c ∧ w1.cell? ⟨b, 0, none⟩ = some (.int .i64 (t.k : Int)) ∧ w1.cell? ⟨b, 1, none⟩ = some (.string (bsv t.t)) ∧ w1.cell? ⟨b, 2, none⟩ = some (.int .i64 (t.a : Int)) := by
    intro ts t r ht v hrow
    subst ht
    obtain ⟨b, c, e, _, hT⟩ := row_TL hrow (by simp)
    obtain ⟨g0, g1, g2⟩ := hT.2.2 0 (by simp)
    exact ⟨b, c, e, g0, g1, g2⟩
  rcases HF.out with ⟨hp, hA⟩ | ⟨hp, ⟨a, hA⟩ | ⟨t, r, hA, hn⟩⟩
  · rw [hA] at hQ
    obtain ⟨v, rfl, hrow, hb1⟩ := hQ
    obtain ⟨b, c, rfl, g0, g1, g2⟩ := fin _ _ _ rfl v hrow
    have HP := Lib.hid hp
    have hix := ix0 b 0 ([⟨1, s, 0⟩, ⟨0, [], s.length⟩] : List Tk.Tok).length c (by simp)
    have hE := tok_eql 1 0 s s
    rw [decide_eq_true ⟨rfl, rfl, rfl⟩] at hE
    clear hrow HF hA hp fin
    go_wp2
    go_ret
    exact ⟨by rw [HP.out]; rfl, hb1⟩
  · rw [hA] at hQ
    obtain ⟨v, rfl, hrow, hb1⟩ := hQ
    have HP := Lib.hid hp
    clear hrow HF hA hp fin
    go_wp2
    go_ret
    exact ⟨by rw [HP.out]; rfl, hb1⟩
  · rw [hA] at hQ
    obtain ⟨v, rfl, hrow, hb1⟩ := hQ
    obtain ⟨b, c, rfl, g0, g1, g2⟩ := fin _ _ _ rfl v hrow
    have HP := Lib.hid hp
    have hix := ix0 b 0 (t :: r).length c (by simp)
    have hE := tok_eql t.k t.a t.t s
    rw [decide_eq_false (fun h => hn ⟨by have := h.1; omega, h.2.1⟩)] at hE
    clear hrow HF hA hp fin hn
    go_wp2
    go_ret
    exact ⟨by rw [HP.out]; rfl, hb1⟩
set_option maxRecDepth 10000 in
set_option maxHeartbeats 4000000 in
theorem atom_text (s : Tk.Bs) (w : World) (hw : Fm.wordB s = true) (hg : Sig w) (h0 : 0 < w.heap.size) :
    Calls Tryd.prog 46 #[.string (bsv s)] w fun e w' => e = .returned (.string (bsv (Fm.atomS s))) ∧ Below w.heap.size w w' := by
  have HX := Lib.hid (isplain_any s w hw hg h0)
  have HKY := Lib.hid (fun V => iskeyword_any s V)
  have hl : s.length ≤ 20 := by
    simp only [Fm.wordB, Bool.and_eq_true, decide_eq_true_eq] at hw
    exact hw.2.1
  have ad1 : ∀ w, (Op.stringOp .add ⟨#[34]⟩ (bsv s)).run Tryd.prog w = .ok (.string (bsv (34 :: s))) w := addw [34] s (by simp; omega)
  have ad2 : ∀ w, (Op.stringOp .add (bsv (34 :: s)) ⟨#[34]⟩).run Tryd.prog w = .ok (.string (bsv (34 :: (s ++ [34])))) w := addw (34 :: s) [34] (by simp; omega)
  clear hw hg hl
  have e1 : Fm.atomS s = if s.all Tk.plainB = true ∧ Fm.keyB s = false then s else 34 :: (s ++ [34]) := by
    unfold Fm.atomS Fm.plainNm
    cases s.all Tk.plainB <;> cases Fm.keyB s <;> rfl
  go_enter Tryd.func46, Tryd.ntmps46
  go_wp2_with fail
  refine HX.out.mono ?_
  rintro e w1 ⟨rfl, hb1⟩
  clear HX
  cases hp : s.all Tk.plainB with
  | false =>
    have HE : Hid (Fm.atomS s = 34 :: (s ++ [34])) := by
      unfold Hid
      rw [e1, hp]
      rfl
    clear e1 hp HKY
    go_wp2
    go_ret
    exact ⟨by rw [HE.out]; rfl, hb1⟩
  | true =>
    cases hk : Fm.keyB s with
    | true =>
      have HE : Hid (Fm.atomS s = 34 :: (s ++ [34])) := by
        unfold Hid
        rw [e1, hp, hk]
        rfl
      rw [hk] at HKY
      clear e1 hp hk
      go_wp2_with fail
      refine (HKY.out _).mono ?_
      rintro e w2 ⟨rfl, rfl⟩
      go_wp2
      go_ret
      exact ⟨by rw [HE.out]; rfl, hb1⟩
    | false =>
      have HE : Hid (Fm.atomS s = s) := by
        unfold Hid
        rw [e1, hp, hk]
        rfl
      rw [hk] at HKY
      clear e1 hp hk
      go_wp2_with fail
      refine (HKY.out _).mono ?_
      rintro e w2 ⟨rfl, rfl⟩
      go_wp2
      go_ret
      exact ⟨by rw [HE.out]; rfl, hb1⟩
end Go.Proofs.YtlddnejjpekgeaaDoor
