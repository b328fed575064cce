/- Tokens: Lex. -/
import Derived.Test.YtlddnejjpekgeaaDoorQac
import Derived.Deep.Onto
set_option linter.unusedSimpArgs false
set_option linter.unusedVariables false
namespace Go.Proofs.YtlddnejjpekgeaaDoor
open Go.RowKit Go.Shelf

/-- The cells of tokens. -/
def flatT : List Tk.Tok → List Value
  | [] => []
  | x :: r => .int .i64 (x.k : Int) :: .string (bsv x.t) :: .int .i64 (x.a : Int) :: flatT r
theorem flatT_length (ts : List Tk.Tok) : (flatT ts).length = ts.length * 3 := by
  induction ts with
  | nil => rfl
  | cons g r ih => simp only [flatT, List.length_cons, ih]; omega
theorem flatT_append (ts us : List Tk.Tok) : flatT (ts ++ us) = flatT ts ++ flatT us := by
  induction ts with
  | nil => rfl
  | cons g r ih => simp [flatT, ih]
theorem flatT_get (ts : List Tk.Tok) (k : Nat) (h : k < ts.length) : (flatT ts)[k * 3]? = some (.int .i64 ((ts[k]).k : Int)) ∧ (flatT ts)[k * 3 + 1]? = some (.string (bsv (ts[k]).t)) ∧ (flatT ts)[k * 3 + 2]? = some (.int .i64 ((ts[k]).a : Int)) := by
  induction ts generalizing k with
  | nil => simp at h
  | cons g r ih =>
    cases k with
    | zero => simp [flatT]
    | succ k =>
      have := ih k (by simpa using h)
      rw [show (k + 1) * 3 = k * 3 + 1 + 1 + 1 by omega]
      simpa [flatT] using this
theorem app_tok (w : World) (base : Nat) (ty : TypeId) (v : Value) (n : Nat) (xs : List Value) (hown : w.ownsRow base 53 3 v n xs) (b c : Nat) (k a : Int) (s : ByteArray) (hbk : Blk w b 53 #[.int .i64 k, .string s, .int .i64 a]) (hn : n ≤ 100000) (hbase : base ≤ w.heap.size) :
    ∃ v' w', (Builtin.append_ #[39, 39] ty #[v, .slice (some ⟨b, 0, none⟩) 1 c]).run Tryd.prog w = .ok v' w' ∧ w'.ownsRow base 53 3 v' (n + 1) (xs ++ [.int .i64 k, .string s, .int .i64 a]) ∧ w.grownBy w' v.ownBlock ∧ (v'.ownBlock = v.ownBlock ∨ v'.ownBlock = some w.heap.size) :=
  app_own w base 39 ty 53 Tryd.t53 (.agg #[.int .i64 0, .string ⟨#[]⟩, .int .i64 0]) 3 32 Tryd.underlying39 (by kernel_rfl) (by kernel_rfl) (by kernel_rfl) (by kernel_rfl) (by omega) (by kernel_rfl) (by omega) v n xs hown b c [.int .i64 k, .string s, .int .i64 a] hbk rfl (fun u hu => by simp at hu; rcases hu with rfl | rfl | rfl <;> rfl) hn hbase
theorem row_own {W W' : World} {base e size : Nat} {v : Value} {n B : Nat} {xs : List Value} {row : Option Nat} (h : W.ownsRow base e size v n xs) (hg : W.grownBy W' row) (hr : ∀ r, row = some r → B ≤ r ∧ ∃ o : Obj, W.heap[r]? = some o ∧ o.isCells = false) : W'.ownsRow base e size v n xs := by
  obtain ⟨h1, h2⟩ := h
  refine ⟨h1, ?_⟩
  rcases h2 with h2 | ⟨g, cap, cur, rfl, hb, hh, r⟩
  · exact Or.inl h2
  · exact Or.inr ⟨g, cap, cur, rfl, hb, Blk.own (t := e) hh hg hr, r⟩
theorem row_below {W W' : World} {base e size : Nat} {v : Value} {n : Nat} {xs : List Value} (h : W.ownsRow base e size v n xs) (hb : Below W.heap.size W W') : W'.ownsRow base e size v n xs := by
  obtain ⟨h1, h2⟩ := h
  refine ⟨h1, ?_⟩
  rcases h2 with h2 | ⟨g, cap, cur, rfl, hb', hh, r⟩
  · exact Or.inl h2
  · exact Or.inr ⟨g, cap, cur, rfl, hb', Blk.below (t := e) hh hb (Blk.lt (t := e) hh), r⟩
theorem row_cells {W : World} {base e size : Nat} {v : Value} {n : Nat} {xs : List Value} (h : W.ownsRow base e size v n xs) : ∀ (j : Nat) (o : Obj), v.ownBlock = some j → W.heap[j]? = some o → o.isCells = true := by
  intro j o hj ho
  rcases h.2 with ⟨rfl, _⟩ | ⟨g, cap, cur, rfl, hb, hh, _⟩
  · cases hj
  · simp [Value.ownBlock] at hj
    subst hj
    rw [hh] at ho
    cases ho
    rfl
theorem wpListIn_app {F : Fence} {n : Nat} {ops : Array Oper} {rest : List Oper} {o : Oper} {a : Act} {Q : Exit → Act → World → Prop} {w : World} (hgd : o.guard = none) (s x : Operand) (t : TypeId)
    (ho : o.op = .call { callee := .builtin .append, args := #[s, x], argTypes := #[t, t] }) (v arg : Value) (hs1 : a.eval s = v) (hx : a.eval x = arg) (v' : Value) (w' : World)
    (hrun : (Builtin.append_ #[t, t] o.type #[v, arg]).run Tryd.prog w = .ok v' w')
    (h : wpListIn F n Tryd.prog ops Q rest (a.put o.dst v') w') : wpListIn F n Tryd.prog ops Q (o :: rest) a w := by
  refine wpListIn_plain hgd fun K hK => ?_
  unfold Oper.wpIn
  refine ⟨?_, ?_⟩
  · simp [Oper.about, ho, resolve, Target.leads, Sem.run_pure]
  · rw [Oper.semAt_plain F _ _ (by rw [ho]; intro c hc'; cases hc')]
    simp [execOp, ho, resolve, invoke, builtin, hs1, hx, hrun, Result.andThen]
    exact hK _ _ h
/-- What Lex hands back. -/
def LexP (s : Tk.Bs) (w : World) (e : Ending) (w' : World) : Prop :=
  ∃ v, e = .returned (.tuple #[v, .int .i64 ((Tk.lexA s).2.1 : Int), .int .i64 ((Tk.lexA s).2.2 : Int)]) ∧ w'.ownsRow w.heap.size 53 3 v (Tk.lexA s).1.length (flatT (Tk.lexA s).1) ∧ Below w.heap.size w w'
/-- What Lex keeps in its boxes: the three results, the list, the text. -/
structure LI (w W : World) (s : Tk.Bs) (v : Value) (ts : List Tk.Tok) : Prop where
  low : Below w.heap.size w W
  r0 : Blk W w.heap.size 39 #[.slice none 0 0]
  r1 : Blk W (w.heap.size + 1) 36 #[.int .i64 0]
  r2 : Blk W (w.heap.size + 1 + 1) 3 #[.int .i64 0]
  lb : Blk W (w.heap.size + 1 + 1 + 1) 39 #[v]
  sb : Blk W (w.heap.size + 1 + 1 + 1 + 1) 9 #[.string (bsv s)]
  row : W.ownsRow (w.heap.size + 1 + 1 + 1 + 1 + 1) 53 3 v ts.length (flatT ts)
section
variable {w W W' : World} {s : Tk.Bs} {v : Value} {ts : List Tk.Tok}
theorem LI.own {B : Nat} {row : Option Nat} (h : LI w W s v ts) (hB : w.heap.size ≤ B) (hg : W.grownBy W' row) (hr : ∀ r, row = some r → B ≤ r ∧ ∃ o : Obj, W.heap[r]? = some o ∧ o.isCells = false) : LI w W' s v ts :=
  ⟨below_own h.low (Nat.le_refl _) hB hg hr, h.r0.own hg hr, h.r1.own hg hr, h.r2.own hg hr, h.lb.own hg hr, h.sb.own hg hr, row_own h.row hg hr⟩
theorem LI.below (h : LI w W s v ts) (hb : Below W.heap.size W W') : LI w W' s v ts :=
  ⟨h.low.trans (hb.mono h.low.size), h.r0.below hb h.r0.lt, h.r1.below hb h.r1.lt, h.r2.below hb h.r2.lt, h.lb.below hb h.lb.lt, h.sb.below hb h.sb.lt, row_below h.row hb⟩
theorem LI.alloc (h : LI w W s v ts) (o : Obj) : LI w (W.alloc o) s v ts := h.below (lowAlloc W o)
end
/-- What holds when the text went wrong. -/
def LX (w W : World) (c : Code) (pre : List (Tk.Tok × Nat)) : Prop :=
  c = .ret ∧ ∃ (ts : List Tk.Tok) (t : Tk.Tok) (e : Nat), e ≠ 0 ∧ pre = ts.map (fun t => (t, 0)) ++ [(t, e)] ∧ Blk W w.heap.size 39 #[.slice none 0 0] ∧ Blk W (w.heap.size + 1) 36 #[.int .i64 (e : Int)] ∧ Blk W (w.heap.size + 1 + 1) 3 #[.int .i64 (t.a : Int)] ∧ Below w.heap.size w W
theorem LX.own {w W W' : World} {c : Code} {pre : List (Tk.Tok × Nat)} {B : Nat} {row : Option Nat} (h : LX w W c pre) (hB : w.heap.size ≤ B) (hg : W.grownBy W' row) (hr : ∀ r, row = some r → B ≤ r ∧ ∃ o : Obj, W.heap[r]? = some o ∧ o.isCells = false) : LX w W' c pre := by
  obtain ⟨hc, ts, t, e, he, hp, h0, h1, h2, hl⟩ := h
  exact ⟨hc, ts, t, e, he, hp, h0.own hg hr, h1.own hg hr, h2.own hg hr, below_own hl (Nat.le_refl _) hB hg hr⟩
theorem tokens_stops (m Bs : Nat) (s : Tk.Bs) (K : Nat → Prop) (hm : 1 ≤ m) (hs : s.length ≤ 20000) (hK1 : K Bs) (hK2 : K 0) (w : World) (hB : Blk w Bs 9 #[.string (bsv s)]) (hg : Sig w) (h0 : 0 < w.heap.size) :
    SeqStopsK Fence.wide m Tryd.prog 48 #[.pointer (some ⟨Bs, 0, none⟩)] itemV (KS K) (fun ys => ys = Tk.itemsS s) (fun pre => ∃ suf, pre ++ suf = Tk.itemsS s) (s.length + 2) w := fun l J Jx W hW _ _ hY h0' =>
  tokens1_in m l Bs s K hm hs hK1 hK2 J Jx hY W (hB.below hW hB.lt) (hg.below hW h0) h0'

attribute [local go_sem] Oper.semAt_some bsv_size
set_option maxHeartbeats 2000000 in
theorem lex_long (s : Tk.Bs) (w : World) (hs : s.length ≤ 9223372036854775807) (hl : ¬ s.length ≤ 20000) : Calls Tryd.prog 22 #[.string (bsv s)] w (LexP s w) := by
  have hA : Tk.lexA s = ([], 2, 0) := by unfold Tk.lexA; rw [if_pos (by omega)]
  have HA := Lib.hid hA
  clear hA
  go_enter Tryd.func22, Tryd.ntmps22
  go_wp2
  refine bodyPost_ret (v := .tuple #[.slice none 0 0, .int .i64 2, .int .i64 0]) (by simp [results, Tryd.f22, go_sem]) rfl ?_
  refine ⟨.slice none 0 0, by rw [HA.out]; rfl, by rw [HA.out]; exact World.ownsRow_nil _ _ _ _, ?_⟩
  exact (((Below.refl _ w).alloc (by simp) _).alloc (by simp) _).alloc (by simp; omega) _
set_option maxRecDepth 100000 in
set_option maxHeartbeats 4000000 in
theorem lex_short (s : Tk.Bs) (w : World) (hl : s.length ≤ 20000) (hg : Sig w) (h0 : 0 < w.heap.size) : Calls Tryd.prog 22 #[.string (bsv s)] w (LexP s w) := by
  refine (callsIn_wide (n := 9)).1 (callsIn_of_wp_marks Tryd.func22 rfl trivial (wpIn_wide.2 ?_) rfl)
  simp only [Tryd.ntmps22, List.size_toArray, List.length_cons, List.length_nil, Nat.reduceAdd, Nat.reduceSub, Array.replicate_succ, Array.replicate_zero, List.push_toArray, List.append_toArray, List.nil_append, List.cons_append]
  go_wp2_with (go_at_call 39; refine (tokens_any s _).mono ?_; rintro e w' ⟨rfl, rfl⟩)
  have L0 : LI w (((((w.alloc (Obj.cells #[.slice none 0 0] 39)).alloc (Obj.cells #[.int .i64 0] 36)).alloc (Obj.cells #[.int .i64 0] 3)).alloc (Obj.cells #[.slice none 0 0] 39)).alloc (Obj.cells #[.string (bsv s)] 9)) s (.slice none 0 0) [] := by
    refine ⟨((((((Below.refl _ w).alloc (by simp) _).alloc (by simp) _).alloc (by simp; omega) _).alloc (by simp; omega) _).alloc (by simp; omega) _), ?_, ?_, ?_, ?_, ?_, World.ownsRow_nil _ _ _ _⟩
    · have := (((((Blk.new w 39 #[.slice none 0 0]).alloc (Obj.cells #[.int .i64 0] 36)).alloc (Obj.cells #[.int .i64 0] 3)).alloc (Obj.cells #[.slice none 0 0] 39)).alloc (Obj.cells #[.string (bsv s)] 9))
      simpa using this
    · have := ((((Blk.new (w.alloc (Obj.cells #[.slice none 0 0] 39)) 36 #[.int .i64 0]).alloc (Obj.cells #[.int .i64 0] 3)).alloc (Obj.cells #[.slice none 0 0] 39)).alloc (Obj.cells #[.string (bsv s)] 9))
      simpa using this
    · have := (((Blk.new ((w.alloc (Obj.cells #[.slice none 0 0] 39)).alloc (Obj.cells #[.int .i64 0] 36)) 3 #[.int .i64 0]).alloc (Obj.cells #[.slice none 0 0] 39)).alloc (Obj.cells #[.string (bsv s)] 9))
      simpa using this
    · have := ((Blk.new (((w.alloc (Obj.cells #[.slice none 0 0] 39)).alloc (Obj.cells #[.int .i64 0] 36)).alloc (Obj.cells #[.int .i64 0] 3)) 39 #[.slice none 0 0]).alloc (Obj.cells #[.string (bsv s)] 9))
      simpa using this
    · have := (Blk.new ((((w.alloc (Obj.cells #[.slice none 0 0] 39)).alloc (Obj.cells #[.int .i64 0] 36)).alloc (Obj.cells #[.int .i64 0] 3)).alloc (Obj.cells #[.slice none 0 0] 39)) 9 #[.string (bsv s)])
      simpa using this
  have hsz : (((((w.alloc (Obj.cells #[.slice none 0 0] 39)).alloc (Obj.cells #[.int .i64 0] 36)).alloc (Obj.cells #[.int .i64 0] 3)).alloc (Obj.cells #[.slice none 0 0] 39)).alloc (Obj.cells #[.string (bsv s)] 9)).heap.size = w.heap.size + 1 + 1 + 1 + 1 + 1 := by simp
  generalize (((((w.alloc (Obj.cells #[.slice none 0 0] 39)).alloc (Obj.cells #[.int .i64 0] 36)).alloc (Obj.cells #[.int .i64 0] 3)).alloc (Obj.cells #[.slice none 0 0] 39)).alloc (Obj.cells #[.string (bsv s)] 9)) = V at *
  have hgV : Sig V := hg.below L0.low h0
  refine wp_rangeFunc (gf := 48) (lb := #[.pointer (some ⟨w.heap.size + 1 + 1 + 1 + 1, 0, none⟩)]) (encs := itemV) (K := fun b => b < w.heap.size ∨ b = w.heap.size + 1 + 1 + 1 + 1) rfl (enters_of Tryd.func48 (by kernel_rfl) rfl)
    (tokens_stops 8 (w.heap.size + 1 + 1 + 1 + 1) s _ (by omega) hl (Or.inr rfl) (Or.inl h0) V L0.sb hgV (by omega))
    (fun b h => by omega) (Below.refl _ _) (fun _ => rfl)
    (fun pre W => ∃ v ts, pre = ts.map (fun t => (t, 0)) ∧ LI w W s v ts) (fun c pre W => LX w W c pre)
    (fun pre X Y row hs hg hr => by obtain ⟨v, ts, e, h⟩ := hs; exact ⟨v, ts, e, h.own (by omega) hg hr⟩) (fun c pre X Y row hs hg hr => hs.own (by omega) hg hr) ⟨_, [], rfl, L0⟩
    (fun x a' W => ∃ Bx, w.heap.size + 1 + 1 + 1 + 1 + 1 ≤ Bx ∧ Blk W Bx 53 #[.int .i64 (x.1.k : Int), .string (bsv x.1.t), .int .i64 (x.1.a : Int)] ∧ a' = { tmps := #[.string (bsv s), undef, .pointer (some ⟨w.heap.size, 0, none⟩), .pointer (some ⟨w.heap.size + 1, 0, none⟩), .pointer (some ⟨w.heap.size + 1 + 1, 0, none⟩), .pointer (some ⟨w.heap.size + 1 + 1 + 1, 0, none⟩), .pointer (some ⟨Bx, 0, none⟩), .int .i64 (x.2 : Int), .string (bsv s), .int .i64 (s.length : Int), .bool (decide (20000 < (s.length : Int))), .string (bsv s), .func (.func 48) #[] #[.pointer (some ⟨w.heap.size + 1 + 1 + 1 + 1, 0, none⟩)], .agg #[.int .i64 (x.1.k : Int), .string (bsv x.1.t), .int .i64 (x.1.a : Int)], .int .i64 (x.2 : Int), undef, undef, undef, undef, undef, undef, undef, undef, undef, undef], defers := [] })
    (fun x a' _ X Y row hs hg hr => by obtain ⟨Bx, e1, e2, e3⟩ := hs; exact ⟨Bx, e1, e2.own hg hr, e3⟩)
    ?assign ?body ?done ?stop
  case assign =>
    rintro l' pre x W K' ⟨v, ts, rfl, hI⟩ hK'
    have hsW := hI.sb.lt
    simp only [itemV, tokV]
    gi_wp2
    exact hK' _ _ ((KeepsOthers.alloc _ _).from _) (KS.of_below (B := W.heap.size) (fun b h => by omega) ((Below.refl _ W).alloc (Nat.le_refl _) _)) ⟨v, ts, rfl, hI.alloc _⟩ ⟨W.heap.size, by omega, Blk.new W _ _, rfl⟩
  case body =>
    rintro l' pre ⟨t, e⟩ a' W ⟨v, ts, rfl, hI⟩ ⟨Bx, hBx, bX, rfl⟩ hlt
    have HLT : Hid (ts.length ≤ 30000) := by
      unfold Hid
      rw [List.length_map] at hlt
      omega
    clear hlt
    have hsW := hI.sb.lt
    dsimp only at bX ⊢
    have x0 := bX.cell 0
    have x1 := bX.cell 1
    have x2 := bX.cell 2
    simp only [List.getElem?_toArray, List.getElem?_cons_zero, List.getElem?_cons_succ] at x0 x1 x2
    by_cases he : e = 0
    · subst he
      obtain ⟨A, c, rfl⟩ := row_slice hI.row
      have k3 := hI.lb.cell 0
      simp only [List.getElem?_toArray, List.getElem?_cons_zero] at k3
      have hI1 := hI.alloc (Obj.cells #[.int .i64 (t.k : Int), .string (bsv t.t), .int .i64 (t.a : Int)] 53)
      have hbk := Blk.new W 53 #[.int .i64 (t.k : Int), .string (bsv t.t), .int .i64 (t.a : Int)]
      obtain ⟨v', W2, r1, r2, r3, _⟩ := app_tok (W.alloc (Obj.cells #[.int .i64 (t.k : Int), .string (bsv t.t), .int .i64 (t.a : Int)] 53)) (w.heap.size + 1 + 1 + 1 + 1 + 1) 39 (.slice A ts.length c) ts.length _ hI1.row W.heap.size 1 _ _ _ hbk (by have := HLT.out; omega) (by simp; omega)
      obtain ⟨A2, c2, rfl⟩ := row_slice r2
      have HRB := Lib.hid (row_base hI1.row)
      have hlb2 := hI1.lb.grown r3 (fun e => by have := HRB.out _ e.symm; omega)
      have k4 := hlb2.cell 0
      have f4 := hlb2.frozen 0
      simp only [List.getElem?_toArray, List.getElem?_cons_zero] at k4
      have HKE := Lib.hid (((KeepsOthers.alloc W _).trans (KeepsOthers.of_grownBy r3 (row_cells hI1.row))).trans (KeepsOthers.setCell W2 ⟨w.heap.size + 1 + 1 + 1, 0, none⟩ (.slice A2 (ts.length + 1) c2)))
      have HKS : Hid (KS (fun b => b < w.heap.size ∨ b = w.heap.size + 1 + 1 + 1 + 1) W (W2.setCell ⟨w.heap.size + 1 + 1 + 1, 0, none⟩ (.slice A2 (ts.length + 1) c2))) :=
        ((KS.of_below (B := W.heap.size) (fun b h => by omega) (lowAlloc W _)).trans (KS.of_grown (fun b h => ⟨by simp; omega, fun e => by have := HRB.out _ e.symm; omega⟩) r3)).trans (KS.set (by simp; omega) _)
      have HL2 : Hid (LI w (W2.setCell ⟨w.heap.size + 1 + 1 + 1, 0, none⟩ (.slice A2 (ts.length + 1) c2)) s (.slice A2 (ts.length + 1) c2) (ts ++ [t])) := by
        refine ⟨(hI1.low.grown r3 hI1.low.size (fun k e => by have := HRB.out _ e; omega)).setCell (by simp <;> omega) _, (hI1.r0.grown r3 (fun e => by have := HRB.out _ e.symm; omega)).far (by simp; omega) _, (hI1.r1.grown r3 (fun e => by have := HRB.out _ e.symm; omega)).far (by simp) _, (hI1.r2.grown r3 (fun e => by have := HRB.out _ e.symm; omega)).far (by simp) _, ?_, (hI1.sb.grown r3 (fun e => by have := HRB.out _ e.symm; omega)).far (by simp) _, ?_⟩
        · have := hlb2.put 0 (.slice A2 (ts.length + 1) c2)
          simpa using this
        · have := row_set r2 (p := ⟨w.heap.size + 1 + 1 + 1, 0, none⟩) (by simp) (.slice A2 (ts.length + 1) c2)
          rw [List.length_append, flatT_append]
          exact this
      clear r2 r3 hlb2 hbk hI1 hI bX HRB
      have HRUN : Hid (∀ ty, ty = 39 → (Builtin.append_ #[39, 39] ty #[.slice A ts.length c, .slice (some ⟨W.heap.size, 0, none⟩) 1 1]).run Tryd.prog (W.alloc (Obj.cells #[.int .i64 (t.k : Int), .string (bsv t.t), .int .i64 (t.a : Int)] 53)) = .ok (.slice A2 (ts.length + 1) c2) W2) := by
        rintro ty rfl
        exact r1
      clear r1
      gi_wp2_with (gi_at_builtin; go_loud (refine wpListIn_app rfl (.tmp 20) (.tmp 22) 39 rfl _ _ rfl rfl _ _ (HRUN.out _ rfl) ?_))
      exact ⟨HKE.out.from _, HKS.out, _, ts ++ [t], by simp, HL2.out⟩
    · have d0 : ((e : Int) != 0) = true := by simp; omega
      have g0 := hI.r0.frozen 0
      have g1 := hI.r1.frozen 0
      have g2 := hI.r2.frozen 0
      have d1 := hI.r0.cell 0
      have d2 := hI.r1.cell 0
      have d3 := hI.r2.cell 0
      simp only [List.getElem?_toArray, List.getElem?_cons_zero] at d1 d2 d3
      gi_wp2
      refine round_step (S := fun V => V.cell? ⟨Bx, 2, none⟩ = some (.int .i64 (t.a : Int))) (by kernel_rfl) (by kernel_rfl) ?hS8 (fun hHeld => ?h8)
      case hS8 => exact x2
      refine wpAnyH_take (i := 0) (oi := ⟨some 17, _, _, _, _, _⟩) (v := ?_) rfl (by kernel_rfl) (by kernel_rfl) (by kernel_rfl) (fun _ _ _ h => h) (Or.inl ⟨by rfl, ?_⟩) hHeld ?_
      rotate_left
      · intro w hSw
        (try dsimp only at hSw)
        first | (go_simp; done) | (go_simp; with_reducible rfl) | with_reducible rfl
      try simp only [Act.put, List.setIfInBounds_toArray, List.set_cons_zero, List.set_cons_succ]
      refine wpAnyH_take (i := 1) (oi := ⟨some 18, _, _, _, _, _⟩) (v := ?_) rfl (by kernel_rfl) (by kernel_rfl) (by kernel_rfl) (fun _ _ _ h => h) (Or.inl ⟨by rfl, ?_⟩) hHeld ?_
      rotate_left
      · intro w hSw
        (try dsimp only at hSw)
        first | (go_simp; done) | (go_simp; with_reducible rfl) | with_reducible rfl
      try simp only [Act.put, List.setIfInBounds_toArray, List.set_cons_zero, List.set_cons_succ]
      refine wpAnyH_take (i := 2) (oi := ⟨some 19, _, _, _, _, _⟩) (v := ?_) rfl (by kernel_rfl) (by kernel_rfl) (by kernel_rfl) (fun _ _ _ h => h) (Or.inl ⟨by rfl, ?_⟩) hHeld ?_
      rotate_left
      · intro w hSw
        (try dsimp only at hSw)
        first | (go_simp; done) | (go_simp; with_reducible rfl) | with_reducible rfl
      try simp only [Act.put, List.setIfInBounds_toArray, List.set_cons_zero, List.set_cons_succ]
      refine wpAnyH_ready (rs := [3]) (by kernel_rfl) (by simp) ?_
      refine AllReadyH.cons (o := ⟨none, _, _, _, _, _⟩) rfl (fun K hK => ?_) AllReadyH.nil
      go_simp
      refine hK.out _ _ ?_ (fun hHeld => ?_)
      · exact (World.cell?_setCell_other _ _ _ _ (by simp <;> omega)).trans x2
      clear hK K
      try simp only [Act.put, List.setIfInBounds_toArray, List.set_cons_zero, List.set_cons_succ]
      refine wpAnyH_ready (rs := [4]) (by kernel_rfl) (by simp) ?_
      refine AllReadyH.cons (o := ⟨none, _, _, _, _, _⟩) rfl (fun K hK => ?_) AllReadyH.nil
      go_simp
      refine hK.out _ _ ?_ (fun hHeld => ?_)
      · exact (World.cell?_setCell_other _ _ _ _ (by simp <;> omega)).trans ((World.cell?_setCell_other _ _ _ _ (by simp <;> omega)).trans x2)
      clear hK K
      try simp only [Act.put, List.setIfInBounds_toArray, List.set_cons_zero, List.set_cons_succ]
      refine wpAnyH_ready (rs := [5]) (by kernel_rfl) (by simp) ?_
      refine AllReadyH.cons (o := ⟨none, _, _, _, _, _⟩) rfl (fun K hK => ?_) AllReadyH.nil
      go_simp
      refine hK.out _ _ ?_ (fun hHeld => ?_)
      · exact (World.cell?_setCell_other _ _ _ _ (by simp <;> omega)).trans ((World.cell?_setCell_other _ _ _ _ (by simp <;> omega)).trans ((World.cell?_setCell_other _ _ _ _ (by simp <;> omega)).trans x2))
      clear hK K
      try simp only [Act.put, List.setIfInBounds_toArray, List.set_cons_zero, List.set_cons_succ]
      refine wpAnyH_done (by kernel_rfl) ?_ _
      refine only_end ?_
      gi_wp2
      have q0 := hI.r0.put 0 (.slice none 0 0)
      have q1 := (hI.r1.far (p := ⟨w.heap.size, 0, none⟩) (by simp) (.slice none 0 0)).put 0 (.int .i64 (e : Int))
      have q2 := ((hI.r2.far (p := ⟨w.heap.size, 0, none⟩) (by simp; omega) (.slice none 0 0)).far (p := ⟨w.heap.size + 1, 0, none⟩) (by simp) (.int .i64 (e : Int))).put 0 (.int .i64 (t.a : Int))
      refine ⟨?_, rfl, ts, t, e, he, rfl, ?_, ?_, ?_, ?_⟩
      · exact ((((KeepsOthers.setCell _ _ _).trans (KeepsOthers.setCell _ _ _)).trans (KeepsOthers.setCell _ _ _)).trans (KeepsOthers.drew _)).from _
      · exact (Blk.far (by simpa using q0) (by simp) _).far (by simp; omega) _
      · exact Blk.far (by simpa using q1) (by simp) _
      · exact (by simpa using q2 : Blk _ (w.heap.size + 1 + 1) 3 #[.int .i64 (t.a : Int)])
      · exact (((hI.low.setCell (by simp) _).setCell (by simp) _).setCell (by simp; omega) _).drew
  case done =>
    rintro D ys W hD rfl ⟨v, ts, hit, hI⟩ hK'
    have HA := Lib.hid (Tk.items_done hl hit)
    clear hit
    obtain ⟨A, c, rfl⟩ := row_slice hI.row
    have k3 := hI.lb.cell 0
    have g0 := hI.r0.frozen 0
    have g1 := hI.r1.frozen 0
    have g2 := hI.r2.frozen 0
    have d1 := hI.r0.cell 0
    have d2 := hI.r1.cell 0
    have d3 := hI.r2.cell 0
    simp only [List.getElem?_toArray, List.getElem?_cons_zero] at k3 d1 d2 d3
    have q0 := hI.r0.put 0 (.slice A ts.length c)
    have q1 := (hI.r1.far (p := ⟨w.heap.size, 0, none⟩) (by simp) (.slice A ts.length c)).put 0 (.int .i64 0)
    have q2 := ((hI.r2.far (p := ⟨w.heap.size, 0, none⟩) (by simp; omega) (.slice A ts.length c)).far (p := ⟨w.heap.size + 1, 0, none⟩) (by simp) (.int .i64 0)).put 0 (.int .i64 0)
    have b0 : Blk (((W.setCell ⟨w.heap.size, 0, none⟩ (.slice A ts.length c)).setCell ⟨w.heap.size + 1, 0, none⟩ (.int .i64 0)).setCell ⟨w.heap.size + 1 + 1, 0, none⟩ (.int .i64 0)) (w.heap.size) 39 #[.slice A ts.length c] := (Blk.far (by simpa using q0) (by simp) _).far (by simp; omega) _
    have b1 : Blk (((W.setCell ⟨w.heap.size, 0, none⟩ (.slice A ts.length c)).setCell ⟨w.heap.size + 1, 0, none⟩ (.int .i64 0)).setCell ⟨w.heap.size + 1 + 1, 0, none⟩ (.int .i64 0)) (w.heap.size + 1) 36 #[.int .i64 0] := Blk.far (by simpa using q1) (by simp) _
    have b2 : Blk (((W.setCell ⟨w.heap.size, 0, none⟩ (.slice A ts.length c)).setCell ⟨w.heap.size + 1, 0, none⟩ (.int .i64 0)).setCell ⟨w.heap.size + 1 + 1, 0, none⟩ (.int .i64 0)) (w.heap.size + 1 + 1) 3 #[.int .i64 0] := by simpa using q2
    have lo := ((hI.low.setCell (p := ⟨w.heap.size, 0, none⟩) (by simp) (.slice A ts.length c)).setCell (p := ⟨w.heap.size + 1, 0, none⟩) (by simp) (.int .i64 0)).setCell (p := ⟨w.heap.size + 1 + 1, 0, none⟩) (by simp; omega) (.int .i64 0)
    have hrow := row_set (row_set (row_set hI.row (p := ⟨w.heap.size, 0, none⟩) (by simp <;> omega) (.slice A ts.length c)) (p := ⟨w.heap.size + 1, 0, none⟩) (by simp <;> omega) (.int .i64 0)) (p := ⟨w.heap.size + 1 + 1, 0, none⟩) (by simp <;> omega) (.int .i64 0)
    have hKK := (((KeepsOthers.setCell W ⟨w.heap.size, 0, none⟩ (.slice A ts.length c)).trans (KeepsOthers.setCell _ ⟨w.heap.size + 1, 0, none⟩ (.int .i64 0))).trans (KeepsOthers.setCell _ ⟨w.heap.size + 1 + 1, 0, none⟩ (.int .i64 0))).same D _ hK' rfl
    clear q0 q1 q2 hI hK'
    go_wp2_with fail
    generalize (((W.setCell ⟨w.heap.size, 0, none⟩ (.slice A ts.length c)).setCell ⟨w.heap.size + 1, 0, none⟩ (.int .i64 0)).setCell ⟨w.heap.size + 1 + 1, 0, none⟩ (.int .i64 0)) = W4 at *
    refine ⟨by simp, .inl ⟨_, _, rfl, run_takeDeferred hKK, ?_⟩⟩
    have hgp := grownBy_putObj' W4 D (.deferred none)
    have hgr : ∀ r, some D = some r → w.heap.size ≤ r ∧ ∃ o : Obj, W4.heap[r]? = some o ∧ o.isCells = false := fun r e => by cases e; exact ⟨by omega, _, hKK, rfl⟩
    have c0 := (b0.own hgp hgr).cell 0
    have c1 := (b1.own hgp hgr).cell 0
    have c2 := (b2.own hgp hgr).cell 0
    simp only [List.getElem?_toArray, List.getElem?_cons_zero] at c0 c1 c2
    refine ⟨.tuple #[.slice A ts.length c, .int .i64 0, .int .i64 0], ?_, ?_⟩
    · simp [results, Tryd.f22, go_sem, c0, c1, c2]
    · refine ⟨.slice A ts.length c, by rw [HA.out]; rfl, by rw [HA.out]; exact (row_own hrow hgp hgr).mono (by omega), below_own lo (Nat.le_refl _) (Nat.le_refl _) hgp hgr⟩
  case stop =>
    rintro D c' pre W hD ⟨suf, hsuf⟩ ⟨rfl, ts, t, e, he, rfl, b0, b1, b2, lo⟩ hK'
    obtain ⟨HA, rfl⟩ := Tk.items_stop hl he hsuf.symm
    go_wp2_with fail
    refine ⟨by simp, .inl ⟨_, _, rfl, run_takeDeferred hK', ?_⟩⟩
    have hgp := grownBy_putObj' W D (.deferred none)
    have hgr : ∀ r, some D = some r → w.heap.size ≤ r ∧ ∃ o : Obj, W.heap[r]? = some o ∧ o.isCells = false := fun r e => by cases e; exact ⟨by omega, _, hK', rfl⟩
    have c0 := (b0.own hgp hgr).cell 0
    have c1 := (b1.own hgp hgr).cell 0
    have c2 := (b2.own hgp hgr).cell 0
    simp only [List.getElem?_toArray, List.getElem?_cons_zero] at c0 c1 c2
    refine ⟨.tuple #[.slice none 0 0, .int .i64 ((40 : Nat) : Int), .int .i64 (t.a : Int)], ?_, ?_⟩
    · simp [results, Tryd.f22, go_sem, c0, c1, c2]
    · refine ⟨.slice none 0 0, by rw [HA], by rw [HA]; exact World.ownsRow_nil _ _ _ _, below_own lo (Nat.le_refl _) (Nat.le_refl _) hgp hgr⟩
theorem lex_any (s : Tk.Bs) (w : World) (hs : s.length ≤ 9223372036854775807) (hg : Sig w) (h0 : 0 < w.heap.size) : Calls Tryd.prog 22 #[.string (bsv s)] w (LexP s w) := by
  by_cases hl : s.length ≤ 20000
  · exact lex_short s w hl hg h0
  · exact lex_long s w hs hl
end Go.Proofs.YtlddnejjpekgeaaDoor
