/- Tokens: Lex. -/
import Derived.Test.YtlddnejjpekgeaaDoorQaa
import Derived.Deep.Onto
namespace Go.Proofs.YtlddnejjpekgeaaDoor
open Go.RowKit Go.Shelf

/-- The cells of tokens. -/
def flatT : List Tk.Tok → List Value
  | [] => []
  | x :: r => .int .i64 (x.k : Int) :: .string (bsv x.t) :: .int .i64 (x.a : Int) :: flatT r
theorem flatT_length (ts : List Tk.Tok) : (flatT ts).length = ts.length * 3 := by
  induction ts with
  | nil => rfl
  | cons g r ih => simp only [flatT, List.length_cons, ih]; omega
theorem flatT_append (ts us : List Tk.Tok) : flatT (ts ++ us) = flatT ts ++ flatT us := by
  induction ts with
  | nil => rfl
  | cons g r ih => simp [flatT, ih]
theorem flatT_get (ts : List Tk.Tok) (k : Nat) (h : k < ts.length) : (flatT ts)[k * 3]? = some (.int .i64 ((ts[k]).k : Int)) ∧ (flatT ts)[k * 3 + 1]? = some (.string (bsv (ts[k]).t)) ∧ (flatT ts)[k * 3 + 2]? = some (.int .i64 ((ts[k]).a : Int)) := by
  induction ts generalizing k with
  | nil => simp at h
  | cons g r ih =>
    cases k with
    | zero => simp [flatT]
    | succ k =>
      have := ih k (by simpa using h)
      rw [show (k + 1) * 3 = k * 3 + 1 + 1 + 1 by omega]
      simpa [flatT] using this
theorem app_tok (w : World) (base : Nat) (ty : TypeId) (v : Value) (n : Nat) (xs : List Value) (hown : w.ownsRow base 53 3 v n xs) (b c : Nat) (k a : Int) (s : ByteArray) (hbk : Blk w b 53 #[.int .i64 k, .string s, .int .i64 a]) (hn : n ≤ 100000) (hbase : base ≤ w.heap.size) :
    ∃ v' w', (Builtin.append_ #[39, 39] ty #[v, .slice (some ⟨b, 0, none⟩) 1 c]).run Tryd.prog w = .ok v' w' ∧ w'.ownsRow base 53 3 v' (n + 1) (xs ++ [.int .i64 k, .string s, .int .i64 a]) ∧ w.grownBy w' v.ownBlock ∧ (v'.ownBlock = v.ownBlock ∨ v'.ownBlock = some w.heap.size) :=
  app_own w base 39 ty 53 Tryd.t53 (.agg #[.int .i64 0, .string ⟨#[]⟩, .int .i64 0]) 3 32 Tryd.underlying39 (by kernel_rfl) (by kernel_rfl) (by kernel_rfl) (by kernel_rfl) (by omega) (by kernel_rfl) (by omega) v n xs hown b c [.int .i64 k, .string s, .int .i64 a] hbk rfl (fun u hu => by simp at hu; rcases hu with rfl | rfl | rfl <;> rfl) hn hbase
theorem row_own {W W' : World} {base e size : Nat} {v : Value} {n B : Nat} {xs : List Value} {row : Option Nat} (h : W.ownsRow base e size v n xs) (hg : W.grownBy W' row) (hr : ∀ r, row = some r → B ≤ r ∧ ∃ o : Obj, W.heap[r]? = some o ∧ o.isCells = false) : W'.ownsRow base e size v n xs := by
  obtain ⟨h1, h2⟩ := h
  refine ⟨h1, ?_⟩
  rcases h2 with h2 | ⟨g, cap, cur, rfl, hb, hh, r⟩
  · exact Or.inl h2
  · exact Or.inr ⟨g, cap, cur, rfl, hb, Blk.own (t := e) hh hg hr, r⟩
theorem row_below {W W' : World} {base e size : Nat} {v : Value} {n : Nat} {xs : List Value} (h : W.ownsRow base e size v n xs) (hb : Below W.heap.size W W') : W'.ownsRow base e size v n xs := by
  obtain ⟨h1, h2⟩ := h
  refine ⟨h1, ?_⟩
  rcases h2 with h2 | ⟨g, cap, cur, rfl, hb', hh, r⟩
  · exact Or.inl h2
  · exact Or.inr ⟨g, cap, cur, rfl, hb', Blk.below (t := e) hh hb (Blk.lt (t := e) hh), r⟩
theorem row_cells {W : World} {base e size : Nat} {v : Value} {n : Nat} {xs : List Value} (h : W.ownsRow base e size v n xs) : ∀ (j : Nat) (o : Obj), v.ownBlock = some j → W.heap[j]? = some o → o.isCells = true := by
  intro j o hj ho
  rcases h.2 with ⟨rfl, _⟩ | ⟨g, cap, cur, rfl, hb, hh, _⟩
  · cases hj
  · simp [Value.ownBlock] at hj
    subst hj
    rw [hh] at ho
    cases ho
    rfl
theorem wpListIn_app {F : Fence} {n : Nat} {ops : Array Oper} {rest : List Oper} {o : Oper} {a : Act} {Q : Exit → Act → World → Prop} {w : World} (hgd : o.guard = none) (s x : Operand) (t : TypeId)
    (ho : o.op = .call { callee := .builtin .append, args := #[s, x], argTypes := #[t, t] }) (v arg : Value) (hs1 : a.eval s = v) (hx : a.eval x = arg) (v' : Value) (w' : World)
    (hrun : (Builtin.append_ #[t, t] o.type #[v, arg]).run Tryd.prog w = .ok v' w')
    (h : wpListIn F n Tryd.prog ops Q rest (a.put o.dst v') w') : wpListIn F n Tryd.prog ops Q (o :: rest) a w := by
  refine wpListIn_plain hgd fun K hK => ?_
  unfold Oper.wpIn
  refine ⟨?_, ?_⟩
  · simp [Oper.about, ho, resolve, Target.leads, Sem.run_pure]
  · rw [Oper.semAt_plain F _ _ (by rw [ho]; intro c hc'; cases hc')]
    simp [execOp, ho, resolve, invoke, builtin, hs1, hx, hrun, Result.andThen]
    exact hK _ _ h
/-- What Lex hands back. -/
def LexP (s : Tk.Bs) (w : World) (e : Ending) (w' : World) : Prop :=
  ∃ v, e = .returned (.tuple #[v, .int .i64 ((Tk.lexA s).2.1 : Int), .int .i64 ((Tk.lexA s).2.2 : Int)]) ∧ w'.ownsRow w.heap.size 53 3 v (Tk.lexA s).1.length (flatT (Tk.lexA s).1) ∧ Below w.heap.size w w'
/-- What Lex keeps in its boxes: the three results, the list, the text. -/
structure LI (w W : World) (s : Tk.Bs) (v : Value) (ts : List Tk.Tok) : Prop where
  low : Below w.heap.size w W
  r0 : Blk W w.heap.size 39 #[.slice none 0 0]
  r1 : Blk W (w.heap.size + 1) 36 #[.int .i64 0]
  r2 : Blk W (w.heap.size + 1 + 1) 3 #[.int .i64 0]
  lb : Blk W (w.heap.size + 1 + 1 + 1) 39 #[v]
  sb : Blk W (w.heap.size + 1 + 1 + 1 + 1) 9 #[.string (bsv s)]
  row : W.ownsRow (w.heap.size + 1 + 1 + 1 + 1 + 1) 53 3 v ts.length (flatT ts)
section
variable {w W W' : World} {s : Tk.Bs} {v : Value} {ts : List Tk.Tok}
theorem LI.own {B : Nat} {row : Option Nat} (h : LI w W s v ts) (hB : w.heap.size ≤ B) (hg : W.grownBy W' row) (hr : ∀ r, row = some r → B ≤ r ∧ ∃ o : Obj, W.heap[r]? = some o ∧ o.isCells = false) : LI w W' s v ts :=
  ⟨below_own h.low (Nat.le_refl _) hB hg hr, h.r0.own hg hr, h.r1.own hg hr, h.r2.own hg hr, h.lb.own hg hr, h.sb.own hg hr, row_own h.row hg hr⟩
theorem LI.below (h : LI w W s v ts) (hb : Below W.heap.size W W') : LI w W' s v ts :=
  ⟨h.low.trans (hb.mono h.low.size), h.r0.below hb h.r0.lt, h.r1.below hb h.r1.lt, h.r2.below hb h.r2.lt, h.lb.below hb h.lb.lt, h.sb.below hb h.sb.lt, row_below h.row hb⟩
theorem LI.alloc (h : LI w W s v ts) (o : Obj) : LI w (W.alloc o) s v ts := h.below (lowAlloc W o)
end
/-- What holds when the text went wrong. -/
def LX (w W : World) (c : Code) (pre : List (Tk.Tok × Nat)) : Prop :=
  c = .ret ∧ ∃ (ts : List Tk.Tok) (t : Tk.Tok) (e : Nat), e ≠ 0 ∧ pre = ts.map (fun t => (t, 0)) ++ [(t, e)] ∧ Blk W w.heap.size 39 #[.slice none 0 0] ∧ Blk W (w.heap.size + 1) 36 #[.int .i64 (e : Int)] ∧ Blk W (w.heap.size + 1 + 1) 3 #[.int .i64 (t.a : Int)] ∧ Below w.heap.size w W
theorem LX.own {w W W' : World} {c : Code} {pre : List (Tk.Tok × Nat)} {B : Nat} {row : Option Nat} (h : LX w W c pre) (hB : w.heap.size ≤ B) (hg : W.grownBy W' row) (hr : ∀ r, row = some r → B ≤ r ∧ ∃ o : Obj, W.heap[r]? = some o ∧ o.isCells = false) : LX w W' c pre := by
  obtain ⟨hc, ts, t, e, he, hp, h0, h1, h2, hl⟩ := h
  exact ⟨hc, ts, t, e, he, hp, h0.own hg hr, h1.own hg hr, h2.own hg hr, below_own hl (Nat.le_refl _) hB hg hr⟩
theorem tokens_stops (m Bs : Nat) (s : Tk.Bs) (K : Nat → Prop) (hm : 1 ≤ m) (hs : s.length ≤ 20000) (hK1 : K Bs) (hK2 : K 0) (w : World) (hB : Blk w Bs 9 #[.string (bsv s)]) (hg : Sig w) (h0 : 0 < w.heap.size) :
    SeqStopsK Fence.wide m Tryd.prog 48 #[.pointer (some ⟨Bs, 0, none⟩)] itemV (KS K) (fun ys => ys = Tk.itemsS s) (fun pre => ∃ suf, pre ++ suf = Tk.itemsS s) (s.length + 2) w := fun l J Jx W hW _ _ hY h0' =>
  tokens1_in m l Bs s K hm hs hK1 hK2 J Jx hY W (hB.below hW hB.lt) (hg.below hW h0) h0'

attribute [local go_sem] Oper.semAt_some bsv_size
set_option maxHeartbeats 2000000 in
theorem lex_long (s : Tk.Bs) (w : World) (hs : s.length ≤ 9223372036854775807) (hl : ¬ s.length ≤ 20000) : Calls Tryd.prog 22 #[.string (bsv s)] w (LexP s w) := by
  have hA : Tk.lexA s = ([], 2, 0) := by unfold Tk.lexA; rw [if_pos (by omega)]
  have HA := Lib.hid hA
  clear hA
  go_enter Tryd.func22, Tryd.ntmps22
  go_wp2
  refine bodyPost_ret (v := .tuple #[.slice none 0 0, .int .i64 2, .int .i64 0]) (by simp [results, Tryd.f22, go_sem]) rfl ?_
  refine ⟨.slice none 0 0, by rw [HA.out]; rfl, by rw [HA.out]; exact World.ownsRow_nil _ _ _ _, ?_⟩
  exact (((Below.refl _ w).alloc (by simp) _).alloc (by simp) _).alloc (by simp; omega) _
set_option maxRecDepth 100000 in
set_option maxHeartbeats 4000000 in
theorem lex_short (s : Tk.Bs) (w : World) (hl : s.length ≤ 20000) (hg : Sig w) (h0 : 0 < w.heap.size) : Calls Tryd.prog 22 #[.string (bsv s)] w (LexP s w) := by
  refine (callsIn_wide (n := 9)).1 (callsIn_of_wp_marks Tryd.func22 rfl trivial (wpIn_wide.2 ?_) rfl)
  simp only [Tryd.ntmps22, List.size_toArray, List.length_cons, List.length_nil, Nat.reduceAdd, Nat.reduceSub, Array.replicate_succ, Array.replicate_zero, List.push_toArray, List.append_toArray, List.nil_append, List.cons_append]
  go_wp2_with (go_at_call 39; refine (tokens_any s _).mono ?_; rintro e w' ⟨rfl, rfl⟩)
  have L0 : LI w (((((w.alloc (Obj.cells #[.slice none 0 0] 39)).alloc (Obj.cells #[.int .i64 0] 36)).alloc (Obj.cells #[.int .i64 0] 3)).alloc (Obj.cells #[.slice none 0 0] 39)).alloc (Obj.cells #[.string (bsv s)] 9)) s (.slice none 0 0) [] := by
    refine ⟨((((((Below.refl _ w).alloc (by simp) _).alloc (by simp) _).alloc (by simp; omega) _).alloc (by simp; omega) _).alloc (by simp; omega) _), ?_, ?_, ?_, ?_, ?_, World.ownsRow_nil _ _ _ _⟩
    · have := (((((Blk.new w 39 #[.slice none 0 0]).alloc (Obj.cells #[.int .i64 0] 36)).alloc (Obj.cells #[.int .i64 0] 3)).alloc (Obj.cells #[.slice none 0 0] 39)).alloc (Obj.cells #[.string (bsv s)] 9))
      simpa using this
    · have := ((((Blk.new (w.alloc (Obj.cells #[.slice none 0 0] 39)) 36 #[.int .i64 0]).alloc (Obj.cells #[.int .i64 0] 3)).alloc (Obj.cells #[.slice none 0 0] 39)).alloc (Obj.cells #[.string (bsv s)] 9))
      simpa using this
    · have := (((Blk.new ((w.alloc (Obj.cells #[.slice none 0 0] 39)).alloc (Obj.cells #[.int .i64 0] 36)) 3 #[.int .i64 0]).alloc (Obj.cells #[.slice none 0 0] 39)).alloc (Obj.cells #[.string (bsv s)] 9))
      simpa using this
    · have := ((Blk.new (((w.alloc (Obj.cells #[.slice none 0 0] 39)).alloc (Obj.cells #[.int .i64 0] 36)).alloc (Obj.cells #[.int .i64 0] 3)) 39 #[.slice none 0 0]).alloc (Obj.cells #[.string (bsv s)] 9))
      simpa using this
    · have := (Blk.new ((((w.alloc (Obj.cells #[.slice none 0 0] 39)).alloc (Obj.cells #[.int .i64 0] 36)).alloc (Obj.cells #[.int .i64 0] 3)).alloc (Obj.cells #[.slice none 0 0] 39)) 9 #[.string (bsv s)])
      simpa using this
  have hsz : (((((w.alloc (Obj.cells #[.slice none 0 0] 39)).alloc (Obj.cells #[.int .i64 0] 36)).alloc (Obj.cells #[.int .i64 0] 3)).alloc (Obj.cells #[.slice none 0 0] 39)).alloc (Obj.cells #[.string (bsv s)] 9)).heap.size = w.heap.size + 1 + 1 + 1 + 1 + 1 := by simp
  generalize (((((w.alloc (Obj.cells #[.slice none 0 0] 39)).alloc (Obj.cells #[.int .i64 0] 36)).alloc (Obj.cells #[.int .i64 0] 3)).alloc (Obj.cells #[.slice none 0 0] 39)).alloc (Obj.cells #[.string (bsv s)] 9)) = V at *
  have hgV : Sig V := hg.below L0.low h0
  refine wp_rangeFunc (gf := 48) (lb := #[.pointer (some ⟨w.heap.size + 1 + 1 + 1 + 1, 0, none⟩)]) (encs := itemV) (K := fun b => b < w.heap.size ∨ b = w.heap.size + 1 + 1 + 1 + 1) rfl (enters_of Tryd.func48 (by kernel_rfl) rfl)
    (tokens_stops 8 (w.heap.size + 1 + 1 + 1 + 1) s _ (by omega) hl (Or.inr rfl) (Or.inl h0) V L0.sb hgV (by omega))
    (fun b h => by omega) (Below.refl _ _) (fun _ => rfl)
    (fun pre W => ∃ v ts, pre = ts.map (fun t => (t, 0)) ∧ LI w W s v ts) (fun c pre W => LX w W c pre)
    (fun pre X Y row hs hg hr => by obtain ⟨v, ts, e, h⟩ := hs; exact ⟨v, ts, e, h.own (by omega) hg hr⟩) (fun c pre X Y row hs hg hr => hs.own (by omega) hg hr) ⟨_, [], rfl, L0⟩
    (fun x a' W => ∃ Bx, w.heap.size + 1 + 1 + 1 + 1 + 1 ≤ Bx ∧ Blk W Bx 53 #[.int .i64 (x.1.k : Int), .string (bsv x.1.t), .int .i64 (x.1.a : Int)] ∧ a' = { tmps := #[.string (bsv s), undef, .pointer (some ⟨w.heap.size, 0, none⟩), .pointer (some ⟨w.heap.size + 1, 0, none⟩), .pointer (some ⟨w.heap.size + 1 + 1, 0, none⟩), .pointer (some ⟨w.heap.size + 1 + 1 + 1, 0, none⟩), .pointer (some ⟨Bx, 0, none⟩), .int .i64 (x.2 : Int), .string (bsv s), .int .i64 (s.length : Int), .bool (decide (20000 < (s.length : Int))), .string (bsv s), .func (.func 48) #[] #[.pointer (some ⟨w.heap.size + 1 + 1 + 1 + 1, 0, none⟩)], .agg #[.int .i64 (x.1.k : Int), .string (bsv x.1.t), .int .i64 (x.1.a : Int)], .int .i64 (x.2 : Int), undef, undef, undef, undef, undef, undef, undef, undef, undef, undef], defers := [] })
    (fun x a' _ X Y row hs hg hr => by obtain ⟨Bx, e1, e2, e3⟩ := hs; exact ⟨Bx, e1, e2.own hg hr, e3⟩)
    ?assign ?body ?done ?stop
  case assign =>
    rintro l' pre x W K' ⟨v, ts, rfl, hI⟩ hK'
    have hsW := hI.sb.lt
    simp only [itemV, tokV]
    gi_wp2
    exact hK' _ _ ((KeepsOthers.alloc _ _).from _) (KS.of_below (B := W.heap.size) (fun b h => by omega) ((Below.refl _ W).alloc (Nat.le_refl _) _)) ⟨v, ts, rfl, hI.alloc _⟩ ⟨W.heap.size, by omega, Blk.new W _ _, rfl⟩
  case body =>
    rintro l' pre ⟨t, e⟩ a' W ⟨v, ts, rfl, hI⟩ ⟨Bx, hBx, bX, rfl⟩ hlt
    have HLT : Hid (ts.length ≤ 30000) := by
      unfold Hid
      rw [List.length_map] at hlt
      omega
    clear hlt
    have hsW := hI.sb.lt
    dsimp only at bX ⊢
    have x0 := bX.cell 0
    have x1 := bX.cell 1
    have x2 := bX.cell 2
    simp only [List.getElem?_toArray, List.getElem?_cons_zero, List.getElem?_cons_succ] at x0 x1 x2
    by_cases he : e = 0
    · subst he
      obtain ⟨A, c, rfl⟩ := row_slice hI.row
      have k3 := hI.lb.cell 0
      simp only [List.getElem?_toArray, List.getElem?_cons_zero] at k3
      have hI1 := hI.alloc (Obj.cells #[.int .i64 (t.k : Int), .string (bsv t.t), .int .i64 (t.a : Int)] 53)
      have hbk := Blk.new W 53 #[.int .i64 (t.k : Int), .string (bsv t.t), .int .i64 (t.a : Int)]
      obtain ⟨v', W2, r1, r2, r3, _⟩ := app_tok (W.alloc (Obj.cells #[.int .i64 (t.k : Int), .string (bsv t.t), .int .i64 (t.a : Int)] 53)) (w.heap.size + 1 + 1 + 1 + 1 + 1) 39 (.slice A ts.length c) ts.length _ hI1.row W.heap.size 1 _ _ _ hbk (by have := HLT.out; omega) (by simp; omega)
      obtain ⟨A2, c2, rfl⟩ := row_slice r2
      have HRB := Lib.hid (row_base hI1.row)
      have hlb2 := hI1.lb.grown r3 (fun e => by have := HRB.out _ e.symm; omega)
      have k4 := hlb2.cell 0
      have f4 := hlb2.frozen 0
      simp only [List.getElem?_toArray, List.getElem?_cons_zero] at k4
      have HKE := Lib.hid (((KeepsOthers.alloc W _).trans (KeepsOthers.of_grownBy r3 (row_cells hI1.row))).trans (KeepsOthers.setCell W2 ⟨w.heap.size + 1 + 1 + 1, 0, none⟩ (.slice A2 (ts.length + 1) c2)))
      have HKS : Hid (KS (fun b => b < w.heap.size ∨ b = w.heap.size + 1 + 1 + 1 + 1) W (W2.setCell ⟨w.heap.size + 1 + 1 + 1, 0, none⟩ (.slice A2 (ts.length + 1) c2))) :=
        ((KS.of_below (B := W.heap.size) (fun b h => by omega) (lowAlloc W _)).trans (KS.of_grown (fun b h => ⟨by simp; omega, fun e => by have := HRB.out _ e.symm; omega⟩) r3)).trans (KS.set (by simp; omega) _)
      have HL2 : Hid (LI w (W2.setCell ⟨w.heap.size + 1 + 1 + 1, 0, none⟩ (.slice A2 (ts.length + 1) c2)) s (.slice A2 (ts.length + 1) c2) (ts ++ [t])) := by
        refine ⟨(hI1.low.grown r3 hI1.low.size (fun k e => by have := HRB.out _ e; omega)).setCell (by simp <;> omega) _, (hI1.r0.grown r3 (fun e => by have := HRB.out _ e.symm; omega)).far (by simp; omega) _, (hI1.r1.grown r3 (fun e => by have := HRB.out _ e.symm; omega)).far (by simp) _, (hI1.r2.grown r3 (fun e => by have := HRB.out _ e.symm; omega)).far (by simp) _, ?_, (hI1.sb.grown r3 (fun e => by have := HRB.out _ e.symm; omega)).far (by simp) _, ?_⟩
        · have := hlb2.put 0 (.slice A2 (ts.length + 1) c2)
          simpa using this
        · have := row_set r2 (p := ⟨w.heap.size + 1 + 1 + 1, 0, none⟩) (by simp) (.slice A2 (ts.length + 1) c2)
          rw [List.length_append, flatT_append]
          exact this
      clear r2 r3 hlb2 hbk hI1 hI bX HRB
      have HRUN : Hid (∀ ty, ty = 39 → (Builtin.append_ #[39, 39] ty #[.slice A ts.length c, .slice (some ⟨W.heap.size, 0, none⟩) 1 1]).run Tryd.prog (W.alloc (Obj.cells #[.int .i64 (t.k : Int), .string (bsv t.t), .int .i64 (t.a : Int)] 53)) = .ok (.slice A2 (ts.length + 1) c2) W2) := by
        rintro ty rfl
        exact r1
      clear r1
      gi_wp2_with (gi_at_builtin; go_loud (refine wpListIn_app rfl (.tmp 20) (.tmp 22) 39 rfl _ _ rfl rfl _ _ (HRUN.out _ rfl) ?_))
      exact ⟨HKE.out.from _, HKS.out, _, ts ++ [t], by simp, HL2.out⟩
    · have d0 : ((e : Int) != 0) = true := by simp; omega
      have g0 := hI.r0.frozen 0
      have g1 := hI.r1.frozen 0
      have g2 := hI.r2.frozen 0
      have d1 := hI.r0.cell 0
      have d2 := hI.r1.cell 0
      have d3 := hI.r2.cell 0
      simp only [List.getElem?_toArray, List.getElem?_cons_zero] at d1 d2 d3
      gi_wp2
      refine round_step (S := fun V => V.cell? ⟨Bx, 2, none⟩ = some (.int .i64 (t.a : Int))) (by kernel_rfl) (by kernel_rfl) ?hS8 (fun hHeld => ?h8)
      case hS8 => exact x2
      refine wpAnyH_take (i := 0) (oi := ⟨some 17, _, _, _, _, _⟩) (v := ?_) rfl (by kernel_rfl) (by kernel_rfl) (by kernel_rfl) (fun _ _ _ h => h) (Or.inl ⟨by rfl, ?_⟩) hHeld ?_
      rotate_left
      · intro w hSw
        (try dsimp only at hSw)
        first | (go_simp; done) | (go_simp; with_reducible rfl) | with_reducible rfl
      try simp only [Act.put, List.setIfInBounds_toArray, List.set_cons_zero, List.set_cons_succ]
      refine wpAnyH_take (i := 1) (oi := ⟨some 18, _, _, _, _, _⟩) (v := ?_) rfl (by kernel_rfl) (by kernel_rfl) (by kernel_rfl) (fun _ _ _ h => h) (Or.inl ⟨by rfl, ?_⟩) hHeld ?_
      rotate_left
      · intro w hSw
        (try dsimp only at hSw)
        first | (go_simp; done) | (go_simp; with_reducible rfl) | with_reducible rfl
      try simp only [Act.put, List.setIfInBounds_toArray, List.set_cons_zero, List.set_cons_succ]
      refine wpAnyH_take (i := 2) (oi := ⟨some 19, _, _, _, _, _⟩) (v := ?_) rfl (by kernel_rfl) (by kernel_rfl) (by kernel_rfl) (fun _ _ _ h => h) (Or.inl ⟨by rfl, ?_⟩) hHeld ?_
      rotate_left
      · intro w hSw
        (try dsimp only at hSw)
        first | (go_simp; done) | (go_simp; with_reducible rfl) | with_reducible rfl
      try simp only [Act.put, List.setIfInBounds_toArray, List.set_cons_zero, List.set_cons_succ]
      refine wpAnyH_ready (rs := [3]) (by kernel_rfl) (by simp) ?_
      refine AllReadyH.cons (o := ⟨none, _, _, _, _, _⟩) rfl (fun K hK => ?_) AllReadyH.nil
      go_simp
      refine hK.out _ _ ?_ (fun hHeld => ?_)
      · exact (World.cell?_setCell_other _ _ _ _ (by simp <;> omega)).trans x2
      clear hK K
      try simp only [Act.put, List.setIfInBounds_toArray, List.set_cons_zero, List.set_cons_succ]
      refine wpAnyH_ready (rs := [4]) (by kernel_rfl) (by simp) ?_
      refine AllReadyH.cons (o := ⟨none, _, _, _, _, _⟩) rfl (fun K hK => ?_) AllReadyH.nil
      go_simp
      refine hK.out _ _ ?_ (fun hHeld => ?_)
      · exact (World.cell?_setCell_other _ _ _ _ (by simp <;> omega)).trans ((World.cell?_setCell_other _ _ _ _ (by simp <;> omega)).trans x2)
      clear hK K
      try simp only [Act.put, List.setIfInBounds_toArray, List.set_cons_zero, List.set_cons_succ]
      refine wpAnyH_ready (rs := [5]) (by kernel_rfl) (by simp) ?_
      refine AllReadyH.cons (o := ⟨none, _, _, _, _, _⟩) rfl (fun K hK => ?_) AllReadyH.nil
      go_simp
      refine hK.out _ _ ?_ (fun hHeld => ?_)
      · exact (World.cell?_setCell_other _ _ _ _ (by simp <;> omega)).trans ((World.cell?_setCell_other _ _ _ _ (by simp <;> omega)).trans ((World.cell?_setCell_other _ _ _ _ (by simp <;> omega)).trans x2))
      clear hK K
      try simp only [Act.put, List.setIfInBounds_toArray, List.set_cons_zero, List.set_cons_succ]
      refine wpAnyH_done (by kernel_rfl) ?_ _
      refine only_end ?_
      gi_wp2
      have q0 := hI.r0.put 0 (.slice none 0 0)
      have q1 := (hI.r1.far (p := ⟨w.heap.size, 0, none⟩) (by simp) (.slice none 0 0)).put 0 (.int .i64 (e : Int))
      have q2 := ((hI.r2.far (p := ⟨w.heap.size, 0, none⟩) (by simp; omega) (.slice none 0 0)).far (p := ⟨w.heap.size + 1, 0, none⟩) (by simp) (.int .i64 (e : Int))).put 0 (.int .i64 (t.a : Int))
      refine ⟨?_, rfl, ts, t, e, he, rfl, ?_, ?_, ?_, ?_⟩
      · exact ((((KeepsOthers.setCell _ _ _).trans (KeepsOthers.setCell _ _ _)).trans (KeepsOthers.setCell _ _ _)).trans (KeepsOthers.drew _)).from _
      · exact (Blk.far (by simpa using q0) (by simp) _).far (by simp; omega) _
      · exact Blk.far (by simpa using q1) (by simp) _
      · exact (by simpa using q2 : Blk _ (w.heap.size + 1 + 1) 3 #[.int .i64 (t.a : Int)])
      · exact (((hI.low.setCell (by simp) _).setCell (by simp) _).setCell (by simp; omega) _).drew
  case done =>
    rintro D ys W hD rfl ⟨v, ts, hit, hI⟩ hK'
    have HA := Lib.hid (Tk.items_done hl hit)
    clear hit
    obtain ⟨A, c, rfl⟩ := row_slice hI.row
    have k3 := hI.lb.cell 0
    have g0 := hI.r0.frozen 0
    have g1 := hI.r1.frozen 0
    have g2 := hI.r2.frozen 0
    have d1 := hI.r0.cell 0
    have d2 := hI.r1.cell 0
    have d3 := hI.r2.cell 0
    simp only [List.getElem?_toArray, List.getElem?_cons_zero] at k3 d1 d2 d3
    have q0 := hI.r0.put 0 (.slice A ts.length c)
    have q1 := (hI.r1.far (p := ⟨w.heap.size, 0, none⟩) (by simp) (.slice A ts.length c)).put 0 (.int .i64 0)
    have q2 := ((hI.r2.far (p := ⟨w.heap.size, 0, none⟩) (by simp; omega) (.slice A ts.length c)).far (p := ⟨w.heap.size + 1, 0, none⟩) (by simp) (.int .i64 0)).put 0 (.int .i64 0)
    have b0 : Blk (((W.setCell ⟨w.heap.size, 0, none⟩ (.slice A ts.length c)).setCell ⟨w.heap.size + 1, 0, none⟩ (.int .i64 0)).setCell ⟨w.heap.size + 1 + 1, 0, none⟩ (.int .i64 0)) (w.heap.size) 39 #[.slice A ts.length c] := (Blk.far (by simpa using q0) (by simp) _).far (by simp; omega) _
    have b1 : Blk (((W.setCell ⟨w.heap.size, 0, none⟩ (.slice A ts.length c)).setCell ⟨w.heap.size + 1, 0, none⟩ (.int .i64 0)).setCell ⟨w.heap.size + 1 + 1, 0, none⟩ (.int .i64 0)) (w.heap.size + 1) 36 #[.int .i64 0] := Blk.far (by simpa using q1) (by simp) _
    have b2 : Blk (((W.setCell ⟨w.heap.size, 0, none⟩ (.slice A ts.length c)).setCell ⟨w.heap.size + 1, 0, none⟩ (.int .i64 0)).setCell ⟨w.heap.size + 1 + 1, 0, none⟩ (.int .i64 0)) (w.heap.size + 1 + 1) 3 #[.int .i64 0] := by simpa using q2
    have lo := ((hI.low.setCell (p := ⟨w.heap.size, 0, none⟩) (by simp) (.slice A ts.length c)).setCell (p := ⟨w.heap.size + 1, 0, none⟩) (by simp) (.int .i64 0)).setCell (p := ⟨w.heap.size + 1 + 1, 0, none⟩) (by simp; omega) (.int .i64 0)
    have hrow := row_set (row_set (row_set hI.row (p := ⟨w.heap.size, 0, none⟩) (by simp <;> omega) (.slice A ts.length c)) (p := ⟨w.heap.size + 1, 0, none⟩) (by simp <;> omega) (.int .i64 0)) (p := ⟨w.heap.size + 1 + 1, 0, none⟩) (by simp <;> omega) (.int .i64 0)
    have hKK := (((KeepsOthers.setCell W ⟨w.heap.size, 0, none⟩ (.slice A ts.length c)).trans (KeepsOthers.setCell _ ⟨w.heap.size + 1, 0, none⟩ (.int .i64 0))).trans (KeepsOthers.setCell _ ⟨w.heap.size + 1 + 1, 0, none⟩ (.int .i64 0))).same D _ hK' rfl
    clear q0 q1 q2 hI hK'
    go_wp2_with fail
    generalize (((W.setCell ⟨w.heap.size, 0, none⟩ (.slice A ts.length c)).setCell ⟨w.heap.size + 1, 0, none⟩ (.int .i64 0)).setCell ⟨w.heap.size + 1 + 1, 0, none⟩ (.int .i64 0)) = W4 at *
    refine ⟨by simp, .inl ⟨_, _, rfl, run_takeDeferred hKK, ?_⟩⟩
    have hgp := grownBy_putObj' W4 D (.deferred none)
    have hgr : ∀ r, some D = some r → w.heap.size ≤ r ∧ ∃ o : Obj, W4.heap[r]? = some o ∧ o.isCells = false := fun r e => by cases e; exact ⟨by omega, _, hKK, rfl⟩
    have c0 := (b0.own hgp hgr).cell 0
    have c1 := (b1.own hgp hgr).cell 0
    have c2 := (b2.own hgp hgr).cell 0
    simp only [List.getElem?_toArray, List.getElem?_cons_zero] at c0 c1 c2
    refine ⟨.tuple #[.slice A ts.length c, .int .i64 0, .int .i64 0], ?_, ?_⟩
    · simp [results, Tryd.f22, go_sem, c0, c1, c2]
    · refine ⟨.slice A ts.length c, by rw [HA.out]; rfl, by rw [HA.out]; exact (row_own hrow hgp hgr).mono (by omega), below_own lo (Nat.le_refl _) (Nat.le_refl _) hgp hgr⟩
  case stop =>
    rintro D c' pre W hD ⟨suf, hsuf⟩ ⟨rfl, ts, t, e, he, rfl, b0, b1, b2, lo⟩ hK'
    obtain ⟨HA, rfl⟩ := Tk.items_stop hl he hsuf.symm
    go_wp2_with fail
    refine ⟨by simp, .inl ⟨_, _, rfl, run_takeDeferred hK', ?_⟩⟩
    have hgp := grownBy_putObj' W D (.deferred none)
    have hgr : ∀ r, some D = some r → w.heap.size ≤ r ∧ ∃ o : Obj, W.heap[r]? = some o ∧ o.isCells = false := fun r e => by cases e; exact ⟨by omega, _, hK', rfl⟩
    have c0 := (b0.own hgp hgr).cell 0
    have c1 := (b1.own hgp hgr).cell 0
    have c2 := (b2.own hgp hgr).cell 0
    simp only [List.getElem?_toArray, List.getElem?_cons_zero] at c0 c1 c2
    refine ⟨.tuple #[.slice none 0 0, .int .i64 ((40 : Nat) : Int), .int .i64 (t.a : Int)], ?_, ?_⟩
    · simp [results, Tryd.f22, go_sem, c0, c1, c2]
    · refine ⟨.slice none 0 0, by rw [HA], by rw [HA]; exact World.ownsRow_nil _ _ _ _, below_own lo (Nat.le_refl _) (Nat.le_refl _) hgp hgr⟩
theorem lex_any (s : Tk.Bs) (w : World) (hs : s.length ≤ 9223372036854775807) (hg : Sig w) (h0 : 0 < w.heap.size) : Calls Tryd.prog 22 #[.string (bsv s)] w (LexP s w) := by
  by_cases hl : s.length ≤ 20000
  · exact lex_short s w hl hg h0
  · exact lex_long s w hs hl
end Go.Proofs.YtlddnejjpekgeaaDoor
/- The document's tokens: quoted names, signs. -/
namespace Go.Proofs.YtlddnejjpekgeaaDoor
open Go.RowKit
attribute [local go_sem] bsv_size

/-- The length of a quoted name, whatever stands ahead of it. -/
def rqS (u : Tk.Bs) : Nat := if Tk.runS Tk.quotB u ≠ 0 ∧ u[Tk.runS Tk.quotB u]? = some 34 then Tk.runS Tk.quotB u + 2 else 0
theorem rq_quoted {b : UInt8} {u : Tk.Bs} (h : b.toNat = 34) : Tk.quotedS (b :: u) = rqS u := by
  have : b = 34 := UInt8.toNat_inj.1 h
  subst this
  unfold Tk.quotedS rqS
  simp
theorem no_quoted {b : UInt8} {u : Tk.Bs} (h : b.toNat ≠ 34) : Tk.quotedS (b :: u) = 0 := by
  unfold Tk.quotedS
  rw [if_neg]
  intro hc
  apply h
  have := hc.1
  simp at this
  rw [this]
  rfl
set_option maxRecDepth 10000 in
set_option maxHeartbeats 2000000 in
theorem refquoted_any (b0 : UInt8) (u : Tk.Bs) (w : World) (hs : u.length ≤ 100000) : Calls Tryd.prog 69 #[.string (bsv (b0 :: u))] w fun e w' => e = .returned (.int .i64 (rqS u : Nat)) ∧ w = w' := by
  have HQ : Hid (rqS u = if Tk.runS Tk.quotB u ≠ 0 ∧ u[Tk.runS Tk.quotB u]? = some 34 then Tk.runS Tk.quotB u + 2 else 0) := rfl
  generalize rqS u = q at *
  have hlen : (((b0 :: u).length : Nat) : Int) = (u.length : Int) + 1 := by simp
  have HIX : Hid (∀ k (h : k < u.length) w, (Instr.index 9 (.string (bsv (b0 :: u))) (.int .i64 ((k : Int) + 1))).run Tryd.prog w = .ok (.int .u8 ((u[k]).toNat : Int)) w) := fun k h w => by
    have := ix_bsv (b0 :: u) (k + 1) (by simp; omega) w
    rwa [show ((k + 1 : Nat) : Int) = (k : Int) + 1 by omega] at this
  generalize b0 :: u = s at *
  go_enter Tryd.func69, Tryd.ntmps69
  go_wp2
  go_loopw [3] (fun i wr => ∃ k : Nat, k ≤ u.length ∧ i = .int .i64 ((k : Int) + 1) ∧ (∀ j (hj : j < u.length), j < k → Tk.quotB (u[j]) = true) ∧ w = wr) (fun i _ => u.length + 1 - (intOf i).toNat)
  case atStart => exact ⟨0, Nat.zero_le _, rfl, fun _ _ h => absurd h (Nat.not_lt_zero _), rfl⟩
  case round =>
    obtain ⟨k, hk, rfl, hj, rfl⟩ := hrel
    have HJ := Lib.hid hj
    clear hj
    by_cases hlt : k < u.length
    · have hix := HIX.out k hlt
      have HP : Hid (Tk.quotB (u[k]) = decide (33 ≤ (u[k]).toNat ∧ (u[k]).toNat ≤ 126 ∧ (u[k]).toNat ≠ 34)) := rfl
      have HN : Hid (Tk.quotB (u[k]) = false → q = if k ≠ 0 ∧ (u[k]).toNat = 34 then k + 2 else 0) := fun h => by
        have hr := Tk.run_of hk HJ.out (fun _ => h)
        rw [HQ.out, hr, List.getElem?_eq_getElem hlt]
        have e34 : (some (u[k]) = some 34) ↔ ((u[k]).toNat = 34) := ⟨fun h => by injection h with h; rw [h]; rfl, fun h => congrArg some (UInt8.toNat_inj.1 (show (u[k]).toNat = (34 : UInt8).toNat from h))⟩
        simp only [e34]
      have HJ2 : Hid (Tk.quotB (u[k]) = true → ∀ j (hj : j < u.length), j < k + 1 → Tk.quotB (u[j]) = true) := fun h j hj hjk => by
        by_cases hjk : j = k
        · subst hjk
          exact h
        · exact HJ.out j hj (by omega)
      generalize (u[k]).toNat = b at *
      generalize Tk.quotB (u[k]) = p at *
      by_cases h34 : b = 34
      · subst h34
        have HN2 := Lib.hid (HN.out (by rw [HP.out]; rfl))
        by_cases hk0 : k = 0
        · subst hk0
          have hix1 : ∀ w, (Instr.index 9 (.string (bsv s)) (.int .i64 1)).run Tryd.prog w = .ok (.int .u8 34) w := hix
          clear hix HN HJ2
          have hQ0 : Hid (q = 0) := by unfold Hid; rw [HN2.out]; simp
          clear HN2
          go_wp2
          go_ret
          exact ⟨by rw [hQ0.out]; rfl, rfl⟩
        · go_wp2
          go_ret
          refine ⟨?_, rfl⟩
          rw [HN2.out, if_pos ⟨hk0, trivial⟩]
          have : ((k : Int) + 1 + 1) = ((k + 2 : Nat) : Int) := by omega
          rw [← this]
          rfl
      · have d34 : ((b : Int) == 34) = false := by rw [beq_eq_false_iff_ne]; omega
        by_cases hin : 33 ≤ b ∧ b ≤ 126
        · obtain ⟨hi1, hi2⟩ := hin
          have HPT : Hid (p = true) := by
            unfold Hid
            rw [HP.out, decide_eq_true ⟨hi1, hi2, h34⟩]
          go_wp2
          go_roundw
          case rel => exact ⟨k + 1, by omega, by go_num, HJ2.out HPT.out, trivial⟩
          case measure => simp [intOf]; omega
        · have HN2 := Lib.hid (HN.out (by rw [HP.out]; exact decide_eq_false (fun h => hin ⟨h.1, h.2.1⟩)))
          by_cases h33 : b < 33
          · have d33 : (b : Int) < 33 := by omega
            go_wp2
            go_ret
            exact ⟨by rw [HN2.out, if_neg (fun h => h34 h.2)]; rfl, rfl⟩
          · have d126 : (126 : Int) < b := by omega
            go_wp2
            go_ret
            exact ⟨by rw [HN2.out, if_neg (fun h => h34 h.2)]; rfl, rfl⟩
    · obtain rfl : k = u.length := by omega
      have HN : Hid (q = 0) := by
        have hr := Tk.run_of (Nat.le_refl _) HJ.out (fun h => absurd h (Nat.lt_irrefl _))
        unfold Hid
        rw [HQ.out, hr, List.getElem?_eq_none (Nat.le_refl _)]
        simp
      go_wp2
      go_ret
      exact ⟨by rw [HN.out]; rfl, rfl⟩
/-- The signs as the document's program lays them out. -/
def signCells : Array Value := (Tk.signsL.map (fun x => Value.string (bsv x))).toArray
set_option maxHeartbeats 2000000 in
theorem refsigns_any (w : World) : Calls Tryd.prog 81 #[] w fun e w' => e = .returned (.slice (some ⟨w.heap.size, 0, none⟩) 9 9) ∧ w' = w.alloc (.cells signCells 9) := by
  go_enter Tryd.func81, Tryd.ntmps81
  go_wp2
  go_ret
  exact ⟨rfl, rfl⟩
theorem signCells_get (i : Nat) (h : i < 9) : signCells[i]? = some (.string (bsv (Tk.signsL.getD i []))) := by
  have : i = 0 ∨ i = 1 ∨ i = 2 ∨ i = 3 ∨ i = 4 ∨ i = 5 ∨ i = 6 ∨ i = 7 ∨ i = 8 := by omega
  rcases this with rfl | rfl | rfl | rfl | rfl | rfl | rfl | rfl | rfl <;> rfl
theorem ixS9 (sb r : Nat) (hr : r < 9) (w : World) : (Instr.indexAt 48 (.slice (some ⟨sb, 0, none⟩) 9 9) (.int .i64 (r : Int))).run Tryd.prog w = .ok (.pointer (some ⟨sb, r, none⟩)) w := by
  have h1 : (r : Int) < 9 := by omega
  go_simp
end Go.Proofs.YtlddnejjpekgeaaDoor
/- The document's tokens: which sign stands ahead. -/
namespace Go.Proofs.YtlddnejjpekgeaaDoor
open Go.RowKit
attribute [local go_sem] bsv_size

theorem slto_bsv (s : Tk.Bs) (n : Nat) (h : n ≤ s.length) (w : World) : (Instr.slice 9 (.string (bsv s)) none (some (.int .i64 (n : Int))) none).run Tryd.prog w = .ok (.string (bsv (s.take n))) w := by
  have e := bsv_extract s 0 n
  rw [List.drop_zero, Nat.sub_zero] at e
  rw [← e]
  have : (n : Int) ≤ ((bsv s).size : Int) := by rw [bsv_size]; omega
  go_simp
theorem Blk.drew {w : World} {g : Nat} {t : TypeId} {cs : Array Value} (h : Blk w g t cs) (n : Nat) : Blk (w.drewN n) g t cs := h
set_option maxRecDepth 10000 in
set_option maxHeartbeats 4000000 in
theorem refsign_any (s : Tk.Bs) (w : World) (hs : s.length ≤ 100000) : Calls Tryd.prog 68 #[.string (bsv s)] w fun e w' => e = .returned (.int .i64 (Tk.signS s : Nat)) ∧ Below w.heap.size w w' := by
  go_enter Tryd.func68, Tryd.ntmps68
  go_wp2_with fail
  refine (refsigns_any w).mono ?_
  rintro e w1 ⟨rfl, rfl⟩
  go_wp2
  have L0 : Below w.heap.size w (w.alloc (.cells signCells 9)) := lowAlloc w _
  have B0 := Blk.new w 9 signCells
  generalize w.alloc (.cells signCells 9) = V at *
  go_loopw [4] (fun i wr => ∃ k : Nat, k ≤ 9 ∧ i = .int .i64 (k : Int) ∧ Tk.signS s = Tk.signIn (Tk.signsL.drop k) s ∧ Below w.heap.size w wr ∧ Blk wr w.heap.size 9 signCells) (fun i _ => 9 - (intOf i).toNat)
  case atStart => exact ⟨0, Nat.zero_le _, rfl, rfl, L0, B0⟩
  case round =>
    obtain ⟨k, hk, rfl, hj, hlo, hbk⟩ := hrel
    have HJ := Lib.hid hj
    clear hj L0 B0
    by_cases hlt : k < 9
    · have ck := (hbk.cell k).trans (signCells_get k hlt)
      have hix := ixS9 w.heap.size k hlt
      have HS := Lib.hid (signs_drop k hlt)
      have hsh := signs_short k
      generalize Tk.signsL.getD k [] = x at *
      by_cases hle : x.length ≤ s.length
      · have dle : decide ((x.length : Int) ≤ (s.length : Int)) = true := decide_eq_true (by omega)
        have hsl := slto_bsv s x.length hle
        have heq := eq_bsv (s.take x.length) x
        have HP := Lib.hid (prefix_take x s hle)
        generalize s.take x.length = y at *
        cases hp : x.isPrefixOf s with
        | false =>
          have HN := Lib.hid (signIn_no (r := Tk.signsL.drop (k + 1)) hp)
          rw [hp] at HP
          rw [HP.out] at heq
          clear hp HP
          go_wp2
          go_quiet (fail)
          go_wp2
          go_roundw
          case rel => exact ⟨k + 1, by omega, by go_num, by rw [HJ.out, HS.out, HN.out], below_drewN hlo _, hbk.drew _⟩
          case measure => simp [intOf]; omega
        | true =>
          have HN := Lib.hid (signIn_yes (r := Tk.signsL.drop (k + 1)) hp)
          rw [hp] at HP
          rw [HP.out] at heq
          clear hp HP
          go_wp2
          go_quiet (fail)
          go_wp2
          go_ret
          exact ⟨by rw [HJ.out, HS.out, HN.out]; rfl, below_drewN hlo _⟩
      · have dle : decide ((x.length : Int) ≤ (s.length : Int)) = false := decide_eq_false (by omega)
        have HN := Lib.hid (signIn_no (r := Tk.signsL.drop (k + 1)) (prefix_long x s hle))
        go_wp2
        go_quiet (fail)
        go_wp2
        go_roundw
        case rel => exact ⟨k + 1, by omega, by go_num, by rw [HJ.out, HS.out, HN.out], below_drewN hlo _, hbk.drew _⟩
        case measure => simp [intOf]; omega
    · obtain rfl : k = 9 := by omega
      go_wp2
      go_ret
      exact ⟨by rw [HJ.out]; rfl, hlo⟩
end Go.Proofs.YtlddnejjpekgeaaDoor
