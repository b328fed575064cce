/- repeats, find, right, Right. -/
import Derived.Test.YtpejilhdhkmcjaaGreatDoorJbAl
import Derived.Test.YtpejilhdhkmcjaaGreatDoorJbad
import Derived.Maps.AppendAt
import Derived.Deep.AppendLies
import Derived.RegionTactic
import Derived.OwnWalk
import Derived.Lib.AppendZeros
import Derived.Deep.DeepCutAuto
import Derived.Deep.RegionWith
namespace Go.Proofs.YtpejilhdhkmcjaaGreatDoor
open Go.RowKit

set_option maxRecDepth 100000 in
set_option maxHeartbeats 1600000 in
theorem repeats_first (ib : Nat) (A : Option Addr) (c : Nat) (gs : List (Int × Int)) (se sv : Value) (w : World) (B : Nat)
  (hl : gs.length ≤ 2000) (hix : Blk w ib 125 #[.slice A gs.length c, .int .u32 0, .int .i32 0, se, sv, .bool false]) (hg : Gr w B A gs) (hB : B ≤ ib) :
  Calls Tryz.prog 97 #[.pointer (some ⟨ib, 0, none⟩)] w
   fun e w' => e = .returned (.bool (!Gm.nodB gs)) ∧ Built w' ib w.heap.size A c gs (.int .u32 1) (.int .i32 0) se ∧ w.grownBy w' (some ib) := by
 have hmf : ∀ (fn : Fn) (first cap : Array Value) (w : World), (Instr.makeFunc fn first cap).run Tryz.prog w = .ok (.func fn first cap) w := fun _ _ _ _ => rfl
 have c0 := hix.cell 0
 simp only [zD, zE] at c0
 have HD := Lib.hid (do_first ib A c gs se sv w B hl hix hg hB)
 generalize hq : (!Gm.nodB gs) = q
 have HQ := Lib.hid hq
 clear hq
 go_enter Tryz.func97, Tryz.ntmps97
 go_wp2_with fail
 refine HD.out.mono ?_
 rintro e w' ⟨rfl, hb, hgr⟩
 have hb' := hb
 obtain ⟨sb, m, S, hk, _⟩ := hb'
 have c5 := hk.cell 5
 simp only [zD, zE, zF] at c5
 rw [HQ.out] at c5
 clear hk
 go_wp2
 go_ret
 exact ⟨rfl, hb, hgr⟩

theorem grown_both {a b c : World} {row : Option Nat} (h : a.grownBy b row) (k : b.grownBy c row) : a.grownBy c row :=
 ⟨k.os.trans h.os, k.tape.trans h.tape, k.output.trans h.output, Nat.le_trans h.size k.size, fun i hi hn => (k.block i (Nat.lt_of_lt_of_le hi h.size) hn).trans (h.block i hi hn)⟩
theorem grown_of_below {a w : World} (h : Below a.heap.size a w) (row : Option Nat) : a.grownBy w row := grown_below (World.grownBy.refl a row) h
theorem Built.lower {w : World} {ib lo lo' : Nat} {A : Option Addr} {c : Nat} {gs : List (Int × Int)} {d st se : Value} (h : Built w ib lo A c gs d st se) (hl : lo' ≤ lo) : Built w ib lo' A c gs d st se := by
 obtain ⟨sb, m, S, a, b, r⟩ := h
 exact ⟨sb, m, S, a, Nat.le_trans hl b, r⟩
/-- What right leaves: whether the graph is right; then the index is built. -/
def RightPost (n : Int) (gs : List (Int × Int)) (ib : Nat) (A : Option Addr) (c : Nat) (se : Value) (w : World) (e : Ending) (w' : World) : Prop :=
 e = .returned (.bool (Gm.rightB n gs)) ∧ w.grownBy w' (some ib) ∧ (Gm.rightB n gs = true → Built w' ib w.heap.size A c gs (.int .u32 1) (.int .i32 0) se)

set_option maxRecDepth 100000 in
set_option maxHeartbeats 1600000 in
theorem right_first (n : Int) (ib : Nat) (A : Option Addr) (c : Nat) (gs : List (Int × Int)) (se sv : Value) (w : World) (B : Nat)
  (hl : gs.length ≤ 1000000) (hix : Blk w ib 125 #[.slice A gs.length c, .int .u32 0, .int .i32 0, se, sv, .bool false]) (hg : Gr w B A gs) (hB : B ≤ ib) (hw : Wf gs) :
  Calls Tryz.prog 73 #[.agg #[.int .i64 n, .slice A gs.length c], .pointer (some ⟨ib, 0, none⟩)] w (RightPost n gs ib A c se w) := by
 have hib := hix.lt
 have hfit := Lib.hid (fits_any n A gs.length c (w.alloc (Obj.cells #[Value.int .i64 n, .slice A gs.length c] 64)) hl)
 by_cases h1 : Gm.fitB n gs.length = true
 ·
  have hn : 0 ≤ n ∧ n ≤ 2000 ∧ gs.length ≤ 2000 := by simp [Gm.fitB] at h1; omega
  obtain ⟨hn0, hn1, hn2⟩ := hn
  by_cases h2 : Gm.ordB n 0 gs = true
  ·
   have hr : Gm.rightB n gs = Gm.nodB gs := by simp [Gm.rightB, h1, h2]
   have HR := Lib.hid hr
   have H1 := Lib.hid h1
   have H2 := Lib.hid h2
   clear hr h1 h2
   go_enter Tryz.func73, Tryz.ntmps73
   go_wp2_with fail
   refine hfit.out.mono ?_
   rintro e w1 ⟨rfl, hb1⟩
   rw [H1.out]
   obtain ⟨k0, _⟩ := bcell hb1
   have hs1 : w.heap.size < w1.heap.size := by have := hb1.size; simp at this; omega
   have hbw1 : Below w.heap.size w w1 := ((Below.refl w.heap.size w).alloc (Nat.le_refl _) _).trans (hb1.mono (by simp))
   go_wp2_with fail
   refine (ordered_any n A c gs w1 hn0 hn1 hl B (hg.below hbw1 (by omega)) (by omega) hw).mono ?_
   rintro e w2 ⟨rfl, hb2⟩
   rw [H2.out]
   have hbw2 : Below w.heap.size w w2 := hbw1.trans (hb2.mono hbw1.size)
   clear k0
   go_wp2_with fail
   refine (repeats_first ib A c gs se sv w2 B hn2 (hix.below hbw2 hib) (hg.below hbw2 (by omega)) hB).mono ?_
   rintro e w3 ⟨rfl, hbt, hgr⟩
   have hnot : ∀ (x : Bool) (w : World), (Op.unary .not (.bool x)).run Tryz.prog w = .ok (.bool (!x)) w := fun _ _ => rfl
   go_wp2
   go_ret
   exact ⟨ret_bool HR.out.symm, grown_both (grown_of_below hbw2 _) hgr, fun _ => hbt.lower hbw2.size⟩
  have hr : Gm.rightB n gs = false := by simp [Gm.rightB, h2]
  have HR := Lib.hid hr
  have H1 := Lib.hid h1
  have H2 := Lib.hid (show Gm.ordB n 0 gs = false by simpa using h2)
  clear hr h1 h2
  go_enter Tryz.func73, Tryz.ntmps73
  go_wp2_with fail
  refine hfit.out.mono ?_
  rintro e w1 ⟨rfl, hb1⟩
  rw [H1.out]
  obtain ⟨k0, _⟩ := bcell hb1
  have hs1 : w.heap.size < w1.heap.size := by have := hb1.size; simp at this; omega
  have hbw1 : Below w.heap.size w w1 := ((Below.refl w.heap.size w).alloc (Nat.le_refl _) _).trans (hb1.mono (by simp))
  go_wp2_with fail
  refine (ordered_any n A c gs w1 hn0 hn1 hl B (hg.below hbw1 (by omega)) (by omega) hw).mono ?_
  rintro e w2 ⟨rfl, hb2⟩
  rw [H2.out]
  have hbw2 : Below w.heap.size w w2 := hbw1.trans (hb2.mono hbw1.size)
  clear k0
  go_wp2
  go_ret
  exact ⟨ret_bool HR.out.symm, grown_of_below hbw2 _, fun h => by rw [HR.out] at h; cases h⟩
 have hr : Gm.rightB n gs = false := by simp [Gm.rightB, h1]
 have HR := Lib.hid hr
 have H1 := Lib.hid (show Gm.fitB n gs.length = false by simpa using h1)
 clear hr h1
 go_enter Tryz.func73, Tryz.ntmps73
 go_wp2_with fail
 refine hfit.out.mono ?_
 rintro e w1 ⟨rfl, hb1⟩
 rw [H1.out]
 have hbw1 : Below w.heap.size w w1 := ((Below.refl w.heap.size w).alloc (Nat.le_refl _) _).trans (hb1.mono (by simp))
 go_wp2
 go_ret
 exact ⟨ret_bool HR.out.symm, grown_of_below hbw1 _, fun h => by rw [HR.out] at h; cases h⟩

set_option maxRecDepth 100000 in
set_option maxHeartbeats 1600000 in
theorem Right_any (n : Int) (A : Option Addr) (c : Nat) (gs : List (Int × Int)) (w : World) (B : Nat) (hl : gs.length ≤ 1000000) (hg : Gr w B A gs) (hB : B ≤ w.heap.size) (hw : Wf gs) :
  Calls Tryz.prog 49 #[.agg #[.int .i64 n, .slice A gs.length c]] w fun e w' => e = .returned (.bool (Gm.rightB n gs)) ∧ Below w.heap.size w w' := by
 go_enter Tryz.func49, Tryz.ntmps49
 go_wp2_with fail
 have hbw : Below w.heap.size w ((w.alloc (Obj.cells #[Value.int .i64 n, .slice A gs.length c] 64)).alloc (Obj.cells #[.slice A gs.length c, .int .u32 0, .int .i32 0, .int .u32 0, .slice none 0 0, .bool false] 125)) :=
  ((Below.refl w.heap.size w).alloc (Nat.le_refl _) _).alloc (by simp) _
 have hk : Blk ((w.alloc (Obj.cells #[Value.int .i64 n, .slice A gs.length c] 64)).alloc (Obj.cells #[.slice A gs.length c, .int .u32 0, .int .i32 0, .int .u32 0, .slice none 0 0, .bool false] 125)) (w.heap.size + 1) 125 #[.slice A gs.length c, .int .u32 0, .int .i32 0, .int .u32 0, .slice none 0 0, .bool false] := by
  have := Blk.new (w.alloc (Obj.cells #[Value.int .i64 n, .slice A gs.length c] 64)) 125 #[.slice A gs.length c, .int .u32 0, .int .i32 0, .int .u32 0, .slice none 0 0, .bool false]
  simpa using this
 refine (right_first n (w.heap.size + 1) A c gs _ _ _ B hl hk (hg.below hbw hB) (by omega) hw).mono ?_
 rintro e w' ⟨rfl, hgr, _⟩
 have hfin := hbw.grown hgr (by simp; omega) (fun k e => by injection e with e; omega)
 go_wp2
 go_ret
 exact ⟨rfl, hfin⟩
end Go.Proofs.YtpejilhdhkmcjaaGreatDoor
/- Slices of gates that the call itself makes: append; slices.Clone, slices.Concat; same, extended. -/
namespace Go.Proofs.YtpejilhdhkmcjaaGreatDoor
open Go.RowKit

/-- The cells of gates. -/
def flat : List (Int × Int) → List Value
 | [] => []
 | g :: r => .int .i64 g.1 :: .int .i64 g.2 :: flat r
theorem flat_length (gs : List (Int × Int)) : (flat gs).length = gs.length * 2 := by
 induction gs with
 | nil => rfl
 | cons g r ih => simp only [flat, List.length_cons, ih]; omega
theorem flat_append (gs hs : List (Int × Int)) : flat (gs ++ hs) = flat gs ++ flat hs := by
 induction gs with
 | nil => rfl
 | cons g r ih => simp [flat, ih]
theorem flat_get (gs : List (Int × Int)) (k : Nat) (h : k < gs.length) : (flat gs)[k * 2]? = some (.int .i64 (gs[k]).1) ∧ (flat gs)[k * 2 + 1]? = some (.int .i64 (gs[k]).2) := by
 induction gs generalizing k with
 | nil => simp at h
 | cons g r ih =>
  cases k with
  | zero => simp [flat]
  | succ k =>
   have := ih k (by simpa using h)
   rw [show (k + 1) * 2 = k * 2 + 1 + 1 by omega]
   simpa [flat] using this
theorem flat_one (gs : List (Int × Int)) : ∀ u ∈ flat gs, u.oneCell' = true := by
 induction gs with
 | nil => intro u h; simp [flat] at h
 | cons g r ih =>
  intro u h
  simp only [flat, List.mem_cons] at h
  rcases h with rfl | rfl | h
  ·
   rfl
  ·
   rfl
  exact ih u h
/-- A row of gates of the call's own. -/
def Own (w : World) (base : Nat) (v : Value) (gs : List (Int × Int)) : Prop := w.ownsRow base 57 2 v gs.length (flat gs)
theorem Own.gr {w : World} {base : Nat} {v : Value} {gs : List (Int × Int)} (h : Own w base v gs) : ∃ A c, v = .slice A gs.length c ∧ Gr w w.heap.size A gs := by
 obtain ⟨_, h2⟩ := h
 rcases h2 with ⟨rfl, h0⟩ | ⟨g, cap, cur, rfl, _, hh, hn, _, hs, ht⟩
 ·
  exact ⟨none, 0, by rw [h0], fun k hk => by omega⟩
 refine ⟨_, cap, rfl, fun k hk => ⟨g, 0, rfl, ?_, ?_, ?_⟩⟩
 ·
  exact Blk.lt (t := 57) hh
 ·
  obtain ⟨f1, _⟩ := flat_get gs k hk
  rw [← ht, List.getElem?_take_of_lt (by omega)] at f1
  rw [Nat.zero_add, Blk.cell (t := 57) hh, ← Array.getElem?_toList]
  exact f1
 obtain ⟨_, f2⟩ := flat_get gs k hk
 rw [← ht, List.getElem?_take_of_lt (by omega)] at f2
 rw [Nat.zero_add, Blk.cell (t := 57) hh, ← Array.getElem?_toList]
 exact f2
theorem Gr.cells {w : World} {B : Nat} {ad : Addr} {gs : List (Int × Int)} (h : Gr w B (some ad) gs) : ∀ j u, (flat gs)[j]? = some u → w.cell? (ad.add j) = some u := by
 intro j u hu
 have hj : j < gs.length * 2 := by
  rw [← flat_length]
  exact (List.getElem?_eq_some_iff.1 hu).1
 obtain ⟨b, off, e, _, h1, h2⟩ := h (j / 2) (by omega)
 injection e with e
 subst e
 obtain ⟨f1, f2⟩ := flat_get gs (j / 2) (by omega)
 have ha : (⟨b, off, none⟩ : Addr).add j = ⟨b, off + j, none⟩ := by simp [Addr.add]
 rw [ha]
 rcases Nat.mod_two_eq_zero_or_one j with hm | hm
 ·
  have ej : j / 2 * 2 = j := by omega
  rw [ej] at h1 f1
  rw [h1, ← hu, f1]
 have ej : j / 2 * 2 + 1 = j := by omega
 rw [Nat.add_assoc, ej] at h2
 rw [ej] at f2
 rw [h2, ← hu, f2]

theorem run_append_gates (w : World) (base B : Nat) (ty : TypeId) (v : Value) (gs hs : List (Int × Int)) (hown : Own w base v gs) (A : Option Addr) (c : Nat) (hg : Gr w B A hs)
  (hl : gs.length + hs.length ≤ 2000000) (hbase : base ≤ w.heap.size) :
  ∃ v' w', (Builtin.append_ #[25, 25] ty #[v, .slice A hs.length c]).run Tryz.prog w = .ok v' w' ∧ Own w' base v' (gs ++ hs) ∧ w.grownBy w' v.ownBlock ∧ (v'.ownBlock = v.ownBlock ∨ v'.ownBlock = some w.heap.size) := by
 have hi : Tryz.prog.info? 57 = some Tryz.t57 := by kernel_rfl
 cases A with
 | none =>
  have h0 : hs = [] := by
   cases hs with
   | nil => rfl
   | cons g r =>
    obtain ⟨_, _, e, _⟩ := hg 0 (by simp)
    cases e
  subst h0
  refine ⟨v, w, ?_, by simpa using hown, World.grownBy.refl w _, Or.inl rfl⟩
  rcases hown.2 with ⟨rfl, _⟩ | ⟨g, cap, cur, rfl, _, _, hnc, _⟩
  ·
   simp [Builtin.append_, run_underlying Tryz.underlying25, sizeOf, typeInfo, hi, Builtin.lenOf, Builtin.firstCells]
  simp [Builtin.append_, run_underlying Tryz.underlying25, sizeOf, typeInfo, hi, Builtin.lenOf, Builtin.firstCells, hnc, storeCells]
 | some ad =>
  have hm : gs.length + hs.length ≤ maxLen := by unfold maxLen; omega
  obtain ⟨v', w', h1, h2, h3, _, h5⟩ := run_append_own_at (P := Tryz.prog) w base 25 ty 57 Tryz.t57 (.agg #[.int .i64 0, .int .i64 0]) 2 16 Tryz.underlying25 hi (by kernel_rfl) (by kernel_rfl) (by kernel_rfl) (by kernel_rfl) (by omega)
   v gs.length (flat gs) hown ad hs.length c (flat hs) (flat_length hs) hg.cells (flat_one hs) hm (by omega) hbase
  exact ⟨v', w', h1, by unfold Own; rw [List.length_append, flat_append]; exact h2, h3, h5⟩

theorem wpList_gates {ops : Array Oper} {rest : List Oper} {o : Oper} {a : Act} {Q : Exit → Act → World → Prop} {w : World} (hgd : o.guard = none) (s x : Operand)
  (ho : o.op = .call { callee := .builtin .append, args := #[s, x], argTypes := #[25, 25] })
  (base B : Nat) (v : Value) (gs hs : List (Int × Int)) (hs1 : a.eval s = v) (hown : Own w base v gs) (A : Option Addr) (c : Nat) (hx : a.eval x = .slice A hs.length c) (hg : Gr w B A hs)
  (hl : gs.length + hs.length ≤ 2000000) (hbase : base ≤ w.heap.size)
  (h : ∀ v' w', Own w' base v' (gs ++ hs) → w.grownBy w' v.ownBlock → (v'.ownBlock = v.ownBlock ∨ v'.ownBlock = some w.heap.size) → wpList Tryz.prog ops Q rest (a.put o.dst v') w') : wpList Tryz.prog ops Q (o :: rest) a w := by
 refine wpList_plain hgd fun K hK => ?_
 obtain ⟨v', w', hrun, h2, h3, h4⟩ := run_append_gates w base B o.type v gs hs hown A c hg hl hbase
 unfold Oper.wp execOp
 simp only [ho, resolve, invoke, builtin, Sem.run_bind, Sem.run_pure, Result.andThen_ok, List.map_toArray, List.map_cons, List.map_nil, hs1, hx, hrun]
 exact hK _ _ (h v' w' h2 h3 h4)

/-- The address lies from block lo on, or below block B. -/
def Sep (B lo : Nat) (A : Option Addr) : Prop := ∀ ad, A = some ad → ad.block < B ∨ lo ≤ ad.block
theorem Sep.none_ {B lo : Nat} : Sep B lo none := fun _ h => by cases h
theorem Sep.ne {B lo k : Nat} {A : Option Addr} (h : Sep B lo A) (h1 : B ≤ k) (h2 : k < lo) : ∀ ad, A = some ad → ad.block ≠ k := fun ad e => by
 rcases h ad e with h | h <;> omega
theorem Sep.mono {B B' lo lo' : Nat} {A : Option Addr} (h : Sep B lo A) (h1 : B ≤ B') (h2 : lo' ≤ lo) : Sep B' lo' A := fun ad e => by
 rcases h ad e with h | h <;> omega
theorem Gr.set {w : World} {C : Nat} {A : Option Addr} {gs : List (Int × Int)} (h : Gr w C A gs) {p : Addr} (hp : ∀ ad, A = some ad → ad.block ≠ p.block) (u : Value) : Gr (w.setCell p u) C A gs := by
 intro k hk
 obtain ⟨b, off, e, hb, h1, h2⟩ := h k hk
 have hne := hp _ e
 exact ⟨b, off, e, hb, (World.cell?_setCell_other w p ⟨b, _, none⟩ u (fun e => hne (by rw [e]))).trans h1, (World.cell?_setCell_other w p ⟨b, _, none⟩ u (fun e => hne (by rw [e]))).trans h2⟩

theorem Own.sep {w : World} {base : Nat} {A : Option Addr} {n c : Nat} {gs : List (Int × Int)} (h : Own w base (.slice A n c) gs) : Sep 0 base A := by
 intro ad e
 subst e
 rcases h.2 with ⟨h2, _⟩ | ⟨g, cap, cur, h2, hb, _⟩
 ·
  simp at h2
 simp only [Value.slice.injEq, Option.some.injEq] at h2
 obtain ⟨rfl, _, _⟩ := h2
 exact Or.inr hb

end Go.Proofs.YtpejilhdhkmcjaaGreatDoor
/- slices.Grow, slices.Concat of two slices of gates; extended. -/
namespace Go.Proofs.YtpejilhdhkmcjaaGreatDoor
open Go.RowKit

theorem Own.block {w : World} {base : Nat} {v : Value} {gs : List (Int × Int)} (h : Own w base v gs) : ∀ k, v.ownBlock = some k → base ≤ k := by
 intro k e
 rcases h.2 with ⟨rfl, _⟩ | ⟨g, cap, cur, rfl, hb, _⟩
 ·
  cases e
 simp [Value.ownBlock] at e
 omega

end Go.Proofs.YtpejilhdhkmcjaaGreatDoor
/- extended. -/
namespace Go.Proofs.YtpejilhdhkmcjaaGreatDoor
open Go.RowKit

theorem keep2 {w : World} {g i k : Nat} {u v1 v2 : Value} (h : w.cell? ⟨g, i, none⟩ = some u) (hne : k ≠ g) : ((w.setCell ⟨k, 0, none⟩ v1).setCell ⟨k, 1, none⟩ v2).cell? ⟨g, i, none⟩ = some u :=
 (World.cell?_setCell_other _ _ _ _ (fun e => hne (congrArg Addr.block e))).trans ((World.cell?_setCell_other _ _ _ _ (fun e => hne (congrArg Addr.block e))).trans h)

end Go.Proofs.YtpejilhdhkmcjaaGreatDoor
/- simple. -/
namespace Go.Proofs.YtpejilhdhkmcjaaGreatDoor
open Go.RowKit

end Go.Proofs.YtpejilhdhkmcjaaGreatDoor
/- graph.And. -/
namespace Go.Proofs.YtpejilhdhkmcjaaGreatDoor
open Go.RowKit

/-- The boxes of a call: the graph at block k, the result behind it. -/
structure Boxes (w W : World) (n : Int) (s : Value) : Prop where
 low : Below w.heap.size w W
 d0 : W.cell? ⟨w.heap.size, 0, none⟩ = some (.int .i64 n)
 d1 : W.cell? ⟨w.heap.size, 1, none⟩ = some s
 e0 : W.cell? ⟨w.heap.size + 1, 0, none⟩ = some (.int .i64 0)
 e1 : W.cell? ⟨w.heap.size + 1, 1, none⟩ = some (.slice none 0 0)
 f0 : W.frozen? ⟨w.heap.size + 1, 0, none⟩ = false
 f1 : W.frozen? ⟨w.heap.size + 1, 1, none⟩ = false
 sz : w.heap.size + 1 < W.heap.size
theorem Boxes.grown {w W W' : World} {n : Int} {s : Value} {k : Nat} (h : Boxes w W n s) (hg : W.grownBy W' (some k)) (hk : w.heap.size + 1 < k) : Boxes w W' n s := by
 have hc : ∀ b i, b < w.heap.size + 2 → W'.cell? ⟨b, i, none⟩ = W.cell? ⟨b, i, none⟩ := fun b i hb => World.cell?_of_block (hg.block b (by have := h.sz; omega) (fun e => by injection e with e; omega))
 have hf : ∀ b i, b < w.heap.size + 2 → W'.frozen? ⟨b, i, none⟩ = W.frozen? ⟨b, i, none⟩ := fun b i hb => World.frozen?_of_block (hg.block b (by have := h.sz; omega) (fun e => by injection e with e; omega))
 exact ⟨h.low.grown hg h.low.size (fun j e => by injection e with e; omega), (hc _ _ (by omega)).trans h.d0, (hc _ _ (by omega)).trans h.d1, (hc _ _ (by omega)).trans h.e0, (hc _ _ (by omega)).trans h.e1, (hf _ _ (by omega)).trans h.f0, (hf _ _ (by omega)).trans h.f1, Nat.lt_of_lt_of_le h.sz hg.size⟩
theorem Boxes.below {w W W' : World} {n : Int} {s : Value} (h : Boxes w W n s) (hb : Below W.heap.size W W') : Boxes w W' n s :=
 h.grown (k := w.heap.size + 2) (grown_of_below hb _) (by omega)

theorem and_cells {w w2 : World} {n : Int} {s u v : Value} (h : Boxes w w2 n s) :
  ((w2.setCell ⟨w.heap.size + 1, 0, none⟩ u).setCell ⟨w.heap.size + 1, 1, none⟩ v).cell? ⟨w.heap.size + 1, 0, none⟩ = some u ∧ ((w2.setCell ⟨w.heap.size + 1, 0, none⟩ u).setCell ⟨w.heap.size + 1, 1, none⟩ v).cell? ⟨w.heap.size + 1, 1, none⟩ = some v :=
 ⟨(World.cell?_setCell_other _ _ _ _ (by simp)).trans (World.cell?_setCell_same _ _ _ h.e0), World.cell?_setCell_same _ _ _ ((World.cell?_setCell_other _ _ _ _ (by simp)).trans h.e1)⟩
end Go.Proofs.YtpejilhdhkmcjaaGreatDoor
/- graph.And of a right graph and its literals. -/
namespace Go.Proofs.YtpejilhdhkmcjaaGreatDoor
open Go.RowKit

theorem right_facts {n : Int} {gs : List (Int × Int)} (h : Gm.rightB n gs = true) : 0 ≤ n ∧ n ≤ 2000 ∧ 1 + n + gs.length ≤ 2000 ∧ gs.Nodup := by
 simp [Gm.rightB, Gm.fitB, Gm.nodB] at h
 exact ⟨h.1.1.1.1, h.1.1.1.2, h.1.1.2, h.2⟩
theorem lit_facts {n : Int} {l : Nat} {x : Int} (h : Gm.litB n l x = true) : 0 ≤ x ∧ x < 2 * (1 + n + l) := by
 simp [Gm.litB] at h
 exact ⟨h.1.2, h.2⟩

theorem andS_some {n : Int} {gs : List (Int × Int)} {a b l : Int} (h : Gm.rightB n gs = true ∧ Gm.litB n gs.length a = true ∧ Gm.litB n gs.length b = true) (hs : Gm.simpleS a b = some l) : Gm.andS n gs a b = ((n, gs), l, 0) := by
 unfold Gm.andS; rw [if_pos h, hs]
theorem andS_none {n : Int} {gs : List (Int × Int)} {a b : Int} (h : Gm.rightB n gs = true ∧ Gm.litB n gs.length a = true ∧ Gm.litB n gs.length b = true) (hs : Gm.simpleS a b = none) : Gm.andS n gs a b =
  if gs.idxOf (max a b, min a b) < gs.length then ((n, gs), 2 * (1 + n + gs.idxOf (max a b, min a b)), 0)
   else if 1 + n + gs.length = 2000 then Gm.bad 2
   else ((n, gs ++ [(max a b, min a b)]), 2 * (1 + n + gs.length), 0) := by
 unfold Gm.andS; rw [if_pos h, hs]

theorem keep_res {w : World} {g i k : Nat} {u v1 v2 : Value} (h : w.cell? ⟨g, i, none⟩ = some u) (hne : k ≠ g) : ((w.setCell ⟨k, 0, none⟩ v1).setCell ⟨k, 1, none⟩ v2).cell? ⟨g, i, none⟩ = some u := keep2 h hne
theorem Boxes.drew {w W : World} {n : Int} {s : Value} (h : Boxes w W n s) : Boxes w W.drew n s := ⟨h.low.drew, h.d0, h.d1, h.e0, h.e1, h.f0, h.f1, h.sz⟩
end Go.Proofs.YtpejilhdhkmcjaaGreatDoor
/- What andS gives: bounds. -/
namespace Go.Proofs.YtpejilhdhkmcjaaGreatDoor
open Go.RowKit

theorem andS_cases (n : Int) (gs : List (Int × Int)) (a b : Int) :
  Gm.andS n gs a b = Gm.bad 1 ∨ ((Gm.rightB n gs = true ∧ Gm.litB n gs.length a = true ∧ Gm.litB n gs.length b = true) ∧
   ((∃ l, Gm.simpleS a b = some l ∧ Gm.andS n gs a b = ((n, gs), l, 0)) ∨
    (Gm.simpleS a b = none ∧ gs.idxOf (max a b, min a b) < gs.length ∧ Gm.andS n gs a b = ((n, gs), 2 * (1 + n + gs.idxOf (max a b, min a b)), 0)) ∨
    (Gm.simpleS a b = none ∧ gs.length ≤ gs.idxOf (max a b, min a b) ∧ 1 + n + gs.length = 2000 ∧ Gm.andS n gs a b = Gm.bad 2) ∨
    (Gm.simpleS a b = none ∧ gs.length ≤ gs.idxOf (max a b, min a b) ∧ 1 + n + gs.length ≠ 2000 ∧ Gm.andS n gs a b = ((n, gs ++ [(max a b, min a b)]), 2 * (1 + n + gs.length), 0)))) := by
 by_cases h : Gm.rightB n gs = true ∧ Gm.litB n gs.length a = true ∧ Gm.litB n gs.length b = true
 ·
  refine Or.inr ⟨h, ?_⟩
  cases hs : Gm.simpleS a b with
  | some l => exact Or.inl ⟨l, rfl, andS_some h hs⟩
  | none =>
   have e := andS_none h hs
   by_cases hi : gs.idxOf (max a b, min a b) < gs.length
   ·
    rw [if_pos hi] at e
    exact Or.inr (Or.inl ⟨rfl, hi, e⟩)
   rw [if_neg hi] at e
   by_cases h2 : 1 + n + (gs.length : Int) = 2000
   ·
    rw [if_pos h2] at e
    exact Or.inr (Or.inr (Or.inl ⟨rfl, by omega, h2, e⟩))
   rw [if_neg h2] at e
   exact Or.inr (Or.inr (Or.inr ⟨rfl, by omega, h2, e⟩))
 exact Or.inl (by unfold Gm.andS; rw [if_neg h])

theorem simple_lit {n : Int} {len : Nat} {a b l : Int} (ha : Gm.litB n len a = true) (hb : Gm.litB n len b = true) (h : Gm.simpleS a b = some l) : Gm.litB n len l = true := by
 have h1 : 0 ≤ n ∧ n ≤ 2000 := by simp [Gm.litB] at ha; omega
 unfold Gm.simpleS at h
 split at h
 ·
  injection h with h; subst h; simp [Gm.litB]; omega
 split at h
 ·
  injection h with h; subst h; exact hb
 split at h
 ·
  injection h with h; subst h; exact ha
 cases h

structure AndFacts (n : Int) (gs : List (Int × Int)) (r : Gm.Res) : Prop where
 lit0 : 0 ≤ r.2.1
 lit1 : r.2.1 ≤ 4000
 len : r.1.2.length ≤ gs.length + 1
 wf : Wf r.1.2
 lit : r.2.2 = 0 → Gm.litB r.1.1 r.1.2.length r.2.1 = true
theorem and_facts (n : Int) (gs : List (Int × Int)) (a b : Int) (hw : Wf gs) : AndFacts n gs (Gm.andS n gs a b) := by
 rcases andS_cases n gs a b with e | ⟨⟨hr, ha, hb⟩, ⟨l, hs, e⟩ | ⟨hs, hi, e⟩ | ⟨hs, hi, h2, e⟩ | ⟨hs, hi, h2, e⟩⟩
 ·
  rw [e]; exact ⟨by simp [Gm.bad], by simp [Gm.bad], by simp [Gm.bad], fun g hg => by simp [Gm.bad] at hg, fun h => by simp [Gm.bad] at h⟩
 ·
  have hl := simple_lit ha hb hs
  have h3 := right_facts hr
  have h4 := lit_facts hl
  rw [e]; exact ⟨h4.1, by simp only; omega, by simp, hw, fun _ => hl⟩
 ·
  have h3 := right_facts hr
  rw [e]; exact ⟨by simp only; omega, by simp only; omega, by simp, hw, fun _ => by simp [Gm.litB]; omega⟩
 ·
  rw [e]; exact ⟨by simp [Gm.bad], by simp [Gm.bad], by simp [Gm.bad], fun g hg => by simp [Gm.bad] at hg, fun h => by simp [Gm.bad] at h⟩
 have h3 := right_facts hr
 have h4 := lit_facts ha
 have h5 := lit_facts hb
 rw [e]
 refine ⟨by simp only; omega, by simp only; omega, by simp, fun g hg => ?_, fun _ => by simp [Gm.litB]; omega⟩
 simp only [List.mem_append, List.mem_singleton] at hg
 rcases hg with hg | rfl
 ·
  exact hw g hg
 simp only
 omega
end Go.Proofs.YtpejilhdhkmcjaaGreatDoor
/- What Or and Ite rest on. -/
namespace Go.Proofs.YtpejilhdhkmcjaaGreatDoor
open Go.RowKit

theorem Boxes.alloc {w W : World} {n : Int} {s : Value} (h : Boxes w W n s) (o : Obj) : Boxes w (W.alloc o) n s := h.below ((Below.refl W.heap.size W).alloc (Nat.le_refl _) o)
structure BoxG (w W : World) (n : Int) (s : Value) : Prop where
 bx : Boxes w W n s
 g0 : W.frozen? ⟨w.heap.size, 0, none⟩ = false
 g1 : W.frozen? ⟨w.heap.size, 1, none⟩ = false
end Go.Proofs.YtpejilhdhkmcjaaGreatDoor
