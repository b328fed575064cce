/- The marks of a cone. -/
import Derived.Test.YtjjdgiondpnpcaaCB
namespace Go.Proofs.Ytjjdgiondpnpcaa
open Go.RowKit Go.Shelf

/-- A loop over an iterator, in a plain frame. -/
theorem wp_rangeFunc {P : Program} {α : Type} {g : Operand} {ps : Array Tmp} {assign body : Code} {Q : Exit → Act → World → Prop} {a : Act} {w : World}
    {gf : Nat} {lb : Array Value} (hg : a.eval g = .func (.func gf) #[] lb) (eg : ∀ args w, (callFunc gf args).run P w = .ok (.enter gf args) w)
    {encs : α → Array Value} {K : Nat → Prop} {S Sp : List α → Prop} {N : Nat} {w0 : World} (hseq : SeqStopsK Fence.wide 8 P gf lb encs (KS K) S Sp N w0)
    (hK : ∀ b, K b → b < w.heap.size) (hb0 : Below w0.heap.size w0 w) (hps : ∀ x, (encs x).size = ps.size)
    (I : List α → World → Prop) (Ix : Code → List α → World → Prop) (hI : OwnFrom w.heap.size I) (hIx : ∀ c, OwnFrom w.heap.size (Ix c)) (h0 : I [] w) (Ax : α → Act → World → Prop) (hAx : ∀ x a', OwnFrom w.heap.size (fun (_ : Unit) W => Ax x a' W))
    (hassign : ∀ (l : Nat) (pre : List α) (x : α) (W : World) (K' : Act → World → Prop), I pre W → (∀ a' W', KeepsFrom w.heap.size W W' → KS K W W' → I pre W' → Ax x a' W' → K' a' W') →
      assign.wpIn (Fence.wide.inRound l) 7 P (Exit.then K' (fun _ _ _ => False)) { tmps := (ps.zip (encs x)).foldl (fun t (p, v) => t.setIfInBounds p v) a.tmps, defers := [] } W)
    (hbody : ∀ (l : Nat) (pre : List α) (x : α) (a' : Act) (W : World), I pre W → Ax x a' W → pre.length < N → body.wpIn (Fence.wide.inRound l) 7 P (ownPostG w.heap.size (KS K) I Ix (pre ++ [x]) W) a' W)
    (hdone : ∀ (D : Nat) (xs : List α) (W : World), w.heap.size ≤ D → S xs → I xs W → W.heap[D]? = some (.deferred (some [])) → Q .normal { a with defers := { target := .collected D, args := #[] } :: a.defers } W)
    (hstop : ∀ (D : Nat) (c : Code) (pre : List α) (W : World), w.heap.size ≤ D → Sp pre → Ix c pre W → W.heap[D]? = some (.deferred (some [])) → c.wp P Q { a with defers := { target := .collected D, args := #[] } :: a.defers } W) :
    (Code.rangeFunc g ps assign body).wp P Q a w :=
  wpIn_wide.1 (wpIn_rangeFunc_ownH (n := 9) rfl (by omega) hg trivial eg hseq (fun h k => h.trans k) (fun W l o o' a b c d => KS.put hK W l o o' a b c d) hb0 hps I Ix hI hIx h0 Ax hAx hassign
    (fun l pre x a' W _ _ hi hx hlt => hbody l pre x a' W hi hx hlt) hdone (fun D c pre W a b d e => wpIn_wide.2 (hstop D c pre W a b d e)))

theorem back_stops (n Bs B : Nat) (A : Option Addr) (c : Nat) (gs : List (Int × Int)) (K : Nat → Prop) (hn : 1 ≤ n) (hl : gs.length ≤ 100000) (hKs : K Bs) (hKB : ∀ b, b < B → K b) (w : World) (hBs : Bs < w.heap.size) (hB : B ≤ w.heap.size)
    (hc : w.cell? ⟨Bs, 0, none⟩ = some (.slice A gs.length c)) (hG : Gr w B A gs) :
    SeqStopsK Fence.wide n Try.prog 46 #[.pointer (some ⟨Bs, 0, none⟩)] (gateV gs 0) (KS K) (fun ys => ys = downF gs.length gs.length) (fun _ => True) gs.length w := fun l J Jx W hW _ _ hY h0 =>
  back1_in n l Bs B A c gs K hn hl hKs hKB J Jx hY W ((hW.cell (p := ⟨Bs, 0, none⟩) hBs).trans hc) (hG.below hW hB) h0

set_option maxHeartbeats 1000000 in
theorem backward_any (A : Option Addr) (l c : Nat) (w : World) :
    Calls Try.prog 37 #[.slice A l c] w fun e w' => e = .returned (.func (.func 46) #[] #[.pointer (some ⟨w.heap.size, 0, none⟩)]) ∧ w' = w.alloc (.cells #[.slice A l c] 24) := by
  go_enter Try.func37, Try.ntmps37
  go_wp2
  go_ret
  exact ⟨rfl, rfl⟩

/-- What is marked when the gates of pre have been looked at. -/
def marksF (n : Nat) (gs : List (Int × Int)) (m0 : List Bool) (pre : List (Fin gs.length)) : List Bool := pre.foldl (fun m i => Cm.look n gs m i.1) m0
theorem marksF_snoc (n : Nat) (gs : List (Int × Int)) (m0 : List Bool) (pre : List (Fin gs.length)) (x : Fin gs.length) : marksF n gs m0 (pre ++ [x]) = Cm.look n gs (marksF n gs m0 pre) x.1 := by simp [marksF]
theorem marksF_length (n : Nat) (gs : List (Int × Int)) (m0 : List Bool) (pre : List (Fin gs.length)) : (marksF n gs m0 pre).length = m0.length := by
  unfold marksF
  induction pre generalizing m0 with
  | nil => rfl
  | cons x r ih => rw [List.foldl_cons, ih, Cm.look_length]
theorem marksF_down (n : Nat) (gs : List (Int × Int)) (m0 : List Bool) : ∀ k, k ≤ gs.length → marksF n gs m0 (downF gs.length k) = Cm.marks n gs m0 k
  | 0, _ => rfl
  | k + 1, h => by rw [downF_succ (by omega), marksF_snoc, marksF_down n gs m0 k (by omega), Cm.marks]

/-- What marked leaves. -/
def MPost (n : Nat) (gs : List (Int × Int)) (l : Int) (w : World) (e : Ending) (w' : World) : Prop :=
  ∃ mb, e = .returned (.slice (some ⟨mb, 0, none⟩) (1 + n + gs.length) (1 + n + gs.length)) ∧ w.heap.size ≤ mb ∧ Blk w' mb 4 (bv (Cm.below n gs l)).toArray ∧ Below w.heap.size w w'

theorem Blk.own {W W' : World} {g B : Nat} {t : TypeId} {cs : Array Value} {row : Option Nat} (h : Blk W g t cs) (hg : W.grownBy W' row) (hr : ∀ r, row = some r → B ≤ r ∧ ∃ o : Obj, W.heap[r]? = some o ∧ o.isCells = false) : Blk W' g t cs :=
  h.grown hg (fun e => by obtain ⟨_, o, ho, hc⟩ := hr g e.symm; rw [show W.heap[g]? = _ from h] at ho; cases ho; cases hc)
theorem below_own {w W W' : World} {n₀ B : Nat} {row : Option Nat} (h : Below n₀ w W) (hn : n₀ ≤ w.heap.size) (hB : n₀ ≤ B) (hg : W.grownBy W' row) (hr : ∀ r, row = some r → B ≤ r ∧ ∃ o : Obj, W.heap[r]? = some o ∧ o.isCells = false) : Below n₀ w W' :=
  h.grown hg (Nat.le_trans hn h.size) (fun k e => Nat.le_trans hB (hr k e).1)

/-- What marked keeps in its boxes. -/
structure MI (w W : World) (n N : Nat) (ms : List Bool) : Prop where
  low : Below w.heap.size w W
  b5 : Blk W (w.heap.size + 1) 3 #[.int .i64 (1 + (n : Int))]
  b6 : Blk W (w.heap.size + 1 + 1 + 1) 35 #[.slice (some ⟨w.heap.size + 1 + 1, 0, none⟩) N N]
  bm : Blk W (w.heap.size + 1 + 1) 4 (bv ms).toArray
section
variable {w W W' : World} {n N : Nat} {ms : List Bool}
theorem MI.own {B : Nat} {row : Option Nat} (h : MI w W n N ms) (hB : w.heap.size ≤ B) (hg : W.grownBy W' row) (hr : ∀ r, row = some r → B ≤ r ∧ ∃ o : Obj, W.heap[r]? = some o ∧ o.isCells = false) : MI w W' n N ms :=
  ⟨below_own h.low (Nat.le_refl _) hB hg hr, h.b5.own hg hr, h.b6.own hg hr, h.bm.own hg hr⟩
theorem MI.below (h : MI w W n N ms) (hb : Below W.heap.size W W') : MI w W' n N ms := ⟨h.low.trans (hb.mono h.low.size), h.b5.below hb h.b5.lt, h.b6.below hb h.b6.lt, h.bm.below hb h.bm.lt⟩
theorem MI.alloc (h : MI w W n N ms) (o : Obj) : MI w (W.alloc o) n N ms := h.below ((Below.refl _ _).alloc (Nat.le_refl _) o)
theorem MI.drew (h : MI w W n N ms) : MI w W.drew n N ms := ⟨h.low.drew, h.b5, h.b6, h.bm⟩
theorem MI.set (h : MI w W n N ms) (i : Nat) (b : Bool) : MI w (W.setCell ⟨w.heap.size + 1 + 1, i, none⟩ (.bool b)) n N (ms.set i b) :=
  ⟨h.low.setCell (by simp; omega) _, h.b5.far (by simp) _, h.b6.far (by simp) _, by rw [← bv_set]; exact h.bm.put i _⟩
theorem MI.get (h : MI w W n N ms) {i : Nat} (hi : i < ms.length) : W.cell? ⟨w.heap.size + 1 + 1, i, none⟩ = some (.bool (ms.getD i false)) := by
  obtain ⟨b, o, e, _, h1⟩ := h.bm.vs.bool i hi
  injection e with e
  injection e with e1 e2
  subst e1 e2
  simpa using h1
end

attribute [local go_sem] Oper.semAt_some
set_option maxRecDepth 100000 in
set_option maxHeartbeats 4000000 in
theorem marked_any (n : Nat) (A : Option Addr) (c : Nat) (gs : List (Int × Int)) (l : Int) (w : World) (hg : Gr w w.heap.size A gs) (hr : Gm.rightB n gs = true) (hl : Gm.litB n gs.length l = true) :
    Calls Try.prog 23 #[.agg #[.int .i64 n, .slice A gs.length c], .int .i64 l] w (MPost n gs l w) := by
  obtain ⟨hn0, hn1, hn2, _⟩ := right_facts hr
  have hlf := lit_facts hl
  have HO := Lib.hid (Em.right_ord hr)
  have hgl : gs.length ≤ 2000 := by omega
  have hmk : ∀ w, (Instr.makeSlice 35 (.int .i64 (1 + (n : Int) + (gs.length : Int))) (.int .i64 (1 + (n : Int) + (gs.length : Int)))).run Try.prog w = .ok (.slice (some ⟨w.heap.size, 0, none⟩) (1 + n + gs.length) (1 + n + gs.length)) (w.alloc (.cells (falses (1 + n + gs.length)) 4)) := fun w => by
    have := make_bools (1 + n + gs.length) (by omega) w
    rwa [show ((1 + n + gs.length : Nat) : Int) = 1 + (n : Int) + (gs.length : Int) by omega] at this
  clear hr hl
  refine (callsIn_wide (n := 9)).1 (callsIn_of_wp_marks Try.func23 rfl trivial (wpIn_wide.2 ?_) rfl)
  simp only [Try.ntmps23, List.size_toArray, List.length_cons, List.length_nil, Nat.reduceAdd, Nat.reduceSub, Array.replicate_succ, Array.replicate_zero, List.push_toArray, List.append_toArray, List.nil_append, List.cons_append]
  go_upto_region 3 with fail
  clear hmk
  have M0 : MI w ((((w.alloc (Obj.cells #[.int .i64 n, .slice A gs.length c] 26)).alloc (Obj.cells #[.int .i64 (1 + n)] 3)).alloc (Obj.cells (falses (1 + n + gs.length)) 4)).alloc (Obj.cells #[.slice (some ⟨w.heap.size + 1 + 1, 0, none⟩) (1 + n + gs.length) (1 + n + gs.length)] 35)) n (1 + n + gs.length) (List.replicate (n + 1 + gs.length) false) := by
    refine ⟨((((Below.refl _ _).alloc (Nat.le_refl _) _).alloc (by simp) _).alloc (by simp; omega) _).alloc (by simp; omega) _, ?_, ?_, ?_⟩
    · have := ((Blk.new (w.alloc (Obj.cells #[.int .i64 n, .slice A gs.length c] 26)) 3 #[.int .i64 (1 + n)]).alloc (Obj.cells (falses (1 + n + gs.length)) 4)).alloc (Obj.cells #[.slice (some ⟨w.heap.size + 1 + 1, 0, none⟩) (1 + n + gs.length) (1 + n + gs.length)] 35)
      simpa using this
    · have := Blk.new (((w.alloc (Obj.cells #[.int .i64 n, .slice A gs.length c] 26)).alloc (Obj.cells #[.int .i64 (1 + n)] 3)).alloc (Obj.cells (falses (1 + n + gs.length)) 4)) 35 #[.slice (some ⟨w.heap.size + 1 + 1, 0, none⟩) (1 + n + gs.length) (1 + n + gs.length)]
      simpa using this
    · have := (Blk.new ((w.alloc (Obj.cells #[.int .i64 n, .slice A gs.length c] 26)).alloc (Obj.cells #[.int .i64 (1 + n)] 3)) 4 (falses (1 + n + gs.length))).alloc (Obj.cells #[.slice (some ⟨w.heap.size + 1 + 1, 0, none⟩) (1 + n + gs.length) (1 + n + gs.length)] 35)
      have e : (bv (List.replicate (n + 1 + gs.length) false)).toArray = falses (1 + n + gs.length) := by
        rw [Nat.add_comm n 1]
        simp [falses, bv]
      rw [e]
      simpa using this
  have hgb : Blk ((((w.alloc (Obj.cells #[.int .i64 n, .slice A gs.length c] 26)).alloc (Obj.cells #[.int .i64 (1 + n)] 3)).alloc (Obj.cells (falses (1 + n + gs.length)) 4)).alloc (Obj.cells #[.slice (some ⟨w.heap.size + 1 + 1, 0, none⟩) (1 + n + gs.length) (1 + n + gs.length)] 35)) w.heap.size 26 #[.int .i64 n, .slice A gs.length c] := (((Blk.new w _ _).alloc _).alloc _).alloc _
  have hsz : ((((w.alloc (Obj.cells #[.int .i64 n, .slice A gs.length c] 26)).alloc (Obj.cells #[.int .i64 (1 + n)] 3)).alloc (Obj.cells (falses (1 + n + gs.length)) 4)).alloc (Obj.cells #[.slice (some ⟨w.heap.size + 1 + 1, 0, none⟩) (1 + n + gs.length) (1 + n + gs.length)] 35)).heap.size = w.heap.size + 1 + 1 + 1 + 1 := by simp
  generalize (((w.alloc (Obj.cells #[.int .i64 n, .slice A gs.length c] 26)).alloc (Obj.cells #[.int .i64 (1 + n)] 3)).alloc (Obj.cells (falses (1 + n + gs.length)) 4)).alloc (Obj.cells #[.slice (some ⟨w.heap.size + 1 + 1, 0, none⟩) (1 + n + gs.length) (1 + n + gs.length)] 35) = V at *
  obtain ⟨r, hrl, hrN⟩ : ∃ r : Nat, l / 2 = (r : Int) ∧ r < n + 1 + gs.length := ⟨(l / 2).toNat, by omega, by omega⟩
  have HC := Lib.hid (fun W => cvar_any l W hlf.1 (by omega))
  have hvr : Cm.vr l = r := by unfold Cm.vr; omega
  have HVR := Lib.hid hvr
  rw [hrl] at HC
  clear hrl hvr
  have c6 := M0.b6.cell 0
  have hix := ixB0 (w.heap.size + 1 + 1) (1 + n + gs.length) r (by omega) (by omega)
  have hcr := M0.get (i := r) (by simpa using hrN)
  have hfr := M0.bm.frozen r
  have c6' := (M0.set r true).drew.b6.cell 0
  simp only [List.getElem?_toArray, List.getElem?_cons_zero] at c6 c6'
  go_region_held3 (fun W => W.cell? ⟨w.heap.size + 1 + 1 + 1, 0, none⟩ = some (.slice (some ⟨w.heap.size + 1 + 1, 0, none⟩) (1 + n + gs.length) (1 + n + gs.length)))
    (first | exact c6 | exact c6')
    (first | (go_at_call 36; refine (HC.out _).mono ?_; rintro e w' ⟨rfl, rfl⟩))
  have M1 := (M0.set r true).drew
  have hg1 : Blk (V.setCell ⟨w.heap.size + 1 + 1, r, none⟩ (.bool true)).drew w.heap.size 26 #[.int .i64 n, .slice A gs.length c] := hgb.far (by simp; omega) _
  have hs1 : (V.setCell ⟨w.heap.size + 1 + 1, r, none⟩ (.bool true)).drew.heap.size = w.heap.size + 1 + 1 + 1 + 1 := by simpa using hsz
  clear M0 hgb hsz hix hcr hfr c6 HC
  generalize (V.setCell ⟨w.heap.size + 1 + 1, r, none⟩ (.bool true)).drew = V1 at *
  have k1 := hg1.cell 1
  simp only [List.getElem?_toArray, List.getElem?_cons_zero, List.getElem?_cons_succ] at k1
  go_wp2_with (go_at_call 37; refine (backward_any A gs.length c _).mono ?_; rintro e w' ⟨rfl, rfl⟩)
  have hbk := Blk.new V1 24 #[.slice A gs.length c]
  rw [hs1] at hbk
  have hbc := hbk.cell 0
  simp only [List.getElem?_toArray, List.getElem?_cons_zero] at hbc
  have M2 := M1.alloc (Obj.cells #[.slice A gs.length c] 24)
  have hs2 : (V1.alloc (Obj.cells #[.slice A gs.length c] 24)).heap.size = w.heap.size + 1 + 1 + 1 + 1 + 1 := by simp [hs1]
  clear hg1 k1 M1
  generalize V1.alloc (Obj.cells #[.slice A gs.length c] 24) = V2 at *
  have HM : Hid (((List.replicate (n + 1 + gs.length) false).set r true).length = n + 1 + gs.length) := by unfold Hid; simp
  have HB : Hid (Cm.below n gs l = Cm.marks n gs ((List.replicate (n + 1 + gs.length) false).set r true) gs.length) := by unfold Hid Cm.below; rw [HVR.out]
  generalize (List.replicate (n + 1 + gs.length) false).set r true = m0 at *
  refine wp_rangeFunc (gf := 46) (lb := #[.pointer (some ⟨w.heap.size + 1 + 1 + 1 + 1, 0, none⟩)]) (encs := gateV gs 0) (K := fun b => b < w.heap.size ∨ b = w.heap.size + 1 + 1 + 1 + 1) rfl (enters_of Try.func46 (by kernel_rfl) rfl)
    (back_stops 8 (w.heap.size + 1 + 1 + 1 + 1) w.heap.size A c gs _ (by omega) (by omega) (Or.inr rfl) (fun b h => Or.inl h) V2 (by omega) (by omega) hbc (hg.below M2.low (Nat.le_refl _)))
    (fun b h => by omega) (Below.refl _ _) (fun _ => rfl)
    (fun pre W => MI w W n (1 + n + gs.length) (marksF n gs m0 pre) ∧ w.heap.size + 1 + 1 + 1 + 1 < W.heap.size) (fun _ _ _ => False)
    (fun s X Y row hs hg hr => ⟨hs.1.own (by omega) hg hr, Nat.lt_of_lt_of_le hs.2 hg.size⟩) (fun _ _ _ _ _ hs _ _ => hs) ⟨M2, by omega⟩
    (fun x a' W => ∃ Bx, w.heap.size + 1 + 1 + 1 + 1 < Bx ∧ Blk W Bx 44 #[.int .i64 (gs[x.1]).1, .int .i64 (gs[x.1]).2] ∧ a' = { tmps := #[.agg #[.int .i64 n, .slice A gs.length c], .int .i64 l, .pointer (some ⟨w.heap.size, 0, none⟩), undef, .slice none 0 0, .pointer (some ⟨w.heap.size + 1, 0, none⟩), .pointer (some ⟨w.heap.size + 1 + 1 + 1, 0, none⟩), .int .i64 x.1, .pointer (some ⟨Bx, 0, none⟩), .pointer (some ⟨w.heap.size, 0, none⟩), .int .i64 n, .int .i64 (1 + n), .int .i64 (1 + n), .pointer (some ⟨w.heap.size, 1, none⟩), .slice A gs.length c, .int .i64 gs.length, .int .i64 (1 + n + gs.length), .slice (some ⟨w.heap.size + 1 + 1, 0, none⟩) (1 + n + gs.length) (1 + n + gs.length), .slice (some ⟨w.heap.size + 1 + 1, 0, none⟩) (1 + n + gs.length) (1 + n + gs.length), .int .i64 l, .int .i64 r, .pointer (some ⟨w.heap.size + 1 + 1, r, none⟩), .pointer (some ⟨w.heap.size, 1, none⟩), .slice A gs.length c, .func (.func 46) #[] #[.pointer (some ⟨w.heap.size + 1 + 1 + 1 + 1, 0, none⟩)], .int .i64 x.1, .agg #[.int .i64 (gs[x.1]).1, .int .i64 (gs[x.1]).2], undef, undef, undef, undef, undef, undef, undef, undef, undef, undef, undef, undef, undef, undef, undef, undef, undef], defers := [] })
    (fun x a' _ X Y row hs hg hr => by obtain ⟨Bx, e1, e2, e3⟩ := hs; exact ⟨Bx, e1, e2.own hg hr, e3⟩)
    ?assign ?body ?done ?stop
  case assign =>
    rintro l' pre x W K' ⟨hI, hsW⟩ hK'
    simp only [gateV, Int.zero_add]
    gi_wp2
    exact hK' _ _ ((KeepsOthers.alloc _ _).from _) (KS.of_below (B := W.heap.size) (fun b h => by omega) ((Below.refl _ W).alloc (Nat.le_refl _) _)) ⟨hI.alloc _, by simp; omega⟩ ⟨W.heap.size, hsW, Blk.new W _ _, rfl⟩
  case body =>
    rintro l' pre ⟨i, hi⟩ a' W ⟨hI, hsW⟩ ⟨Bx, hBx, bX, rfl⟩ hlt
    have HS := Lib.hid (marksF_snoc n gs m0 pre ⟨i, hi⟩)
    have hml : (marksF n gs m0 pre).length = n + 1 + gs.length := by rw [marksF_length]; exact HM.out
    have hlow := Em.gate_low HO.out hi
    have HG : Hid (gs.getD i (0, 0) = gs[i]) := Cm.gate_at hi
    dsimp only at bX ⊢


    generalize marksF n gs m0 pre = ms at *
    have c5 := hI.b5.cell 0
    have c6 := hI.b6.cell 0
    have x0 := bX.cell 0
    have x1 := bX.cell 1
    simp only [List.getElem?_toArray, List.getElem?_cons_zero, List.getElem?_cons_succ] at c5 c6 x0 x1
    have hm := hI.get (i := n + 1 + i) (by omega)
    have hix := ixB0 (w.heap.size + 1 + 1) (1 + n + gs.length) (n + 1 + i) (by omega) (by omega)
    rw [show ((n + 1 + i : Nat) : Int) = 1 + (n : Int) + (i : Int) by omega] at hix
    have HML := Lib.hid hml
    clear hml
    cases hmk : ms.getD (n + 1 + i) false with
    | false =>
      rw [hmk] at hm
      have HL : Hid (Cm.look n gs ms i = ms) := by unfold Hid Cm.look; rw [hmk]; rfl
      clear hmk
      gi_wp2
      exact ⟨KeepsFrom.refl _ _, KS.refl _ _, by rw [HS.out, HL.out]; exact hI, hsW⟩
    | true =>
      rw [hmk] at hm
      have HL : Hid (Cm.look n gs ms i = Cm.mark2 ms gs[i]) := by unfold Hid Cm.look; rw [hmk, HG.out]; rfl
      clear hmk HG
      generalize gs[i] = g at *
      obtain ⟨x, y⟩ := g
      simp only at hlow x0 x1 bX
      obtain ⟨r1, hr1, hrN1⟩ : ∃ r1 : Nat, x / 2 = (r1 : Int) ∧ r1 < n + 1 + gs.length := ⟨(x / 2).toNat, by omega, by omega⟩
      obtain ⟨r2, hr2, hrN2⟩ : ∃ r2 : Nat, y / 2 = (r2 : Int) ∧ r2 < n + 1 + gs.length := ⟨(y / 2).toNat, by omega, by omega⟩
      have HC1 := Lib.hid (fun W => cvar_any x W (by omega) (by omega))
      have HC2 := Lib.hid (fun W => cvar_any y W (by omega) (by omega))
      have HV : Hid (Cm.mark2 ms (x, y) = (ms.set r1 true).set r2 true) := by
        unfold Hid Cm.mark2 Cm.vr
        simp only [hr1, hr2, Int.toNat_natCast]
      rw [hr1] at HC1
      rw [hr2] at HC2
      clear hr1 hr2 hlow
      have hix1 := ixB0 (w.heap.size + 1 + 1) (1 + n + gs.length) r1 (by omega) (by omega)
      have hix2 := ixB0 (w.heap.size + 1 + 1) (1 + n + gs.length) r2 (by omega) (by omega)
      have hm1 := hI.get (i := r1) (by have := HML.out; omega)
      have hf1 := hI.bm.frozen r1
      have J1 := (hI.set r1 true).drew
      have bX1 : Blk (W.setCell ⟨w.heap.size + 1 + 1, r1, none⟩ (.bool true)).drew Bx 44 #[.int .i64 x, .int .i64 y] := bX.far (by simp; omega) _
      have hk1 : KeepsFrom V2.heap.size W (W.setCell ⟨w.heap.size + 1 + 1, r1, none⟩ (.bool true)).drew := ((KeepsOthers.setCell _ _ _).trans (KeepsOthers.drew _)).from _
      have hq1 : KS (fun b => b < w.heap.size ∨ b = w.heap.size + 1 + 1 + 1 + 1) W (W.setCell ⟨w.heap.size + 1 + 1, r1, none⟩ (.bool true)).drew := ⟨by simp, fun b hb => Below.heap_setCell W _ _ b (by simp; omega)⟩
      have s6 := J1.b6.cell 0
      have s0 := bX1.cell 0
      have s1 := bX1.cell 1
      simp only [List.getElem?_toArray, List.getElem?_cons_zero, List.getElem?_cons_succ] at s6 s0 s1
      gi_wp2
      refine round_step (S := fun W => W.cell? ⟨w.heap.size + 1 + 1 + 1, 0, none⟩ = some (.slice (some ⟨w.heap.size + 1 + 1, 0, none⟩) (1 + n + gs.length) (1 + n + gs.length)) ∧ W.cell? ⟨Bx, 0, none⟩ = some (.int .i64 x) ∧ W.cell? ⟨Bx, 1, none⟩ = some (.int .i64 y)) (by kernel_rfl) (by kernel_rfl) ?hS33 (fun hHeld => ?h33)
      case hS33 => exact ⟨c6, x0, x1⟩
      refine wpAnyH_take (i := 0) (oi := ⟨some 33, _, _, _, _, _⟩) (v := ?_) rfl (by kernel_rfl) (by kernel_rfl) (by kernel_rfl) (fun _ _ _ h => h) (Or.inl ⟨by rfl, ?_⟩) hHeld ?_
      rotate_left
      · intro w hSw
        (try dsimp only at hSw)
        first | (go_simp; done) | (go_simp; with_reducible rfl) | with_reducible rfl
      try simp only [Act.put, List.setIfInBounds_toArray, List.set_cons_zero, List.set_cons_succ]
      refine wpAnyH_take (i := 1) (oi := ⟨some 34, _, _, _, _, _⟩) (v := ?_) rfl (by kernel_rfl) (by kernel_rfl) (by kernel_rfl) (fun _ _ _ h => h) (Or.inl ⟨by rfl, ?_⟩) hHeld ?_
      rotate_left
      · intro w hSw
        (try dsimp only at hSw)
        first | (go_simp; done) | (go_simp; with_reducible rfl) | with_reducible rfl
      try simp only [Act.put, List.setIfInBounds_toArray, List.set_cons_zero, List.set_cons_succ]
      refine wpAnyH_take (i := 2) (oi := ⟨some 35, _, _, _, _, _⟩) (v := ?_) rfl (by kernel_rfl) (by kernel_rfl) (by kernel_rfl) (fun _ _ _ h => h) (Or.inl ⟨by rfl, ?_⟩) hHeld ?_
      rotate_left
      · intro w hSw
        (try dsimp only at hSw)
        first | (go_simp; done) | (go_simp; with_reducible rfl) | with_reducible rfl
      try simp only [Act.put, List.setIfInBounds_toArray, List.set_cons_zero, List.set_cons_succ]
      refine wpAnyH_ready (rs := [3]) (by kernel_rfl) (by simp) ?_
      refine AllReadyH.cons (o := ⟨some 36, _, _, _, _, _⟩) rfl (fun K hK => ?_) AllReadyH.nil
      go_simp
      (go_at_call 36; refine (HC1.out _).mono ?_; rintro e w' ⟨rfl, rfl⟩)
      refine hK.out _ _ ?_ (fun hHeld => ?_)
      · exact ⟨c6, x0, x1⟩
      clear hK K
      try simp only [Act.put, List.setIfInBounds_toArray, List.set_cons_zero, List.set_cons_succ]
      refine wpAnyH_take (i := 4) (oi := ⟨some 37, _, _, _, _, _⟩) (v := ?_) rfl (by kernel_rfl) (by kernel_rfl) (by kernel_rfl) (fun _ _ _ h => h) (Or.inl ⟨by rfl, ?_⟩) hHeld ?_
      rotate_left
      · intro w hSw
        (try dsimp only at hSw)
        first | (go_simp; done) | (go_simp; with_reducible rfl) | with_reducible rfl
      try simp only [Act.put, List.setIfInBounds_toArray, List.set_cons_zero, List.set_cons_succ]
      refine wpAnyH_ready (rs := [5]) (by kernel_rfl) (by simp) ?_
      refine AllReadyH.cons (o := ⟨none, _, _, _, _, _⟩) rfl (fun K hK => ?_) AllReadyH.nil
      go_simp
      refine hK.out _ _ ?_ (fun hHeld => ?_)
      · exact ⟨s6, s0, s1⟩
      clear hK K
      try simp only [Act.put, List.setIfInBounds_toArray, List.set_cons_zero, List.set_cons_succ]
      refine wpAnyH_done (by kernel_rfl) ?_ _
      refine only_end ?_
      clear hm hix hm1 hf1 hix1 c5 c6 x0 x1 bX HC1 hI
      generalize (W.setCell ⟨w.heap.size + 1 + 1, r1, none⟩ (.bool true)).drew = W1 at *
      have c6 := s6
      have x0 := s0
      have x1 := s1
      clear s6 s0 s1
      have hm2 := J1.get (i := r2) (by have := HML.out; rw [List.length_set]; omega)
      have hf2 := J1.bm.frozen r2
      have J2 := (J1.set r2 true).drew
      have bX2 : Blk (W1.setCell ⟨w.heap.size + 1 + 1, r2, none⟩ (.bool true)).drew Bx 44 #[.int .i64 x, .int .i64 y] := bX1.far (by simp; omega) _
      have s6 := J2.b6.cell 0
      have s0 := bX2.cell 0
      have s1 := bX2.cell 1
      simp only [List.getElem?_toArray, List.getElem?_cons_zero, List.getElem?_cons_succ] at s6 s0 s1
      gi_wp2
      refine round_step (S := fun W => W.cell? ⟨w.heap.size + 1 + 1 + 1, 0, none⟩ = some (.slice (some ⟨w.heap.size + 1 + 1, 0, none⟩) (1 + n + gs.length) (1 + n + gs.length)) ∧ W.cell? ⟨Bx, 0, none⟩ = some (.int .i64 x) ∧ W.cell? ⟨Bx, 1, none⟩ = some (.int .i64 y)) (by kernel_rfl) (by kernel_rfl) ?hS38 (fun hHeld => ?h38)
      case hS38 => exact ⟨c6, x0, x1⟩
      refine wpAnyH_take (i := 0) (oi := ⟨some 38, _, _, _, _, _⟩) (v := ?_) rfl (by kernel_rfl) (by kernel_rfl) (by kernel_rfl) (fun _ _ _ h => h) (Or.inl ⟨by rfl, ?_⟩) hHeld ?_
      rotate_left
      · intro w hSw
        (try dsimp only at hSw)
        first | (go_simp; done) | (go_simp; with_reducible rfl) | with_reducible rfl
      try simp only [Act.put, List.setIfInBounds_toArray, List.set_cons_zero, List.set_cons_succ]
      refine wpAnyH_take (i := 1) (oi := ⟨some 39, _, _, _, _, _⟩) (v := ?_) rfl (by kernel_rfl) (by kernel_rfl) (by kernel_rfl) (fun _ _ _ h => h) (Or.inl ⟨by rfl, ?_⟩) hHeld ?_
      rotate_left
      · intro w hSw
        (try dsimp only at hSw)
        first | (go_simp; done) | (go_simp; with_reducible rfl) | with_reducible rfl
      try simp only [Act.put, List.setIfInBounds_toArray, List.set_cons_zero, List.set_cons_succ]
      refine wpAnyH_take (i := 2) (oi := ⟨some 40, _, _, _, _, _⟩) (v := ?_) rfl (by kernel_rfl) (by kernel_rfl) (by kernel_rfl) (fun _ _ _ h => h) (Or.inl ⟨by rfl, ?_⟩) hHeld ?_
      rotate_left
      · intro w hSw
        (try dsimp only at hSw)
        first | (go_simp; done) | (go_simp; with_reducible rfl) | with_reducible rfl
      try simp only [Act.put, List.setIfInBounds_toArray, List.set_cons_zero, List.set_cons_succ]
      refine wpAnyH_ready (rs := [3]) (by kernel_rfl) (by simp) ?_
      refine AllReadyH.cons (o := ⟨some 41, _, _, _, _, _⟩) rfl (fun K hK => ?_) AllReadyH.nil
      go_simp
      (go_at_call 36; refine (HC2.out _).mono ?_; rintro e w' ⟨rfl, rfl⟩)
      refine hK.out _ _ ?_ (fun hHeld => ?_)
      · exact ⟨c6, x0, x1⟩
      clear hK K
      try simp only [Act.put, List.setIfInBounds_toArray, List.set_cons_zero, List.set_cons_succ]
      refine wpAnyH_take (i := 4) (oi := ⟨some 42, _, _, _, _, _⟩) (v := ?_) rfl (by kernel_rfl) (by kernel_rfl) (by kernel_rfl) (fun _ _ _ h => h) (Or.inl ⟨by rfl, ?_⟩) hHeld ?_
      rotate_left
      · intro w hSw
        (try dsimp only at hSw)
        first | (go_simp; done) | (go_simp; with_reducible rfl) | with_reducible rfl
      try simp only [Act.put, List.setIfInBounds_toArray, List.set_cons_zero, List.set_cons_succ]
      refine wpAnyH_ready (rs := [5]) (by kernel_rfl) (by simp) ?_
      refine AllReadyH.cons (o := ⟨none, _, _, _, _, _⟩) rfl (fun K hK => ?_) AllReadyH.nil
      go_simp
      refine hK.out _ _ ?_ (fun hHeld => ?_)
      · exact ⟨s6, s0, s1⟩
      clear hK K
      try simp only [Act.put, List.setIfInBounds_toArray, List.set_cons_zero, List.set_cons_succ]
      refine wpAnyH_done (by kernel_rfl) ?_ _
      refine only_end ?_
      gi_wp2
      refine ⟨hk1.trans (((KeepsOthers.setCell _ _ _).trans (KeepsOthers.drew _)).from _), hq1.trans ⟨by simp, fun b hb => Below.heap_setCell W1 _ _ b (by simp; omega)⟩, ?_, ?_⟩
      · rw [HS.out, HL.out, HV.out]
        exact J2
      · have := hq1.size
        simp
        omega
  case done =>
    rintro D ys W hD rfl ⟨hI, hsW⟩ hK'
    have c6 := hI.b6.cell 0
    simp only [List.getElem?_toArray, List.getElem?_cons_zero] at c6
    go_wp2_with fail
    refine ⟨by simp, .inl ⟨_, _, rfl, run_takeDeferred hK', ?_⟩⟩
    have hgp := grownBy_putObj' W D (.deferred none)
    have hgr : ∀ r, some D = some r → w.heap.size ≤ r ∧ ∃ o : Obj, W.heap[r]? = some o ∧ o.isCells = false := fun r e => by cases e; exact ⟨by omega, _, hK', rfl⟩
    have hI2 := hI.own (Nat.le_refl _) hgp hgr
    refine ⟨_, results_tmp rfl _ _ _, w.heap.size + 1 + 1, rfl, by omega, ?_, hI2.low⟩
    rw [HB.out, ← marksF_down n gs m0 gs.length (Nat.le_refl _)]
    exact hI2.bm
  case stop =>
    rintro D c' pre W _ _ h _
    exact h.elim
end Go.Proofs.Ytjjdgiondpnpcaa
