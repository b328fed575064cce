/- Formulas that are the same: what stands at an address; last. -/
import Derived.Test.YtlddnejjpekgeaaDoorQbd
import Derived.Test.YtlddnejjpekgeaaDoorQax
import Derived.Test.YtlddnejjpekgeaaDoorQaz
set_option linter.unusedSimpArgs false
set_option linter.unusedVariables false
namespace Go.Proofs.YtlddnejjpekgeaaDoor
open Go.RowKit Pm

/-- At an address of memory stands a formula. -/
def AtP (V : World) (K : Nat → Prop) (p : Addr) (f : Fm.F) : Prop := ∃ (b off : Nat) (A : Option Addr) (c : Nat), p = ⟨b, off, none⟩ ∧ K b ∧ V.cell? ⟨b, off, none⟩ = some (.int .i64 f.k) ∧ V.cell? ⟨b, off + 1, none⟩ = some (.string ⟨f.nm.toArray⟩) ∧ V.cell? ⟨b, off + 2, none⟩ = some (.int .i64 f.lit) ∧ V.cell? ⟨b, off + 3, none⟩ = some (.slice A f.ks.length c) ∧ FL V K f.ks A 0
theorem FV.fl {V : World} {K : Nat → Prop} {f : Fm.F} {A : Option Addr} {n c : Nat} {k l : Int} {s : ByteArray} (h : FV V K f (.agg #[.int .i64 k, .string s, .int .i64 l, .slice A n c])) : k = f.k ∧ s = ⟨f.nm.toArray⟩ ∧ l = f.lit ∧ n = f.ks.length ∧ FL V K f.ks A 0 := by
  cases f with
  | mk k' nm lit ks =>
    rw [FV] at h
    obtain ⟨A', c', e, hl⟩ := h
    simp only [Value.agg.injEq, Array.mk.injEq, List.cons.injEq, and_true, Value.int.injEq, true_and, Value.string.injEq, Value.slice.injEq] at e
    obtain ⟨rfl, rfl, rfl, rfl, rfl, rfl⟩ := e
    exact ⟨rfl, rfl, rfl, rfl, hl⟩
theorem at_kid {V : World} {K : Nat → Prop} {ks : List Fm.F} {A : Option Addr} (h : FL V K ks A 0) (j : Nat) (hj : j < ks.length) : ∃ b off, A = some ⟨b, off, none⟩ ∧ AtP V K ⟨b, off + j * 4, none⟩ ks[j] := by
  obtain ⟨b, off, A', c', hA, hK, g0, g1, g2, g3, hf⟩ := FL.at ks A 0 h j hj
  rw [Nat.zero_add] at g0 g1 g2 g3
  exact ⟨b, off, hA, b, off + j * 4, A', c', rfl, hK, g0, g1, g2, g3, hf.fl.2.2.2.2⟩
theorem at_det {V : World} {K : Nat → Prop} (f : Fm.F) : ∀ (p : Addr) (g : Fm.F), AtP V K p f → AtP V K p g → f = g := by
  induction f using Fm.F.ind with
  | h k nm lit ks ih =>
    intro p g hf hg
    obtain ⟨b, off, A, c, rfl, hK, f0, f1, f2, f3, hl⟩ := hf
    obtain ⟨b', off', A', c', e, _, g0, g1, g2, g3, hl'⟩ := hg
    simp only [Addr.mk.injEq, and_true] at e
    obtain ⟨rfl, rfl⟩ := e
    rw [f0] at g0
    rw [f1] at g1
    rw [f2] at g2
    rw [f3] at g3
    simp only [Option.some.injEq, Value.int.injEq, true_and, Value.string.injEq, ByteArray.mk.injEq, Value.slice.injEq] at g0 g1 g2 g3
    obtain ⟨rfl, h3, rfl⟩ := g3
    have h1 : nm = g.nm := by
      have := congrArg Array.toList g1
      simpa [Fm.F.nm] using this
    refine Fm.F.eq_of g0 h1 g2 (List.ext_getElem h3 (fun i i1 i2 => ?_))
    have i1' : i < ks.length := i1
    obtain ⟨b1, o1, e1, a1⟩ := at_kid (ks := ks) hl i i1'
    obtain ⟨b2, o2, e2, a2⟩ := at_kid hl' i i2
    rw [e1] at e2
    simp only [Option.some.injEq, Addr.mk.injEq, and_true] at e2
    obtain ⟨rfl, rfl⟩ := e2
    exact ih _ (List.getElem_mem i1') _ _ a1 a2
/-- What stands at two addresses is linked by what was taken. -/
def Lk (V : World) (K : Nat → Prop) (P : List (Fm.F × Fm.F)) (p q : Addr) : Prop := ∃ f g, AtP V K p f ∧ AtP V K q g ∧ Fm.Eqv (Fm.relL P) f g
theorem Lk.refl {V : World} {K : Nat → Prop} {P : List (Fm.F × Fm.F)} {p : Addr} {f : Fm.F} (h : AtP V K p f) : Lk V K P p p := ⟨f, f, h, h, .refl f⟩
theorem Lk.trans {V : World} {K : Nat → Prop} {P : List (Fm.F × Fm.F)} {p q r : Addr} (h : Lk V K P p q) (k : Lk V K P q r) : Lk V K P p r := by
  obtain ⟨f, g, a1, a2, e1⟩ := h
  obtain ⟨g', j, a3, a4, e2⟩ := k
  have := at_det _ _ _ a2 a3
  subst this
  exact ⟨f, j, a1, a4, .trans e1 e2⟩
theorem Lk.more {V : World} {K : Nat → Prop} {P : List (Fm.F × Fm.F)} {p q : Addr} (h : Lk V K P p q) (x : Fm.F × Fm.F) : Lk V K (x :: P) p q := by
  obtain ⟨f, g, a1, a2, e1⟩ := h
  exact ⟨f, g, a1, a2, e1.mono (fun a b hab => .base (List.mem_cons_of_mem _ hab))⟩
theorem Lk.left {V : World} {K : Nat → Prop} {P : List (Fm.F × Fm.F)} {p q : Addr} (h : Lk V K P p q) : ∃ f, AtP V K p f := by
  obtain ⟨f, _, h, _⟩ := h
  exact ⟨f, h⟩
theorem Lk.right {V : World} {K : Nat → Prop} {P : List (Fm.F × Fm.F)} {p q : Addr} (h : Lk V K P p q) : ∃ f, AtP V K q f := by
  obtain ⟨_, f, _, h, _⟩ := h
  exact ⟨f, h⟩
/-- The map's entries lead forward, and to what is linked. -/
structure MI (V : World) (K : Nat → Prop) (P : List (Fm.F × Fm.F)) (es : PL) : Prop where
  fwd : Fwd es
  lk : ∀ e ∈ es, Lk V K P e.1 e.2
/-- The formulas' blocks lie below a bound and are cells. -/
structure KB (V : World) (K : Nat → Prop) (B : Nat) : Prop where
  lt : ∀ b, K b → b < B
  reg : ∀ b, K b → Reg V b
  le : B ≤ V.heap.size
theorem AtP.reg {V W : World} {K : Nat → Prop} {B : Nat} {p : Addr} {f : Fm.F} (h : AtP V K p f) (hk : KB V K B) (hb : Below B V W) : Reg W p.block := by
  obtain ⟨b, off, A, c, rfl, hK, _⟩ := h
  exact (hk.reg b hK).below hb (hk.lt b hK)
theorem MI.reg {V W : World} {K : Nat → Prop} {B : Nat} {P : List (Fm.F × Fm.F)} {es : PL} (h : MI V K P es) (hk : KB V K B) (hb : Below B V W) : ∀ e ∈ es, Reg W e.1.block := fun e he => by
  obtain ⟨f, hf⟩ := (h.lk e he).left
  exact hf.reg hk hb
theorem RKeep.grownM {m : Nat} {a b c : World} (h : RKeep m a b) (k : b.grownBy c (some m)) : RKeep m a c :=
  ⟨k.os.trans h.os, k.tape.trans h.tape, k.output.trans h.output, Nat.le_trans h.size k.size, fun i hi hn => (k.block i (Nat.lt_of_lt_of_le hi h.size) (fun e => hn (by injection e))).trans (h.blk i hi hn)⟩
def LastP (V : World) (K : Nat → Prop) (P : List (Fm.F × Fm.F)) (wr : World) (m : Nat) (es : PL) (p : Addr) (e : Ending) (w' : World) : Prop :=
  ∃ q es', e = .returned (.pointer (some q)) ∧ PM w' m es' ∧ MI V K P es' ∧ es'.map (·.1) = es.map (·.1) ∧ q ∉ es'.map (·.1) ∧ Lk V K P p q ∧ RKeep m wr w'
def left (es : PL) (v : Value) : Nat := match v with | .pointer (some p) => es.length - idx es p | _ => 0
set_option maxRecDepth 10000 in
set_option maxHeartbeats 4000000 in
theorem last_any {V : World} {K : Nat → Prop} {B : Nat} (hk : KB V K B) (P : List (Fm.F × Fm.F)) (es : PL) (p : Addr) (f : Fm.F) (wr : World) (m : Nat) (hb : Below B V wr) (hBm : B ≤ m) (hm : PM wr m es) (hi : MI V K P es) (hp : AtP V K p f) :
    Calls Tryd.prog 45 #[.agg #[.map (some m)], .pointer (some p)] wr (LastP V K P wr m es p) := by
  have lo := lowAlloc wr (Obj.cells #[.map (some m)] 57)
  have hbx := Blk.new wr 57 #[.map (some m)]
  have hml := hm.lt
  have hm1 := hm.below lo
  have hb1 := hb.trans (lo.mono (Nat.le_trans hk.le hb.size))
  have hk0 := (RKeep.refl m wr).below lo
  have hlk := pm_look hm1 p (hp.reg hk hb1) (hi.reg hk hb1)
  clear hb lo hm
  go_enter Tryd.func45, Tryd.ntmps45
  go_upto_region 1 with fail
  generalize wr.alloc (Obj.cells #[.map (some m)] 57) = W at *
  have c0 := hbx.cell 0
  simp only [List.getElem?_toArray, List.getElem?_cons_zero, List.getElem?_cons_succ] at c0
  go_wp2
  clear c0 hlk
  have HI := Lib.hid hi
  have HM := Lib.hid hm1
  have HBX := Lib.hid hbx
  have HK0 := Lib.hid hk0
  have HB := Lib.hid hb1
  have HP := Lib.hid (Lk.refl (P := P) hp)
  clear hi hm1 hbx hk0 hb1 hp
  go_loopw [1, 5] (fun a n w => ∃ (q : Addr) (fs : PL), a = .pointer (some q) ∧ n = .pointer (assoc fs q) ∧ PM w m fs ∧ MI V K P fs ∧ fs.map (·.1) = es.map (·.1) ∧ Lk V K P p q ∧ RKeep m wr w ∧ Blk w wr.heap.size 57 #[.map (some m)] ∧ Below B V w) (fun a _ _ => left es a)
  case atStart => exact ⟨p, es, rfl, rfl, HM.out, HI.out, rfl, HP.out, HK0.out, HBX.out, HB.out⟩
  case round =>
    rename_i wl
    obtain ⟨q, fs, rfl, rfl, hM, hI, hks, hL, hK, hX, hV⟩ := hrel
    have c0 := hX.cell 0
    simp only [List.getElem?_toArray, List.getElem?_cons_zero, List.getElem?_cons_succ] at c0
    cases hf : fnd fs q 0 with
    | none =>
      have ha : assoc fs q = none := by unfold assoc; rw [hf]; rfl
      obtain ⟨_, hq⟩ := fnd_none fs q 0 hf
      rw [ha]
      go_wp2
      go_ret
      exact ⟨q, fs, rfl, hM, hI, hks, hq, hL, hK⟩
    | some x =>
      obtain ⟨i, n⟩ := x
      obtain ⟨i', h1, h2, h3⟩ := fnd_some fs q 0 i n hf
      rw [Nat.zero_add] at h1
      subst h1
      have ha : assoc fs q = some n := by unfold assoc; rw [hf]; rfl
      have hmem := List.mem_of_getElem? h3
      have hLn := hI.lk _ hmem
      have hlt := hI.fwd _ hmem
      simp only at hLn hlt
      obtain ⟨fn, hn⟩ := hLn.right
      obtain ⟨fq, hq⟩ := hL.right
      have hreg := hI.reg hk hV
      have hlk := pm_look hM n (hn.reg hk hV) hreg
      rw [ha]
      cases hg : assoc fs n with
      | none =>
        rw [hg] at hlk
        have HG := Lib.hid hg
        have HLT := Lib.hid hlt
        have HLE := Lib.hid (idx_le fs n)
        have HKS := Lib.hid hks
        have HLL := Lib.hid (hL.trans hLn)
        clear hg hlt hks h2 h3 hf ha hmem
        go_wp2
        go_roundw
        case rel => exact ⟨n, fs, rfl, by rw [HG.out], hM, hI, HKS.out, HLL.out, hK, hX, hV⟩
        case measure =>
          have e1 := idx_keys _ _ q HKS.out
          have e2 := idx_keys _ _ n HKS.out
          have e3 : fs.length = es.length := by simpa using congrArg List.length HKS.out
          have := HLT.out
          have := HLE.out
          simp only [left]
          omega
      | some r =>
        rw [hg] at hlk
        obtain ⟨j, hj⟩ : ∃ j, fnd fs n 0 = some (j, r) := by
          unfold assoc at hg
          cases hfn : fnd fs n 0 with
          | none => rw [hfn] at hg; cases hg
          | some y =>
            obtain ⟨j, r'⟩ := y
            rw [hfn] at hg
            simp only [Option.map_some, Option.some.injEq] at hg
            exact ⟨j, by rw [hg]⟩
        obtain ⟨j', k1, k2, k3⟩ := fnd_some fs n 0 j r hj
        have hmr := List.mem_of_getElem? k3
        have hLr := hI.lk _ hmr
        have hltr := hI.fwd _ hmr
        simp only at hLr hltr
        obtain ⟨wn, hup, hM2, hgr⟩ := pm_store hM q r (hq.reg hk hV) hreg
        rw [hf] at hM2
        simp only at hM2
        have hI2 : MI V K P (Pm.upd fs i q r) := ⟨fwd_upd hI.fwd h3 (by omega), fun e he => by
          rcases upd_mem he with rfl | he
          · exact hLn.trans hLr
          · exact hI.lk e he⟩
        have hks2 : (Pm.upd fs i q r).map (·.1) = es.map (·.1) := (upd_keys h3).trans hks
        have hK2 := hK.grownM hgr
        have hX2 := hX.grown hgr (fun e => by injection e with e; have := hml; omega)
        have hV2 : Below B V wn := belowq_grown hV hgr hBm (Nat.le_trans hk.le hV.size)
        have hlk2 := pm_look hM2 n (hn.reg hk hV2) (hI2.reg hk hV2)
        have d0 := hX2.cell 0
        simp only [List.getElem?_toArray, List.getElem?_cons_zero, List.getElem?_cons_succ] at d0
        have HLT := Lib.hid hlt
        have HLE := Lib.hid (idx_le fs n)
        have HKS := Lib.hid hks
        have HKS2 := Lib.hid hks2
        have HLL := Lib.hid (hL.trans hLn)
        clear hg hlt hltr hks hks2 h2 h3 hf ha hmem hj k1 k2 k3 hmr hM hI hK hX hV hgr
        generalize Pm.upd fs i q r = gs at *
        go_wp2
        go_roundw
        case rel => exact ⟨n, gs, rfl, rfl, hM2, hI2, HKS2.out, HLL.out, hK2, hX2, hV2⟩
        case measure =>
          have e1 := idx_keys _ _ q HKS.out
          have e2 := idx_keys _ _ n HKS.out
          have e3 : fs.length = es.length := by simpa using congrArg List.length HKS.out
          have := HLT.out
          have := HLE.out
          simp only [left]
          omega
end Go.Proofs.YtlddnejjpekgeaaDoor
/- Formulas that are the same: join, alike. -/
namespace Go.Proofs.YtlddnejjpekgeaaDoor
open Go.RowKit Pm

theorem PM.drew {w : World} {m : Nat} {es : PL} (h : PM w m es) : PM w.drew m es := h
def JoinP (V : World) (K : Nat → Prop) (P : List (Fm.F × Fm.F)) (wr : World) (m : Nat) (f g : Fm.F) (e : Ending) (w' : World) : Prop :=
  ((e = .returned (.bool false) ∧ Fm.Eqv (Fm.relL P) f g ∧ ∃ es', PM w' m es' ∧ MI V K P es') ∨ (e = .returned (.bool true) ∧ ∃ es', PM w' m es' ∧ MI V K ((f, g) :: P) es')) ∧ RKeep m wr w'
theorem Lk.eqv {V : World} {K : Nat → Prop} {P : List (Fm.F × Fm.F)} {p q r : Addr} {f g : Fm.F} (h : Lk V K P p r) (k : Lk V K P q r) (hp : AtP V K p f) (hq : AtP V K q g) : Fm.Eqv (Fm.relL P) f g := by
  obtain ⟨f', x, a1, a2, e1⟩ := h
  obtain ⟨g', y, a3, a4, e2⟩ := k
  have h1 := at_det _ _ _ a1 hp
  have h2 := at_det _ _ _ a3 hq
  have h3 := at_det _ _ _ a2 a4
  subst h1 h2 h3
  exact .trans e1 (.symm e2)
theorem Lk.join {V : World} {K : Nat → Prop} {P : List (Fm.F × Fm.F)} {p q r s : Addr} {f g : Fm.F} (h : Lk V K P p r) (k : Lk V K P q s) (hp : AtP V K p f) (hq : AtP V K q g) : Lk V K ((f, g) :: P) r s := by
  obtain ⟨f', x, a1, a2, e1⟩ := h
  obtain ⟨g', y, a3, a4, e2⟩ := k
  have h1 := at_det _ _ _ a1 hp
  have h2 := at_det _ _ _ a3 hq
  subst h1 h2
  have m : ∀ a b, Fm.relL P a b → Fm.Eqv (Fm.relL ((f', g') :: P)) a b := fun a b hab => .base (List.mem_cons_of_mem _ hab)
  exact ⟨x, y, a2, a4, .trans (.symm (e1.mono m)) (.trans (.base (List.mem_cons_self ..)) (e2.mono m))⟩
theorem ptr_eql (w : World) (a b : Addr) (ha : Reg w a.block) (hb : Reg w b.block) : (binOp .eql 31 (.pointer (some a)) (.pointer (some b))).run Tryd.prog w = .ok (.bool (decide (a = b))) w := by
  simp only [binOp]
  simp [ptr_eq w a b ha hb]
set_option maxRecDepth 10000 in
set_option maxHeartbeats 4000000 in
theorem join_any {V : World} {K : Nat → Prop} {B : Nat} (hk : KB V K B) (P : List (Fm.F × Fm.F)) (es : PL) (p q : Addr) (f g : Fm.F) (wr : World) (m : Nat) (hb : Below B V wr) (hBm : B ≤ m) (hm : PM wr m es) (hi : MI V K P es) (hp : AtP V K p f) (hq : AtP V K q g) :
    Calls Tryd.prog 33 #[.agg #[.map (some m)], .pointer (some p), .pointer (some q)] wr (JoinP V K P wr m f g) := by
  have lo := lowAlloc wr (Obj.cells #[.map (some m)] 57)
  have hbx := Blk.new wr 57 #[.map (some m)]
  have hml := hm.lt
  have hm1 := hm.below lo
  have hb1 := hb.trans (lo.mono (Nat.le_trans hk.le hb.size))
  have hk0 := (RKeep.refl m wr).below lo
  clear hb lo hm
  go_enter Tryd.func33, Tryd.ntmps33
  go_upto_region 1 with fail
  generalize wr.alloc (Obj.cells #[.map (some m)] 57) = W at *
  have HS : Hid (∀ U fs r h, AtP V K r h → RKeep m W U → PM U m fs → MI V K P fs → Calls Tryd.prog 45 #[.agg #[.map (some m)], .pointer (some r)] U (LastP V K P U m fs r)) := fun U fs r h hr hU hM hI => last_any hk P fs r h U m (hb1.trans (hU.low (Nat.le_trans hk.le hb1.size) hBm)) hBm hM hI hr
  have HK : Hid (∀ U, RKeep m W U → U.cell? ⟨wr.heap.size, 0, none⟩ = some (.map (some m))) := fun U hU => by simpa using (hU.blkOf hbx (by omega)).cell 0
  have lx := RKeep.refl m W
  go_region_held3 (fun U => U.cell? ⟨wr.heap.size, 0, none⟩ = some (.map (some m)))
    (first | exact HK.out _ lx | exact HK.out _ lx.drew)
    (first | (go_at_call 45; (with_reducible refine (HS.out _ _ q g hq lx hM1 hI1).mono ?_); rintro e w2 ⟨q2, es2, rfl, hM2, hI2, hk2, hn2, hL2, hr2⟩; replace lx := lx.trans hr2)
           | (go_at_call 45; (with_reducible refine (HS.out _ _ q g hq lx.drew hM1.drew hI1).mono ?_); rintro e w2 ⟨q2, es2, rfl, hM2, hI2, hk2, hn2, hL2, hr2⟩; replace lx := lx.drew.trans hr2)
           | (go_at_call 45; (with_reducible refine (HS.out _ _ p f hp lx.drew hm1.drew hi).mono ?_); rintro e w1 ⟨q1, es1, rfl, hM1, hI1, hk1, hn1, hL1, hr1⟩; replace lx := lx.drew.trans hr1))
  have hV2 : Below B V w2 := hb1.trans (lx.low (Nat.le_trans hk.le hb1.size) hBm)
  obtain ⟨f1, hf1⟩ := hL1.right
  obtain ⟨f2, hf2⟩ := hL2.right
  have hE := ptr_eql w2 q1 q2 (hf1.reg hk hV2) (hf2.reg hk hV2)
  have hkt := hk0.trans lx
  by_cases h : q1 = q2
  · subst h
    rw [decide_eq_true rfl] at hE
    have HQ := Lib.hid (hL1.eqv hL2 hp hq)
    go_wp2
    go_ret
    exact ⟨Or.inl ⟨rfl, HQ.out, es2, hM2, hI2⟩, hkt⟩
  · rw [decide_eq_false h] at hE
    obtain ⟨wn, hup, hM3, hgr⟩ := pm_store hM2 q1 q2 (hf1.reg hk hV2) (hI2.reg hk hV2)
    have hno : q1 ∉ es2.map (·.1) := by rw [hk2]; exact hn1
    have hfn : fnd es2 q1 0 = none := by
      cases hx : fnd es2 q1 0 with
      | none => rfl
      | some y =>
        obtain ⟨j, v⟩ := y
        obtain ⟨_, _, _, h3⟩ := fnd_some es2 q1 0 j v hx
        exact absurd (List.mem_map_of_mem (f := (·.1)) (List.mem_of_getElem? h3)) hno
    rw [hfn] at hM3
    simp only at hM3
    have hI3 : MI V K ((f, g) :: P) (es2 ++ [(q1, q2)]) := ⟨fwd_app hI2.fwd hno hn2 h, fun e he => by
      rcases List.mem_append.1 he with he | he
      · exact (hI2.lk e he).more _
      · simp only [List.mem_singleton] at he
        subst he
        exact hL1.join hL2 hp hq⟩
    have c0 := (lx.blkOf hbx (by omega)).cell 0
    simp only [List.getElem?_toArray, List.getElem?_cons_zero, List.getElem?_cons_succ] at c0
    have hk3 := hkt.grownM hgr
    have HI3 := Lib.hid hI3
    clear hfn hno hI3 h hgr hI2 hI1 hi hk1 hk2 hn1 hn2 hL1 hL2
    go_wp2
    go_ret
    exact ⟨Or.inr ⟨rfl, _, hM3, HI3.out⟩, hk3⟩
set_option maxRecDepth 10000 in
set_option maxHeartbeats 4000000 in
theorem alike_any {V : World} {K : Nat → Prop} (p q : Addr) (f g : Fm.F) (wr : World) {B : Nat} (hk : KB V K B) (hb : Below B V wr) (hp : AtP V K p f) (hq : AtP V K q g) :
    Calls Tryd.prog 32 #[.pointer (some p), .pointer (some q)] wr fun e w' => e = .returned (.bool (Fm.alikeB f g)) ∧ ∃ n, w' = wr.drewN n := by
  obtain ⟨b, off, A, c, rfl, hK, f0, f1, f2, f3, _⟩ := hp
  obtain ⟨b', off', A', c', rfl, hK', g0, g1, g2, g3, _⟩ := hq
  have hl := hk.lt b hK
  have hl' := hk.lt b' hK'
  have x0 := (hb.cell (p := ⟨b, off, none⟩) hl).trans f0
  have x1 := (hb.cell (p := ⟨b, off + 1, none⟩) hl).trans f1
  have x2 := (hb.cell (p := ⟨b, off + 2, none⟩) hl).trans f2
  have x3 := (hb.cell (p := ⟨b, off + 3, none⟩) hl).trans f3
  have y0 := (hb.cell (p := ⟨b', off', none⟩) hl').trans g0
  have y1 := (hb.cell (p := ⟨b', off' + 1, none⟩) hl').trans g1
  have y2 := (hb.cell (p := ⟨b', off' + 2, none⟩) hl').trans g2
  have y3 := (hb.cell (p := ⟨b', off' + 3, none⟩) hl').trans g3
  clear f0 f1 f2 f3 g0 g1 g2 g3 hl hl' hK hK' hk hb
  obtain ⟨k, nm, lit, ks⟩ := f
  obtain ⟨k', nm', lit', ks'⟩ := g
  simp only [Fm.F.k, Fm.F.nm, Fm.F.lit, Fm.F.ks] at x0 x1 x2 x3 y0 y1 y2 y3
  have hA : Fm.alikeB (.mk k nm lit ks) (.mk k' nm' lit' ks') = (decide (k = k') && (decide (nm = nm') && (decide (lit = lit') && decide (ks.length = ks'.length)))) := rfl
  by_cases h1 : k = k'
  rotate_left
  · have HV : Hid (Fm.alikeB (.mk k nm lit ks) (.mk k' nm' lit' ks') = false) := by unfold Hid; rw [hA, decide_eq_false h1]; rfl
    have q1 : (k == k') = false := by simp [h1]
    clear hA h1
    go_enter Tryd.func32, Tryd.ntmps32
    go_wp2
    go_quiet (fail)
    go_wp2
    go_ret
    exact ⟨by rw [HV.out]; rfl, nq, rfl⟩
  subst h1
  have q1 : (k == k) = true := by simp
  by_cases h2 : nm = nm'
  rotate_left
  · have HV : Hid (Fm.alikeB (.mk k nm lit ks) (.mk k nm' lit' ks') = false) := by unfold Hid; rw [hA, decide_eq_false h2, Bool.false_and, Bool.and_false]
    have q2 : (nm == nm') = false := by simp [h2]
    clear hA h2
    go_enter Tryd.func32, Tryd.ntmps32
    go_wp2
    go_quiet (fail)
    go_wp2
    go_ret
    exact ⟨by rw [HV.out]; rfl, nq, rfl⟩
  subst h2
  have q2 : (nm == nm) = true := by simp
  by_cases h3 : lit = lit'
  rotate_left
  · have HV : Hid (Fm.alikeB (.mk k nm lit ks) (.mk k nm lit' ks') = false) := by unfold Hid; rw [hA, decide_eq_false h3, Bool.false_and, Bool.and_false, Bool.and_false]
    have q3 : (lit == lit') = false := by simp [h3]
    clear hA h3
    go_enter Tryd.func32, Tryd.ntmps32
    go_wp2
    go_quiet (fail)
    go_wp2
    go_ret
    exact ⟨by rw [HV.out]; rfl, nq, rfl⟩
  subst h3
  have q3 : (lit == lit) = true := by simp
  have HV : Hid (Fm.alikeB (.mk k nm lit ks) (.mk k nm lit ks') = ((ks.length : Int) == (ks'.length : Int))) := by
    unfold Hid
    rw [hA, decide_eq_true rfl, decide_eq_true rfl, decide_eq_true rfl, Bool.true_and, Bool.true_and, Bool.true_and, Bool.eq_iff_iff]
    simp
    omega
  clear hA
  go_enter Tryd.func32, Tryd.ntmps32
  go_wp2
  go_quiet (fail)
  go_wp2
  go_ret
  exact ⟨by rw [HV.out]; rfl, nq, rfl⟩
end Go.Proofs.YtlddnejjpekgeaaDoor
/- Formulas that are the same: the open pairs in memory. -/
namespace Go.Proofs.YtlddnejjpekgeaaDoor
open Go.RowKit Pm

/-- The cells of open pairs. -/
def flatP : PL → List Value
  | [] => []
  | p :: r => .pointer (some p.1) :: .pointer (some p.2) :: flatP r
theorem flatP_len (ps : PL) : (flatP ps).length = ps.length * 2 := by
  induction ps with
  | nil => rfl
  | cons p r ih => simp only [flatP, List.length_cons, ih]; omega
theorem flatP_app (ps qs : PL) : flatP (ps ++ qs) = flatP ps ++ flatP qs := by
  induction ps with
  | nil => rfl
  | cons p r ih => simp [flatP, ih]
/-- At the pairs' addresses stand the pairs' formulas. -/
def APs (V : World) (K : Nat → Prop) : PL → List (Fm.F × Fm.F) → Prop
  | [], [] => True
  | p :: ps, o :: os => AtP V K p.1 o.1 ∧ AtP V K p.2 o.2 ∧ APs V K ps os
  | _, _ => False
section
variable {V : World} {K : Nat → Prop}
theorem APs.len : ∀ (ps : PL) (O : List (Fm.F × Fm.F)), APs V K ps O → ps.length = O.length
  | [], [], _ => rfl
  | [], _ :: _, h => h.elim
  | _ :: _, [], h => h.elim
  | _ :: ps, _ :: O, h => by rw [List.length_cons, List.length_cons, APs.len ps O h.2.2]
theorem APs.app : ∀ (ps : PL) (O : List (Fm.F × Fm.F)) (qs : PL) (Q : List (Fm.F × Fm.F)), APs V K ps O → APs V K qs Q → APs V K (ps ++ qs) (O ++ Q)
  | [], [], _, _, _, k => k
  | [], _ :: _, _, _, h, _ => h.elim
  | _ :: _, [], _, _, h, _ => h.elim
  | _ :: ps, _ :: O, qs, Q, h, k => ⟨h.1, h.2.1, APs.app ps O qs Q h.2.2 k⟩
theorem APs.last : ∀ (ps : PL) (O : List (Fm.F × Fm.F)) (x : Addr × Addr), APs V K (ps ++ [x]) O → ∃ Q s t, O = Q ++ [(s, t)] ∧ APs V K ps Q ∧ AtP V K x.1 s ∧ AtP V K x.2 t
  | [], [], _, h => h.elim
  | [], [o], x, h => ⟨[], o.1, o.2, rfl, trivial, h.1, h.2.1⟩
  | [], _ :: _ :: _, _, h => h.2.2.elim
  | _ :: _, [], _, h => h.elim
  | p :: ps, o :: O, x, h => by
    obtain ⟨Q, s, t, e, h1, h2, h3⟩ := APs.last ps O x h.2.2
    exact ⟨o :: Q, s, t, by rw [e]; rfl, ⟨h.1, h.2.1, h1⟩, h2, h3⟩
/-- The addresses of the first subformulas of two formulas. -/
def kidP (b off b' off' : Nat) (i : Nat) : PL := (List.range i).map fun j => (⟨b, off + j * 4, none⟩, ⟨b', off' + j * 4, none⟩)
theorem kidP_succ (b off b' off' i : Nat) : kidP b off b' off' (i + 1) = kidP b off b' off' i ++ [(⟨b, off + i * 4, none⟩, ⟨b', off' + i * 4, none⟩)] := by
  unfold kidP
  rw [List.range_succ, List.map_append]
  rfl
theorem kidP_len (b off b' off' i : Nat) : (kidP b off b' off' i).length = i := by simp [kidP]
theorem kids_aps {ks ms : List Fm.F} {b off b' off' : Nat} (h : FL V K ks (some ⟨b, off, none⟩) 0) (k : FL V K ms (some ⟨b', off', none⟩) 0) (hl : ks.length = ms.length) : ∀ i, i ≤ ks.length → APs V K (kidP b off b' off' i) (List.zip (ks.take i) (ms.take i))
  | 0, _ => by simp [kidP]; exact trivial
  | i + 1, hi => by
    have ih := kids_aps h k hl i (by omega)
    have h1 : i < ks.length := by omega
    have h2 : i < ms.length := by omega
    obtain ⟨b1, o1, e1, a1⟩ := at_kid h i h1
    obtain ⟨b2, o2, e2, a2⟩ := at_kid k i h2
    simp only [Option.some.injEq, Addr.mk.injEq, and_true] at e1 e2
    obtain ⟨rfl, rfl⟩ := e1
    obtain ⟨rfl, rfl⟩ := e2
    have e : List.zip (ks.take (i + 1)) (ms.take (i + 1)) = List.zip (ks.take i) (ms.take i) ++ [(ks[i], ms[i])] := by
      rw [List.take_add_one, List.take_add_one, List.getElem?_eq_getElem h1, List.getElem?_eq_getElem h2]
      simp only [Option.toList_some]
      rw [List.zip_append (by rw [List.length_take, List.length_take]; omega)]
      rfl
    rw [kidP_succ, e]
    exact APs.app _ _ _ _ ih ⟨a1, a2, trivial⟩
end
theorem meas_len (O : List (Fm.F × Fm.F)) : O.length ≤ Fm.meas O := by
  induction O with
  | nil => exact Nat.zero_le _
  | cons o r ih =>
    have := Fm.cnt_pos o.1
    simp only [Fm.meas, List.map_cons, List.sum_cons, List.length_cons] at ih ⊢
    omega
theorem row_pop {w : World} {base c n : Nat} {A : Option Addr} {ps : PL} {x : Addr × Addr} (h : w.ownsRow base 59 2 (.slice A (n + 1) c) (n + 1) (flatP (ps ++ [x]))) (hn : ps.length = n) :
    ∃ g, A = some ⟨g, 0, none⟩ ∧ n + 1 ≤ c ∧ w.cell? ⟨g, n * 2, none⟩ = some (.pointer (some x.1)) ∧ w.cell? ⟨g, n * 2 + 1, none⟩ = some (.pointer (some x.2)) ∧ w.ownsRow base 59 2 (.slice A n c) n (flatP ps) := by
  obtain ⟨h1, h2⟩ := h
  rcases h2 with ⟨hv, _⟩ | ⟨g, cap, cur, hv, hb, hh, hnc, hcm, hs, ht⟩
  · cases hv
  · simp only [Value.slice.injEq, true_and] at hv
    obtain ⟨rfl, rfl⟩ := hv
    have hf : flatP (ps ++ [x]) = flatP ps ++ [.pointer (some x.1), .pointer (some x.2)] := by rw [flatP_app]; rfl
    have hfl := flatP_len ps
    rw [hf] at ht
    have get : ∀ j u, (flatP ps ++ [Value.pointer (some x.1), Value.pointer (some x.2)])[j]? = some u → j < (n + 1) * 2 → w.cell? ⟨g, j, none⟩ = some u := fun j u hj hlt => by
      rw [Blk.cell (t := 59) hh, ← Array.getElem?_toList]
      rw [← ht, List.getElem?_take_of_lt hlt] at hj
      exact hj
    refine ⟨g, rfl, hnc, get _ _ ?_ (by omega), get _ _ ?_ (by omega), ?_, Or.inr ⟨g, c, cur, rfl, hb, hh, by omega, hcm, hs, ?_⟩⟩
    · rw [List.getElem?_append_right (by omega), show n * 2 - (flatP ps).length = 0 by omega]
      rfl
    · rw [List.getElem?_append_right (by omega), show n * 2 + 1 - (flatP ps).length = 1 by omega]
      rfl
    · rw [hfl, hn]
    · have e3 : List.take (n * 2) cur.toList = List.take (n * 2) (flatP ps ++ [Value.pointer (some x.1), Value.pointer (some x.2)]) := by rw [← ht, List.take_take, Nat.min_eq_left (by omega)]
      rw [e3, List.take_append_of_le_length (by omega), List.take_of_length_le (by omega)]
theorem app_pair (w : World) (base : Nat) (ty : TypeId) (v : Value) (n : Nat) (xs : List Value) (hown : w.ownsRow base 59 2 v n xs) (b c : Nat) (p q : Addr) (hbk : Blk w b 59 #[.pointer (some p), .pointer (some q)]) (hn : n ≤ 100000) (hbase : base ≤ w.heap.size) :
    ∃ v' w', (Builtin.append_ #[60, 60] ty #[v, .slice (some ⟨b, 0, none⟩) 1 c]).run Tryd.prog w = .ok v' w' ∧ w'.ownsRow base 59 2 v' (n + 1) (xs ++ [.pointer (some p), .pointer (some q)]) ∧ w.grownBy w' v.ownBlock ∧ (v'.ownBlock = v.ownBlock ∨ v'.ownBlock = some w.heap.size) :=
  app_own w base 60 ty 59 Tryd.t59 (.agg #[.pointer none, .pointer none]) 2 16 Tryd.underlying60 (by kernel_rfl) (by kernel_rfl) (by kernel_rfl) (by kernel_rfl) (by omega) (by kernel_rfl) (by omega) v n xs hown b c [.pointer (some p), .pointer (some q)] hbk rfl (fun u hu => by simp at hu; rcases hu with rfl | rfl <;> rfl) hn hbase
theorem PM.grown {w w' : World} {m : Nat} {es : PL} {row : Option Nat} (h : PM w m es) (hg : w.grownBy w' row) (hn : row ≠ some m) : PM w' m es := by
  obtain ⟨ms, c, h, h2⟩ := h
  exact ⟨ms, c, h.grown hg (fun e => hn e.symm), h2⟩
/-- What holds between two rounds. -/
structure SR (V wr : World) (K : Nat → Prop) (B : Nat) (f g : Fm.F) (v : Value) (ps : PL) (O P : List (Fm.F × Fm.F)) (es : PL) : Prop where
  row : wr.ownsRow (B + 2) 59 2 v ps.length (flatP ps)
  ap : APs V K ps O
  si : Fm.SameI P O f g
  pm : PM wr B es
  mi : MI V K P es
  cb : Blk wr (B + 1) 57 #[.map (some B)]
  lo : Below B V wr
  sz : B + 2 ≤ wr.heap.size
/-- As SR, but for what is open. -/
structure SQ (V wr : World) (K : Nat → Prop) (B : Nat) (v : Value) (ps : PL) (P : List (Fm.F × Fm.F)) (es : PL) : Prop where
  row : wr.ownsRow (B + 2) 59 2 v ps.length (flatP ps)
  pm : PM wr B es
  mi : MI V K P es
  cb : Blk wr (B + 1) 57 #[.map (some B)]
  lo : Below B V wr
  sz : B + 2 ≤ wr.heap.size
section
variable {V wr wn : World} {K : Nat → Prop} {B : Nat} {f g : Fm.F} {v : Value} {ps : PL} {O P : List (Fm.F × Fm.F)} {es : PL}
theorem SR.q (h : SR V wr K B f g v ps O P es) : SQ V wr K B v ps P es := ⟨h.row, h.pm, h.mi, h.cb, h.lo, h.sz⟩
theorem SQ.r (h : SQ V wr K B v ps P es) (ha : APs V K ps O) (hs : Fm.SameI P O f g) : SR V wr K B f g v ps O P es := ⟨h.row, ha, hs, h.pm, h.mi, h.cb, h.lo, h.sz⟩
theorem SQ.below (hB : B ≤ V.heap.size) (h : SQ V wr K B v ps P es) (hb : Below wr.heap.size wr wn) : SQ V wn K B v ps P es := by
  refine ⟨?_, h.pm.below hb, h.mi, h.cb.below hb h.cb.lt, h.lo.trans (hb.mono (Nat.le_trans hB h.lo.size)), Nat.le_trans h.sz hb.size⟩
  refine ⟨h.row.1, ?_⟩
  rcases h.row.2 with hn | ⟨g, cap, cur, hv, hbs, hg, rest⟩
  · exact .inl hn
  · exact .inr ⟨g, cap, cur, hv, hbs, (hb.block g (Array.getElem?_eq_some_iff.1 hg).1).trans hg, rest⟩
theorem SQ.joined {P' : List (Fm.F × Fm.F)} {es' : PL} (hB : B ≤ V.heap.size) (h : SQ V wr K B v ps P es) (hk : RKeep B wr wn) (hp : PM wn B es') (hm : MI V K P' es') : SQ V wn K B v ps P' es' :=
  ⟨row_rk h.row hk (by omega), hp, hm, hk.blkOf h.cb (by omega), h.lo.trans (hk.low (Nat.le_trans hB h.lo.size) (Nat.le_refl _)), Nat.le_trans h.sz hk.size⟩
theorem SQ.pushed {v' : Value} {x : Addr × Addr} (h : SQ V wr K B v ps P es) (hr : wn.ownsRow (B + 2) 59 2 v' (ps.length + 1) (flatP ps ++ [.pointer (some x.1), .pointer (some x.2)])) (hg : wr.grownBy wn v.ownBlock) (hB : B ≤ V.heap.size) : SQ V wn K B v' (ps ++ [x]) P es := by
  have hbase := row_base h.row
  refine ⟨?_, h.pm.grown hg (fun e => by have := hbase _ e; omega), h.mi, h.cb.grown hg (fun e => by have := hbase _ e.symm; omega), h.lo.grown hg (Nat.le_trans hB h.lo.size) (fun k e => by have := hbase _ e; omega), Nat.le_trans h.sz hg.size⟩
  rw [List.length_append, List.length_singleton, flatP_app]
  exact hr
end
end Go.Proofs.YtlddnejjpekgeaaDoor
