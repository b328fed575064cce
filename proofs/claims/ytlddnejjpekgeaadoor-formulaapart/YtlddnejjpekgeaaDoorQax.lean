/- Formulas in memory: the reference's Same. -/
import Derived.Test.YtlddnejjpekgeaaDoorQaw
import Derived.Test.YtlddnejjpekgeaaDoorQaf
import Derived.Test.YtlddnejjpekgeaaDoorTie
import Derived.Test.YtlddnejjpekgeaaDoorCards
import Derived.ProofKit
import Derived.LaidMore
import Derived.OpenShut
import Derived.ShutString
import Derived.Lib.LaidTab
import Derived.Stop.Joined
import Derived.SevenTiedAt
import Derived.ChangeMaps5
import Derived.Deep.Slices
import Derived.Lib.SmallJoins
set_option linter.unusedSimpArgs false
set_option linter.unusedVariables false
namespace Go.Proofs.YtlddnejjpekgeaaDoor
open Go.RowKit

namespace Fm
mutual
def F.eqB : F → F → Bool
  | .mk k nm lit ks, .mk k' nm' lit' ks' => decide (k = k') && (decide (nm = nm') && (decide (lit = lit') && eqL ks ks'))
def eqL : List F → List F → Bool
  | [], [] => true
  | a :: r, b :: s => a.eqB b && eqL r s
  | [], _ :: _ => false
  | _ :: _, [] => false
end
theorem eqL_iff (ks : List F) (h : ∀ f ∈ ks, ∀ g, f.eqB g = true ↔ f = g) : ∀ ms, eqL ks ms = true ↔ ks = ms := by
  induction ks with
  | nil =>
    intro ms
    cases ms <;> simp [eqL]
  | cons a r ih =>
    intro ms
    cases ms with
    | nil => simp [eqL]
    | cons b s =>
      rw [eqL, Bool.and_eq_true, h a (List.mem_cons_self ..), ih (fun f hf => h f (List.mem_cons_of_mem _ hf)), List.cons.injEq]
theorem eqB_iff (f : F) : ∀ g, f.eqB g = true ↔ f = g := by
  induction f using F.ind with
  | h k nm lit ks ih =>
    intro g
    cases g with
    | mk k' nm' lit' ks' =>
      rw [F.eqB]
      simp only [Bool.and_eq_true, decide_eq_true_eq, eqL_iff ks ih, F.mk.injEq]
theorem eqB_self (f : F) : f.eqB f = true := (eqB_iff f f).2 rfl
theorem eqL_len {ks ms : List F} (h : ks.length ≠ ms.length) : eqL ks ms = false := by
  induction ks generalizing ms with
  | nil =>
    cases ms with
    | nil => exact absurd rfl h
    | cons b s => rfl
  | cons a r ih =>
    cases ms with
    | nil => rfl
    | cons b s =>
      rw [eqL, ih (by simpa using h), Bool.and_false]
theorem eqB_or (f g : F) : f.eqB g = true ∨ f.eqB g = false := by cases f.eqB g <;> simp
end Fm
/-- What is asked of the reference's Same, so deep. -/
def RSameC (d : Nat) : Prop := ∀ (f g : Fm.F) (v u : Value) (w : World), f.dep ≤ d → f.cnt ≤ 1000000 → FV w (Lo w.heap.size) f v → FV w (Lo w.heap.size) g u →
  Calls Tryd.prog 18 #[v, u] w fun e w' => e = .returned (.bool (f.eqB g)) ∧ Below w.heap.size w w'
theorem dep_kid {ks : List Fm.F} {f : Fm.F} (h : f ∈ ks) : f.dep ≤ Fm.depL ks := by
  induction ks with
  | nil => cases h
  | cons a r ih =>
    rw [Fm.depL]
    rcases List.mem_cons.1 h with rfl | h
    · omega
    · have := ih h
      omega
theorem len_cnt (ks : List Fm.F) : ks.length ≤ Fm.cntL ks := by
  induction ks with
  | nil => exact Nat.zero_le _
  | cons a r ih =>
    rw [Fm.cntL, List.length_cons]
    have := Fm.cnt_pos a
    omega
set_option maxRecDepth 10000 in
set_option maxHeartbeats 4000000 in
theorem rsame_step (d : Nat) (ih0 : RSameC d) : RSameC (d + 1) := by
  have ih := Lib.hid ih0
  clear ih0
  intro f g v u w hd hcn hf hg
  cases f with
  | mk k nm lit ks =>
  cases g with
  | mk k' nm' lit' ks' =>
    rw [FV] at hf hg
    obtain ⟨A, c, rfl, hl⟩ := hf
    obtain ⟨A', c', rfl, hl'⟩ := hg
    have hdd : (Fm.F.mk k nm lit ks).dep = 1 + Fm.depL ks := rfl
    have hcc : (Fm.F.mk k nm lit ks).cnt = 1 + Fm.cntL ks := rfl
    have hE : (Fm.F.mk k nm lit ks).eqB (.mk k' nm' lit' ks') = (decide (k = k') && (decide (nm = nm') && (decide (lit = lit') && Fm.eqL ks ks'))) := by rw [Fm.F.eqB]
    have lo1 := lowAlloc w (Obj.cells #[.int .i64 k, .string ⟨nm.toArray⟩, .int .i64 lit, .slice A ks.length c] 24)
    have lo2 := lowAlloc (w.alloc (Obj.cells #[.int .i64 k, .string ⟨nm.toArray⟩, .int .i64 lit, .slice A ks.length c] 24)) (Obj.cells #[.int .i64 k', .string ⟨nm'.toArray⟩, .int .i64 lit', .slice A' ks'.length c'] 24)
    have hb1 := (Blk.new w 24 #[.int .i64 k, .string ⟨nm.toArray⟩, .int .i64 lit, .slice A ks.length c])
    have hb2 := Blk.new (w.alloc (Obj.cells #[.int .i64 k, .string ⟨nm.toArray⟩, .int .i64 lit, .slice A ks.length c] 24)) 24 #[.int .i64 k', .string ⟨nm'.toArray⟩, .int .i64 lit', .slice A' ks'.length c']
    have hb1' := hb1.below lo2 hb1.lt
    have hlo := lo1.trans (lo2.mono lo1.size)
    have hlA := (hl.on lo1).on lo2
    have hlB := (hl'.on lo1).on lo2
    clear hl hl' lo1 lo2 hb1
    go_enter Tryd.func18, Tryd.ntmps18
    go_upto_region 1 with fail
    have hnw : (w.alloc (Obj.cells #[.int .i64 k, .string ⟨nm.toArray⟩, .int .i64 lit, .slice A ks.length c] 24)).heap.size = w.heap.size + 1 := by simp
    rw [hnw] at hb2
    clear hnw
    generalize (w.alloc (Obj.cells #[.int .i64 k, .string ⟨nm.toArray⟩, .int .i64 lit, .slice A ks.length c] 24)).alloc (Obj.cells #[.int .i64 k', .string ⟨nm'.toArray⟩, .int .i64 lit', .slice A' ks'.length c'] 24) = W at *
    have a0 := hb1'.cell 0
    have a1 := hb1'.cell 1
    have a2 := hb1'.cell 2
    have a3 := hb1'.cell 3
    have b0 := hb2.cell 0
    have b1 := hb2.cell 1
    have b2 := hb2.cell 2
    have b3 := hb2.cell 3
    simp only [List.getElem?_toArray, List.getElem?_cons_zero, List.getElem?_cons_succ] at a0 a1 a2 a3 b0 b1 b2 b3
    by_cases h1 : k = k'
    rotate_left
    · have HV : Hid ((Fm.F.mk k nm lit ks).eqB (.mk k' nm' lit' ks') = false) := by unfold Hid; rw [hE, decide_eq_false h1]; rfl
      have q1 : (k != k') = false ∨ (k != k') = true := Or.inr (by simp [h1])
      have q2 : (k != k') = true := by simp [h1]
      have q3 : (k == k') = false := by simp [h1]
      clear h1 q1 hE hlA hlB hb1' hb2
      go_wp2
      go_ret
      exact ⟨by rw [HV.out]; rfl, hlo⟩
    subst h1
    have q2 : (k != k) = false := by simp
    by_cases h2 : nm = nm'
    rotate_left
    · have HV : Hid ((Fm.F.mk k nm lit ks).eqB (.mk k nm' lit' ks') = false) := by unfold Hid; rw [hE, decide_eq_false h2, Bool.false_and, Bool.and_false]
      have q3 : (nm == nm') = false := by simp [h2]
      clear h2 hE hlA hlB hb1' hb2
      go_wp2
      go_ret
      exact ⟨by rw [HV.out]; rfl, hlo⟩
    subst h2
    have qn : (nm == nm) = true := by simp
    by_cases h3 : lit = lit'
    rotate_left
    · have HV : Hid ((Fm.F.mk k nm lit ks).eqB (.mk k nm lit' ks') = false) := by unfold Hid; rw [hE, decide_eq_false h3, Bool.false_and, Bool.and_false, Bool.and_false]
      have q3 : (lit != lit') = true := by simp [h3]
      clear h3 hE hlA hlB hb1' hb2
      go_wp2
      go_ret
      exact ⟨by rw [HV.out]; rfl, hlo⟩
    subst h3
    have q3 : (lit != lit) = false := by simp
    by_cases h4 : ks.length = ks'.length
    rotate_left
    · have HV : Hid ((Fm.F.mk k nm lit ks).eqB (.mk k nm lit ks') = false) := by unfold Hid; rw [hE, Fm.eqL_len h4, Bool.and_false, Bool.and_false, Bool.and_false]
      have q4 : ((ks.length : Int) != (ks'.length : Int)) = true := by
        rw [bne_iff_ne]
        omega
      clear h4 hE hlA hlB hb1' hb2
      go_wp2
      go_ret
      exact ⟨by rw [HV.out]; rfl, hlo⟩
    have q4 : ((ks.length : Int) != (ks'.length : Int)) = false := by
      rw [h4]
      simp
    have HIL := Lib.hid h4
    have HE : Hid ((Fm.F.mk k nm lit ks).eqB (.mk k nm lit ks') = Fm.eqL ks ks') := by unfold Hid; rw [hE, decide_eq_true rfl, decide_eq_true rfl, decide_eq_true rfl]; rfl
    clear h4 hE
    go_wp2
    clear a0 a1 a2 a3 b0 b1 b2 b3 q2 q3 q4 qn
    have HLA := Lib.hid hlA
    have HLB := Lib.hid hlB
    have HB1 := Lib.hid hb1'
    have HB2 := Lib.hid hb2
    clear hlA hlB hb1' hb2
    go_loopw [5] (fun i wr => ∃ j : Nat, j ≤ ks.length ∧ i = .int .i64 (j : Int) ∧ Fm.eqL ks ks' = Fm.eqL (ks.drop j) (ks'.drop j) ∧ Below W.heap.size W wr) (fun i _ => ks.length - (intOf i).toNat)
    case atStart => exact ⟨0, Nat.zero_le _, rfl, rfl, Below.refl _ _⟩
    case round =>
      obtain ⟨j, hj, rfl, hQ, hbw⟩ := hrel
      have HQ := Lib.hid hQ
      clear hQ
      have hBW := hlo.trans (hbw.mono hlo.size)
      have hc1 := HB1.out.below hbw HB1.out.lt
      have hc2 := HB2.out.below hbw HB2.out.lt
      have a3 := hc1.cell 3
      have b3 := hc2.cell 3
      simp only [List.getElem?_toArray, List.getElem?_cons_zero, List.getElem?_cons_succ] at a3 b3
      by_cases hlt : j < ks.length
      · have hlt' : j < ks'.length := by have := HIL.out; omega
        obtain ⟨b, off, A1, c1, hA, hK, g0, g1, g2, g3, hfv⟩ := FL.at ks A 0 (HLA.out.on hbw) j hlt
        obtain ⟨b', off', A2, c2, hA', hK', e0, e1, e2, e3, hfv'⟩ := FL.at ks' A' 0 (HLB.out.on hbw) j hlt'
        subst hA hA'
        have hlk : ks.length ≤ 1000000 := by have := len_cnt ks; omega
        have hix := ixF b off ks.length c j hlk hlt
        have hix' := ixF b' off' ks'.length c' j (by have := HIL.out; omega) hlt'
        rw [Nat.zero_add] at g0 g1 g2 g3 e0 e1 e2 e3
        have HS : Hid (∀ V, Below wr.heap.size wr V → Calls Tryd.prog 18 #[.agg #[.int .i64 ks[j].k, .string ⟨ks[j].nm.toArray⟩, .int .i64 ks[j].lit, .slice A1 ks[j].ks.length c1], .agg #[.int .i64 ks'[j].k, .string ⟨ks'[j].nm.toArray⟩, .int .i64 ks'[j].lit, .slice A2 ks'[j].ks.length c2]] V fun e w' => e = .returned (.bool (ks[j].eqB ks'[j])) ∧ Below V.heap.size V w') := fun V hV =>
          ih.out ks[j] ks'[j] _ _ V (by have := dep_kid (List.getElem_mem hlt); omega) (by have := cnt_kid (List.getElem_mem hlt); omega) (hfv.on hV) (hfv'.on hV)
        have HK : Hid (∀ V, Below wr.heap.size wr V → ((V.cell? ⟨w.heap.size, 3, none⟩ = some (.slice (some ⟨b, off, none⟩) ks.length c) ∧ V.cell? ⟨w.heap.size + 1, 3, none⟩ = some (.slice (some ⟨b', off', none⟩) ks'.length c')) ∧
            (V.cell? ⟨b, off + j * 4, none⟩ = some (.int .i64 ks[j].k) ∧ V.cell? ⟨b, off + j * 4 + 1, none⟩ = some (.string ⟨ks[j].nm.toArray⟩) ∧ V.cell? ⟨b, off + j * 4 + 2, none⟩ = some (.int .i64 ks[j].lit) ∧ V.cell? ⟨b, off + j * 4 + 3, none⟩ = some (.slice A1 ks[j].ks.length c1)) ∧
            (V.cell? ⟨b', off' + j * 4, none⟩ = some (.int .i64 ks'[j].k) ∧ V.cell? ⟨b', off' + j * 4 + 1, none⟩ = some (.string ⟨ks'[j].nm.toArray⟩) ∧ V.cell? ⟨b', off' + j * 4 + 2, none⟩ = some (.int .i64 ks'[j].lit) ∧ V.cell? ⟨b', off' + j * 4 + 3, none⟩ = some (.slice A2 ks'[j].ks.length c2)))) := fun V hV =>
          ⟨⟨(hc1.below hV hc1.lt).cell 3, (hc2.below hV hc2.lt).cell 3⟩, ⟨(hV.cell hK).trans g0, (hV.cell hK).trans g1, (hV.cell hK).trans g2, (hV.cell hK).trans g3⟩, (hV.cell hK').trans e0, (hV.cell hK').trans e1, (hV.cell hK').trans e2, (hV.cell hK').trans e3⟩
        have HD : Hid (Fm.eqL ks ks' = (ks[j].eqB ks'[j] && Fm.eqL (ks.drop (j + 1)) (ks'.drop (j + 1)))) := by
          unfold Hid
          rw [HQ.out, List.drop_eq_getElem_cons hlt, List.drop_eq_getElem_cons hlt', Fm.eqL]
        clear HQ hfv hfv' hc1 hc2 g0 g1 g2 g3 e0 e1 e2 e3
        have lx := Below.refl wr.heap.size wr
        generalize ks[j].eqB ks'[j] = x at *
        go_upto_region 6 with fail
        clear a3 b3
        go_region_held3 (fun V => ((V.cell? ⟨w.heap.size, 3, none⟩ = some (.slice (some ⟨b, off, none⟩) ks.length c) ∧ V.cell? ⟨w.heap.size + 1, 3, none⟩ = some (.slice (some ⟨b', off', none⟩) ks'.length c')) ∧
            (V.cell? ⟨b, off + j * 4, none⟩ = some (.int .i64 ks[j].k) ∧ V.cell? ⟨b, off + j * 4 + 1, none⟩ = some (.string ⟨ks[j].nm.toArray⟩) ∧ V.cell? ⟨b, off + j * 4 + 2, none⟩ = some (.int .i64 ks[j].lit) ∧ V.cell? ⟨b, off + j * 4 + 3, none⟩ = some (.slice A1 ks[j].ks.length c1)) ∧
            (V.cell? ⟨b', off' + j * 4, none⟩ = some (.int .i64 ks'[j].k) ∧ V.cell? ⟨b', off' + j * 4 + 1, none⟩ = some (.string ⟨ks'[j].nm.toArray⟩) ∧ V.cell? ⟨b', off' + j * 4 + 2, none⟩ = some (.int .i64 ks'[j].lit) ∧ V.cell? ⟨b', off' + j * 4 + 3, none⟩ = some (.slice A2 ks'[j].ks.length c2))))
          (first | exact HK.out _ lx | exact HK.out _ lx.drew)
          (first | (go_at_call 18; (with_reducible refine (HS.out _ lx.drew).mono ?_); rintro e w2 ⟨rfl, hb2⟩; replace lx := lx.drew.trans (hb2.mono lx.size))
                 | (go_at_call 18; (with_reducible refine (HS.out _ lx).mono ?_); rintro e w2 ⟨rfl, hb2⟩; replace lx := lx.trans (hb2.mono lx.size)))
        cases x with
        | true =>
          have HD2 : Hid (Fm.eqL ks ks' = Fm.eqL (ks.drop (j + 1)) (ks'.drop (j + 1))) := by unfold Hid; rw [HD.out, Bool.true_and]
          go_wp2
          go_roundw
          case rel => exact ⟨j + 1, by omega, by go_num, HD2.out, hbw.trans (lx.mono hbw.size)⟩
          case measure => simp [intOf]; omega
        | false =>
          have HD2 : Hid (Fm.eqL ks ks' = false) := by unfold Hid; rw [HD.out, Bool.false_and]
          go_wp2
          go_ret
          exact ⟨by rw [HE.out, HD2.out]; rfl, hBW.trans (lx.mono hBW.size)⟩
      · obtain rfl : j = ks.length := by omega
        have HD2 : Hid (Fm.eqL ks ks' = true) := by
          unfold Hid
          have := HIL.out
          rw [HQ.out, List.drop_length, this, List.drop_length]
          rfl
        clear HQ
        go_wp2
        go_ret
        exact ⟨by rw [HE.out, HD2.out]; rfl, hBW⟩
theorem rsame_all : ∀ d, RSameC d
  | 0 => fun f _ _ _ _ hd => by have := Fm.dep_pos f; omega
  | d + 1 => rsame_step d (rsame_all d)
end Go.Proofs.YtlddnejjpekgeaaDoor
/- Tokens: what any right program answers. -/
namespace Go.Proofs.YtlddnejjpekgeaaDoor
open Go.RowKit
attribute [local go_sem] bsv_size

def awakeA : Tk.Bs := [65, 71, 40, 97, 45, 62, 34, 98, 46, 99, 34, 41]
def awakeB : Tk.Bs := [97, 32, 63]
def awakeT : List Tk.Tok := [⟨1, [65, 71], 0⟩, ⟨2, [40], 2⟩, ⟨1, [97], 3⟩, ⟨2, [45, 62], 4⟩, ⟨1, [34, 98, 46, 99, 34], 6⟩, ⟨2, [41], 11⟩, ⟨0, [], 12⟩]
theorem awakeA_lex : Tk.lexA awakeA = (awakeT, 0, 0) := by rfl
theorem awakeB_lex : Tk.lexA awakeB = ([], 40, 2) := by rfl
end Go.Proofs.YtlddnejjpekgeaaDoor
/- The rows of layer 7: what the row's condition says of the signs, what came in, what stays. -/
namespace Go.Proofs.YtlddnejjpekgeaaDoor
section
open Go.ChangeShapes Go.WideShapes Go.ChangeAt Go.RowKit
theorem Tryd.own : ownKnob Tryd.prog.godebug = none := by kernel_rfl

section
variable {H : Type} {enc : TypeId × Value → H} {P : Program}
theorem post_low {f : Func} {s : ChangeSpec} {apart fresh handsOn again : Bool} {W W' : World} {args : Array Value} {v : Value} {ds gs : List (DataW H)} {before pa pv : List MemPlace}
    (hW : DataW.Whole enc P f.params.toList s.vars apart W args.toList ds gs before)
    (hres : ∀ (b : Nat) (sp : Nat → Bool) (hd : Bool), DataW.TrodAll enc P W' b sp hd f.resultTypes.toList (v.resultList f.resultTypes.size) (s.fn H (ds ++ gs)).results [])
    (hargs : ∀ sp : Nat → Bool, (∀ p ∈ before, sp p.block = true) → DataW.TrodAll enc P W' 0 sp true f.params.toList args.toList (s.fn H (ds ++ gs)).args pa)
    (hvars : ∀ sp : Nat → Bool, (∀ p ∈ before, sp p.block = true) → DataW.TrodVars enc P W' sp s.vars (s.fn H (ds ++ gs)).vars pv)
    (hps : before = pa ++ pv) (hb : Below W.heap.size W W')
    (hok : ∀ (j : Nat) (t : TypeId) (r : Value), f.resultTypes[j]? = some t → (v.resultList f.resultTypes.size)[j]? = some r → Value.okWide P W' .any 0 t r) :
    s.post enc P f apart fresh handsOn again W args v W' := by
  have hlt : ∀ p ∈ before, p.block < W.heap.size := fun p hp => hW.lt p hp
  have hold : ∀ p ∈ before, (fun b => decide (b < W.heap.size)) p.block = true := fun p hp => by simpa using hlt p hp
  refine ⟨ds, gs, before, [], pa, pv, hW, hres _ _ _, hargs _ hold, hvars _ hold, World.keptBut_mono (fun p hp => ⟨hp, ?_⟩) (hb.frame (· ∈ before)), fun _ => ?_⟩
  · rw [hps, List.mem_append] at hp
    exact Or.inr hp
  · obtain ⟨_, _, _, _, _, hz, hn⟩ := hW
    refine ⟨hok, _, _, ([] ++ pa) ++ pv, ⟨[] ++ pa, pv, trodAll_append (hargs _ (fun _ _ => rfl)) (hres _ _ _), hvars _ (fun _ _ => rfl), rfl, ?_, ?_⟩, ?_⟩
    · intro b off hp
      have hin : MemPlace.cell b off ∈ before := by rw [hps]; simpa using hp
      rw [hb.frozen (hlt _ hin)]
      exact hz b off hin
    · intro ha
      have := hn ha
      rw [hps] at this
      simpa using this
    · intro p hp _
      rw [hps]
      simpa using hp
end

end
section
open Go.RowKit
/-- The slice at A holds the numbers zs. -/
def Ub (w : World) (B : Nat) (A : Option Addr) (zs : List Int) : Prop :=
  ∀ k (hk : k < zs.length), ∃ b off, A = some ⟨b, off, none⟩ ∧ b < B ∧ w.cell? ⟨b, off + k, none⟩ = some (.int .u8 zs[k]) ∧ 0 ≤ zs[k] ∧ zs[k] ≤ 255
theorem Ub.below {w w' : World} {B C : Nat} {A : Option Addr} {zs : List Int} (h : Ub w B A zs) (hb : Below C w w') (hB : B ≤ C) : Ub w' B A zs := by
  intro k hk
  obtain ⟨b, off, rfl, hlt, h1, h2⟩ := h k hk
  exact ⟨b, off, rfl, hlt, (hb.cell (p := ⟨b, _, none⟩) (Nat.lt_of_lt_of_le hlt hB)).trans h1, h2⟩
theorem Ub.more {w : World} {B C : Nat} {A : Option Addr} {zs : List Int} (h : Ub w B A zs) (hB : B ≤ C) : Ub w C A zs := by
  intro k hk
  obtain ⟨b, off, rfl, hlt, h1, h2⟩ := h k hk
  exact ⟨b, off, rfl, Nat.lt_of_lt_of_le hlt hB, h1, h2⟩
theorem ixU8 (sb off N c r : Nat) (hm : N ≤ 9223372036854775807) (hr : r < N) (w : World) : (Instr.indexAt 29 (.slice (some ⟨sb, off, none⟩) N c) (.int .i64 (r : Int))).run Tryd.prog w = .ok (.pointer (some ⟨sb, off + r, none⟩)) w := by go_simp
end
section
open Go.ChangeMaps Go.ChangeShapes Go.WideShapes Go.ChangeAt Go.RowKit Go.Deep Go.Joins Go.WideElems
theorem Tryd.cellsU8 : Tryd.prog.cellsOf 5 = 1 := by kernel_rfl
section
variable {H : Type} {enc : TypeId × Value → H} {W : World} {base : Nat} {spare : Nat → Bool} {held : Bool}
theorem open_u8s {fuel : Nat} {v1 : Value} {x : DataW H × List MemPlace} (h : DataW.trod enc Tryd.prog W base spare held fuel 29 [v1] = some x) :
    ∃ (A : Option Addr) (c : Nat) (zs : List Int), v1 = .slice A zs.length c ∧ Ub W W.heap.size A zs ∧ zs.length ≤ maxLen := by
  rcases open_slice Tryd.underlying29 h with ⟨hcs, _⟩ | ⟨a, len, cap, m, n, D, Pl, hcs, hb, hl, hm, hmm, _, hx⟩
  · refine ⟨none, 0, [], ?_, fun k hk => by simp at hk, Nat.zero_le _⟩
    simpa using hcs
  · have hlm : len ≤ m := by rw [hmm]; split <;> omega
    have each : ∀ i, i < len → ∃ q : Int, W.cell? (a.add (i * 1)) = some (.int .u8 q) ∧ (Lit.int .u8 q).wf = true := by
      intro i hi
      obtain ⟨cs', h1, h2⟩ := hx i (by omega)
      rw [Tryd.cellsU8] at h1
      obtain ⟨_, hlen, hcell⟩ := World.cells?_some h1
      obtain ⟨u, hu, _, wu⟩ := DataW.trod_int Tryd.underlying5 h2
      subst hu
      have e0 := hcell 0 (by omega)
      exact ⟨u, by simpa [Addr.add] using e0, wu⟩
    obtain ⟨q, hq⟩ := choose_lt each
    refine ⟨some a, cap, (List.range len).map q, ?_, fun k hk => ?_, by simp; omega⟩
    · simpa using hcs
    · have hk' : k < len := by simpa using hk
      obtain ⟨e1, w1⟩ := hq k hk'
      obtain ⟨b, off, spot⟩ := a
      have hspot : spot = none := by
        have := World.cell?_spot (hq 0 (by omega)).1
        simpa [Addr.add] using this
      subst hspot
      rw [add_plain, Nat.mul_one] at e1
      have bd := bounds_u8 w1
      refine ⟨b, off, rfl, ?_, ?_, ?_⟩
      · exact World.block_lt_of_cell? W ⟨b, off + k, none⟩ e1
      · simpa using e1
      · simpa using bd
end

end
section
open Go.ChangeMaps Go.ChangeShapes Go.WideShapes Go.ChangeAt Go.RowKit
def laid2 : List (String × DataW Unit) := [("parterre/token.signs", Rows.laid_parterre_token_signs)]
theorem gSigns : Tryd.prog.globalNamed "parterre/token.signs" = some 0 := by kernel_rfl
theorem tSigns : (Tryd.prog.globals[0]?).map (·.type) = some 101 := by kernel_rfl
theorem Tryd.laid2 : laidOutB Tryd.prog = true := by kernel_rfl
theorem cStr : Tryd.prog.cellsOf 9 = 1 := by kernel_rfl
theorem door_met (os : Os) (args : Array Value) : laidMetH Tryd.prog laid2 ((World.doorLaid Tryd.prog 400 os).forCall (fun _ _ => 0) ⟨#[], args, []⟩).memory :=
  laidMetH_of_parts3 (fuel := 8) (laidMet_of_run' 8 (by kernel_rfl) (by kernel_rfl)) (by kernel_rfl) (by kernel_rfl)
/-- What the walks ask of the world: the signs lie there. -/
structure Tabs (W : World) : Prop where
  sig : Sig W
  lt : 0 < W.heap.size
theorem Tabs.below {W W' : World} (h : Tabs W) (hb : Below W.heap.size W W') : Tabs W' := ⟨h.sig.below hb h.lt, Nat.lt_of_lt_of_le h.lt hb.size⟩
theorem of_laid {W : World} (h : laidMetH Tryd.prog laid2 W) : Tabs W := by
  rw [MakeChecks.laidMetH_plain _ _ _ (by kernel_rfl)] at h
  obtain ⟨ps, ⟨g0, t0, cs0, f0, p0, q0, hg0, ht0, hv0, hd0, _⟩, _, _⟩ := h
  obtain rfl := Option.some.inj (gSigns.symm.trans hg0)
  obtain rfl := Option.some.inj (tSigns.symm.trans ht0)
  have hcell : ∀ i, W.cell? ⟨0, i, none⟩ = cs0.toList[i]? := fun i => by
    have := World.var?_cell hg0 hv0 i
    rw [Array.getElem?_toList]
    simpa using this
  obtain ⟨xs, m1, rfl, hx1, hlen, hn3, hel⟩ := DataW.trod_array Tryd.underlying101 hd0
  rw [cStr] at hel
  simp only [Prod.mk.injEq, Rows.laid_parterre_token_signs, DataW.agg.injEq] at hx1
  match xs, hn3, hx1, hel with
  | [x0, x1, x2, x3, x4, x5, x6, x7, x8], _, hx1, hel =>
    simp only [List.map_cons, List.map_nil, List.cons.injEq] at hx1
    obtain ⟨⟨e0, e1, e2, e3, e4, e5, e6, e7, e8, _⟩, _⟩ := hx1
    have one : ∀ (i : Nat) (x : DataW Unit × List MemPlace) (l : List UInt8), ([x0, x1, x2, x3, x4, x5, x6, x7, x8] : List (DataW Unit × List MemPlace))[i]? = some x → i < 9 → DataW.lit (.string l) = x.1 → W.cell? ⟨0, i, none⟩ = some (.string (bsv l)) := by
      intro i x l hi h9 he
      have h1 := (hel i h9).trans hi
      obtain ⟨s, hc, hs, _⟩ := DataW.trod_string Tryd.underlying9 h1
      have h2 : cs0.toList[i]? = some (.string s) := by
        have := congrArg (·[0]?) hc
        simpa [List.getElem?_take, List.getElem?_drop] using this
      rw [hs] at he
      have h3 : l = s.data.toList := by simpa using he
      rw [hcell, h2, h3]
      rfl
    have hs : Sig W := by
      intro i hi
      have : i = 0 ∨ i = 1 ∨ i = 2 ∨ i = 3 ∨ i = 4 ∨ i = 5 ∨ i = 6 ∨ i = 7 ∨ i = 8 := by omega
      rcases this with rfl | rfl | rfl | rfl | rfl | rfl | rfl | rfl | rfl
      · exact one 0 x0 _ rfl hi e0
      · exact one 1 x1 _ rfl hi e1
      · exact one 2 x2 _ rfl hi e2
      · exact one 3 x3 _ rfl hi e3
      · exact one 4 x4 _ rfl hi e4
      · exact one 5 x5 _ rfl hi e5
      · exact one 6 x6 _ rfl hi e6
      · exact one 7 x7 _ rfl hi e7
      · exact one 8 x8 _ rfl hi e8
    exact ⟨hs, World.block_lt_of_cell? W ⟨0, 0, none⟩ (hs 0 (by omega))⟩
end
end Go.Proofs.YtlddnejjpekgeaaDoor
/- The law's comparison of both readings; TokenAny's walk. -/
namespace Go.Proofs.YtlddnejjpekgeaaDoor
open Go.RowKit
attribute [local go_sem] bsv_size

end Go.Proofs.YtlddnejjpekgeaaDoor
