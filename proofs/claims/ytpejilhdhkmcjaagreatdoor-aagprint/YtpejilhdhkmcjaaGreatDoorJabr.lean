/- The rows of layer 5: what the row's condition says of the library's variables; the wrap that hands on the world's shape too. -/
import Derived.Test.YtpejilhdhkmcjaaGreatDoorJaAl
import Derived.Test.YtpejilhdhkmcjaaGreatDoorJaas
import Derived.Test.YtpejilhdhkmcjaaGreatDoorJaaf
import Derived.Test.YtpejilhdhkmcjaaGreatDoorJaag
import Derived.Test.YtpejilhdhkmcjaaGreatDoorTie
import Derived.Test.YtpejilhdhkmcjaaGreatDoorCards
import Derived.ProofKit
import Derived.LaidMore
import Derived.OpenShut
import Derived.ShutString
import Derived.Lib.LaidTab
import Derived.Stop.Joined
import Derived.SevenTiedAt
import Derived.ChangeMaps5
import Derived.Deep.Slices
import Derived.Lib.SmallJoins
import Derived.HandedShaped
import Derived.Shelf.Vars
import Derived.Lay
namespace Go.Proofs.YtpejilhdhkmcjaaGreatDoor
section
open Go.RowKit
variable {H : Type} {enc : TypeId × Value → H}
theorem handed_and_shaped {a : Assume} {C : Checked} {os : Os} {f : FuncId} {fn : Func} {s : ChangeSpec} {conds : List PathCond} {apart fresh handsOn again : Bool} {X : World → Array Value → Prop}
  (hX : ∀ (w w' : World) (args : Array Value), w.heap = w'.heap → X w args → X w' args)
  (own : ownKnob C.prog.godebug = none) (started : os.Started) (noInit : C.prog.inits.idxOf? f = none) (hfn : C.prog.funcs[f]? = some fn)
  (witness : ∃ (w : World) (tape : Tape) (i : Input), w.os = os ∧ (w.forCall tape i).Shaped C.prog ∧ i.vars = [] ∧ Input.okWide C.prog (w.forCall tape i) .any w.heap.size f i ∧
   ((s.pre enc C.prog fn conds apart (w.forCall tape i).memory i.args ∧ X (w.forCall tape i).memory i.args) ∧ sizedMet enc C.prog fn (OpenSpec.ofChange s) apart (w.forCall tape i).memory i.args) ∧ a.holds C.prog (lone (Frame.enter C.prog f i.args .normal) [] (w.forCall tape i)))
  (contract : ∀ (W : World) (base : Nat) (args : Array Value) (ds gs : List (DataW H)) (before : List MemPlace),
   (∀ (j : Nat) t v, fn.params[j]? = some t → args[j]? = some v → Value.okWide C.prog W .any base t v) →
   DataW.Whole enc C.prog fn.params.toList s.vars apart W args.toList ds gs before →
   conds.all (PathCond.test C.prog ⟨fn.params.toList, ds, s.plain.varTypes C.prog, gs⟩) = true →
   (DataW.weightsEach C.prog (fn.params.toList ++ s.plain.varTypes C.prog) (ds ++ gs)).all (· ≤ reachBytes) = true → X W args →
   W.ShapedOpen C.prog →
   a.holds C.prog (lone (Frame.enter C.prog f args .normal) [] W) →
   Calls C.prog f args W fun e W' => ∃ v, e = .returned v ∧ s.post enc C.prog fn apart fresh handsOn again W args v W') :
  ReturnsInHanded a C os f .any (fun w args => (s.pre enc C.prog fn conds apart w args ∧ X w args) ∧ sizedMet enc C.prog fn (OpenSpec.ofChange s) apart w args) (s.post enc C.prog fn apart fresh handsOn again) := by
 refine returnsInHanded_of_calls own started noInit witness ?_
 intro w tape i _ hsh _ hok hpre hholds
 obtain ⟨_, _, _, fn', hfn', _, _, _, _, hval⟩ := hok
 have e : fn' = fn := Option.some.inj (hfn'.symm.trans hfn)
 subst e
 obtain ⟨⟨⟨ds, gs, before, hw, hc⟩, hx⟩, hz⟩ := hpre
 have hw' := DataW.Whole.of_heap (w' := w.forCall tape i) (by rfl) hw
 refine (contract (w.forCall tape i) w.heap.size i.args ds gs before hval hw' hc (hz.weights hw) (hX _ _ _ (by rfl) hx) hsh hholds).mono fun e W' ⟨v, he, hp⟩ => ?_
 subst he
 exact ChangeSpec.post_blind hp
end
section
open Go.ChangeMaps Go.ChangeShapes Go.WideShapes Go.ChangeAt Go.RowKit
def laid2 : List (String × DataW Unit) := [("math/bits.deBruijn32tab", Rows.laid_math_bits_deBruijn32tab), ("math/bits.deBruijn64tab", Rows.laid_math_bits_deBruijn64tab), ("internal/strconv.uint64pow10", Rows.laid_internal_strconv_uint64pow10), ("unicode/utf8.acceptRanges", Rows.laid_unicode_utf8_acceptRanges), ("strconv.ErrRange", Rows.laid_strconv_ErrRange), ("strconv.ErrSyntax", Rows.laid_strconv_ErrSyntax), ("unicode/utf8.first", Rows.laid_unicode_utf8_first)]
set_option maxRecDepth 100000 in
theorem door_met (os : Os) (args : Array Value) : laidMetH Tryz.prog laid2 ((World.laidAll Tryz.prog os laid2).forCall (fun _ _ => 0) ⟨#[], args, []⟩).memory := by
 rw [MakeChecks.laidMetH_plain _ _ _ (by kernel_rfl)]
 exact laidMet_laidAll _ (by kernel_rfl) (by kernel_rfl)
theorem gPow : Tryz.prog.globalNamed "internal/strconv.uint64pow10" = some 0 := by kernel_rfl
theorem gErrR : Tryz.prog.globalNamed "strconv.ErrRange" = some 2 := by kernel_rfl
theorem gErrS : Tryz.prog.globalNamed "strconv.ErrSyntax" = some 1 := by kernel_rfl
theorem gAcc : Tryz.prog.globalNamed "unicode/utf8.acceptRanges" = some 7 := by kernel_rfl
theorem tPow : (Tryz.prog.globals[0]?).map (·.type) = some 180 := by kernel_rfl
theorem tErrR : (Tryz.prog.globals[2]?).map (·.type) = some 145 := by kernel_rfl
theorem tErrS : (Tryz.prog.globals[1]?).map (·.type) = some 145 := by kernel_rfl
theorem cU64 : Tryz.prog.cellsOf 153 = 1 := by kernel_rfl
theorem cPow : Tryz.prog.cellsOf 180 = 20 := by kernel_rfl
theorem iface_cell {H : Type} {enc : TypeId × Value → H} {W : World} {base : Nat} {spare : Nat → Bool} {held : Bool} {fuel : Nat} {t : TypeId} {ms : Array (String × TypeId)} {cs : List Value} {x : DataW H × List MemPlace}
  (ht : Tryz.prog.underlying t = some (.interface ms)) (h : DataW.trod enc Tryz.prog W base spare held fuel t cs = some x) : ∃ ev, cs = [ev] ∧ (ev = .nilIface ∨ ∃ te pe, ev = .iface te pe) := by
 cases fuel with
 | zero => simp [DataW.trod] at h
 | succ fuel =>
  rcases cs with _ | ⟨c, _ | ⟨c', r⟩⟩
  ·
   simp [DataW.trod, ht] at h
  ·
   cases c
   case nilIface => exact ⟨_, rfl, Or.inl rfl⟩
   case iface u v => exact ⟨_, rfl, Or.inr ⟨_, _, rfl⟩⟩
   all_goals simp [DataW.trod, ht] at h
  simp [DataW.trod, ht] at h
theorem var_lt {P : Program} {w : World} {n : String} {g : Nat} {cs : Array Value} (hg : P.globalNamed n = some g) (h : w.var? P n = some cs) : g < w.heap.size := by
 simp only [World.var?, hg, Option.bind_some] at h
 split at h
 ·
  rename_i e
  exact (Array.getElem?_eq_some_iff.1 e).1
 cases h
theorem of_laid {W : World} (hsh : W.ShapedOpen Tryz.prog) (h : laidMetH Tryz.prog laid2 W) : Amb W.heap.size W := by
 rw [MakeChecks.laidMetH_plain _ _ _ (by kernel_rfl)] at h
 obtain ⟨ps, ⟨g0, t0, cs0, f0, p0, q0, hg0, ht0, hv0, hd0, ⟨g1, t1, cs1, f1, p1, q1, hg1, ht1, hv1, hd1, ⟨g2, t2, cs2, f2, p2, q2, hg2, ht2, hv2, hd2, ⟨g3, t3, cs3, f3, p3, q3, hg3, ht3, hv3, hd3, ⟨g4, t4, cs4, f4, p4, q4, hg4, ht4, hv4, hd4, ⟨g5, t5, cs5, f5, p5, q5, hg5, ht5, hv5, hd5, _⟩, _⟩, _⟩, _⟩, _⟩, _⟩, _⟩ := h
 clear hd0 hd1 hd3
 obtain rfl := Option.some.inj (gPow.symm.trans hg2)
 obtain rfl := Option.some.inj (tPow.symm.trans ht2)
 obtain rfl := Option.some.inj (gErrR.symm.trans hg4)
 obtain rfl := Option.some.inj (tErrR.symm.trans ht4)
 obtain rfl := Option.some.inj (gErrS.symm.trans hg5)
 obtain rfl := Option.some.inj (tErrS.symm.trans ht5)
 have hN : cs2.toList = Lib.pow10Tab.map (Value.int .u64) := Lib.cells_of_tab Tryz.underlying180 Tryz.underlying153 cU64 cPow hd2
 have htab : Lib.TabIs Tryz.prog W "internal/strconv.uint64pow10" .u64 Lib.pow10Tab := by
  unfold Lib.TabIs
  rw [hv2, ← hN]
 have one : ∀ (g : Nat) (n : String) (cs : Array Value), Tryz.prog.globalNamed n = some g → W.var? Tryz.prog n = some cs → ∀ (x : DataW Unit × List MemPlace) (f : Nat), (∃ (base : Nat) (enc : TypeId × Value → Unit) (spare : Nat → Bool) (held : Bool), DataW.trod enc Tryz.prog W base spare held f 145 cs.toList = some x) → ∃ ev, W.cell? ⟨g, 0, none⟩ = some ev ∧ (ev = .nilIface ∨ ∃ te pe, ev = .iface te pe) := by
  intro g n cs hg hv x f ⟨base, enc, spare, held, hd⟩
  obtain ⟨ev, he, hk⟩ := iface_cell Tryz.underlying145 hd
  refine ⟨ev, ?_, hk⟩
  have := World.var?_cell hg hv 0
  rw [this, ← Array.getElem?_toList, he]
  rfl
 have hml : ∃ m, W.cell? ⟨3, 0, none⟩ = some (.int .i64 m) :=
  cell_of_shapedOpen_int (t := 3) (zero := #[.int .i64 0]) hsh (of_decide_eq_true (by kernel_rfl)) (by kernel_rfl) rfl (by kernel_rfl) (by kernel_rfl) Tryz.underlying3
 have h8 : 8 ≤ W.heap.size := by
  have h3 : g3 = 7 := Option.some.inj (hg3.symm.trans gAcc)
  have := var_lt hg3 hv3
  omega
 exact ⟨Nat.le_refl _, h8, hml, one _ _ _ gErrS hv5 _ _ ⟨_, _, _, _, hd5⟩, one _ _ _ gErrR hv4 _ _ ⟨_, _, _, _, hd4⟩, Lib.tabBelow_of_tabIs htab⟩
end
end Go.Proofs.YtpejilhdhkmcjaaGreatDoor
/- How []uint8 is opened. -/
namespace Go.Proofs.YtpejilhdhkmcjaaGreatDoor
section
open Go.RowKit
/-- The slice at A holds the numbers zs. -/
def Ub (w : World) (B : Nat) (A : Option Addr) (zs : List Int) : Prop :=
 ∀ k (hk : k < zs.length), ∃ b off, A = some ⟨b, off, none⟩ ∧ b < B ∧ w.cell? ⟨b, off + k, none⟩ = some (.int .u8 zs[k]) ∧ 0 ≤ zs[k] ∧ zs[k] ≤ 255
theorem Ub.below {w w' : World} {B C : Nat} {A : Option Addr} {zs : List Int} (h : Ub w B A zs) (hb : Below C w w') (hB : B ≤ C) : Ub w' B A zs := by
 intro k hk
 obtain ⟨b, off, rfl, hlt, h1, h2⟩ := h k hk
 exact ⟨b, off, rfl, hlt, (hb.cell (p := ⟨b, _, none⟩) (Nat.lt_of_lt_of_le hlt hB)).trans h1, h2⟩
theorem Ub.more {w : World} {B C : Nat} {A : Option Addr} {zs : List Int} (h : Ub w B A zs) (hB : B ≤ C) : Ub w C A zs := by
 intro k hk
 obtain ⟨b, off, rfl, hlt, h1, h2⟩ := h k hk
 exact ⟨b, off, rfl, Nat.lt_of_lt_of_le hlt hB, h1, h2⟩
theorem ixU8 (sb off N c r : Nat) (_hm : N ≤ 9223372036854775807) (hr : r < N) (w : World) : (Instr.indexAt 37 (.slice (some ⟨sb, off, none⟩) N c) (.int .i64 (r : Int))).run Tryz.prog w = .ok (.pointer (some ⟨sb, off + r, none⟩)) w := by go_simp
end
section
open Go.ChangeMaps Go.ChangeShapes Go.WideShapes Go.ChangeAt Go.RowKit Go.Deep Go.Joins Go.WideElems
theorem Tryz.cellsU8 : Tryz.prog.cellsOf 5 = 1 := by kernel_rfl
section
variable {H : Type} {enc : TypeId × Value → H} {W : World} {base : Nat} {spare : Nat → Bool} {held : Bool}
theorem open_u8s {fuel : Nat} {v1 : Value} {x : DataW H × List MemPlace} (h : DataW.trod enc Tryz.prog W base spare held fuel 37 [v1] = some x) :
  ∃ (A : Option Addr) (c : Nat) (zs : List Int), v1 = .slice A zs.length c ∧ Ub W W.heap.size A zs ∧ zs.length ≤ maxLen := by
 rcases open_slice Tryz.underlying37 h with ⟨hcs, _⟩ | ⟨a, len, cap, m, n, D, Pl, hcs, hb, hl, hm, hmm, _, hx⟩
 ·
  refine ⟨none, 0, [], ?_, fun k hk => by simp at hk, Nat.zero_le _⟩
  simpa using hcs
 have hlm : len ≤ m := by rw [hmm]; split <;> omega
 have each : ∀ i, i < len → ∃ q : Int, W.cell? (a.add (i * 1)) = some (.int .u8 q) ∧ (Lit.int .u8 q).wf = true := by
  intro i hi
  obtain ⟨cs', h1, h2⟩ := hx i (by omega)
  rw [Tryz.cellsU8] at h1
  obtain ⟨_, hlen, hcell⟩ := World.cells?_some h1
  obtain ⟨u, hu, _, wu⟩ := DataW.trod_int Tryz.underlying5 h2
  subst hu
  have e0 := hcell 0 (by omega)
  exact ⟨u, by simpa [Addr.add] using e0, wu⟩
 obtain ⟨q, hq⟩ := choose_lt each
 refine ⟨some a, cap, (List.range len).map q, ?_, fun k hk => ?_, by simp; omega⟩
 ·
  simpa using hcs
 have hk' : k < len := by simpa using hk
 obtain ⟨e1, w1⟩ := hq k hk'
 obtain ⟨b, off, spot⟩ := a
 have hspot : spot = none := by
  have := World.cell?_spot (hq 0 (by omega)).1
  simpa [Addr.add] using this
 subst hspot
 rw [add_plain, Nat.mul_one] at e1
 have bd := bounds_u8 w1
 refine ⟨b, off, rfl, ?_, ?_, ?_⟩
 ·
  exact World.block_lt_of_cell? W ⟨b, off + k, none⟩ e1
 ·
  simpa using e1
 simpa using bd
end

end
end Go.Proofs.YtpejilhdhkmcjaaGreatDoor
/- Texts of few lines. -/
namespace Go.Proofs.YtpejilhdhkmcjaaGreatDoor
open Go.RowKit

def linesL : List Ag.Bs := [[97, 97, 103, 32, 49, 32, 48, 32, 49, 32, 48, 32, 48, 10], [97, 97, 103, 32, 51, 32, 49, 32, 49, 32, 49, 32, 49, 10], [97, 97, 103, 32, 50, 32, 49, 32, 49, 32, 48, 32, 48, 32, 49, 32, 49, 32, 48, 32, 49, 10], [50, 10], [52, 32, 53, 10], [50, 32, 51, 10], [52, 32, 53, 32, 49, 10], [52, 32, 53, 32, 52, 10], [50, 32, 51, 32, 50, 10], [50, 32, 51, 32, 48, 10], [52, 32, 53, 32, 51, 10], [54, 10], [54, 32, 52, 32, 50, 10], [51, 10], [49, 10], [48, 10], [108, 48, 32, 113, 10], [105, 48, 32, 105, 110, 10], [111, 48, 32, 111, 117, 116, 10], [99, 10], [97, 110, 121, 10], [10], [99, 48, 32, 99, 111, 110, 10], [102, 48, 32, 102, 97, 105, 114], [108, 48, 32, 113, 32, 114, 10], [120, 48, 32, 121, 10]]
def lineCells : Array Value := (linesL.map (fun x => Value.string ⟨x.toArray⟩)).toArray
theorem lines_short : ∀ x ∈ linesL, x.length ≤ 22 := by decide
theorem lineCells_get (i : Nat) (h : i < 26) : lineCells[i]? = some (.string ⟨(linesL.getD i []).toArray⟩) := by
 have h' : i < linesL.length := h
 unfold lineCells
 rw [List.getElem?_toArray, List.getElem?_map, List.getElem?_eq_getElem h', List.getD_eq_getElem?_getD, List.getElem?_eq_getElem h']
 rfl
theorem line_short (i : Nat) : (linesL.getD i []).length ≤ 22 := by
 by_cases h : i < linesL.length
 ·
  rw [List.getD_eq_getElem?_getD, List.getElem?_eq_getElem h]
  exact lines_short _ (List.getElem_mem h)
 rw [List.getD_eq_getElem?_getD, List.getElem?_eq_none (by omega)]
 simp
/-- Which line a number is. -/
def lineNo (k : Nat) (z : Int) : Nat := if k = 0 ∧ z < 200 then z.toNat % 3 else z.toNat % 26
theorem lineNo_lt (k : Nat) (z : Int) : lineNo k z < 26 := by unfold lineNo; split <;> omega
/-- The text of the first k numbers. -/
def lnsS (zs : List Int) : Nat → Ag.Bs
 | 0 => []
 | k + 1 => lnsS zs k ++ linesL.getD (lineNo k (zs.getD k 0)) []
theorem lns_len (zs : List Int) (k : Nat) : (lnsS zs k).length ≤ 22 * k := by
 induction k with
 | zero => exact Nat.le_refl _
 | succ k ih =>
  have := line_short (lineNo k (zs.getD k 0))
  rw [lnsS, List.length_append]
  omega
def textS (zs : List Int) : Ag.Bs := lnsS zs (min zs.length 14)
theorem textS_len (zs : List Int) : (textS zs).length ≤ 308 := by
 have := lns_len zs (min zs.length 14)
 unfold textS
 omega
theorem ixS26 (sb r : Nat) (hr : r < 26) (w : World) : (Instr.indexAt 70 (.slice (some ⟨sb, 0, none⟩) 26 26) (.int .i64 (r : Int))).run Tryz.prog w = .ok (.pointer (some ⟨sb, r, none⟩)) w := by
 have h1 : (r : Int) < 26 := by omega
 go_simp
theorem add_bs (u x : Ag.Bs) (h : u.length + x.length ≤ 1000000000) (w : World) : (Op.stringOp .add (⟨u.toArray⟩ : ByteArray) ⟨x.toArray⟩).run Tryz.prog w = .ok (.string ⟨(u ++ x).toArray⟩) w := by
 have e1 : (⟨u.toArray⟩ : ByteArray).size = u.length := by simp [ByteArray.size]
 have e2 : (⟨x.toArray⟩ : ByteArray).size = x.length := by simp [ByteArray.size]
 rw [run_string_add_sum w _ _ (by rw [e1, e2]; omega)]
 refine congrArg (fun s => Result.ok (Value.string s) w) ?_
 apply ByteArray.ext
 simp
set_option maxRecDepth 100000 in
set_option maxHeartbeats 4000000 in
theorem pieces5_any (A : Option Addr) (c : Nat) (zs : List Int) (w : World) (hml : zs.length ≤ maxLen) (hU : Ub w w.heap.size A zs) :
  Calls Tryz.prog 16 #[.slice A zs.length c] w fun e w' => e = .returned (.string ⟨(textS zs).toArray⟩) ∧ Below w.heap.size w w' := by
 have hml2 : zs.length ≤ 9223372036854775807 := by
  have : maxLen ≤ 9223372036854775807 := by decide
  omega
 clear hml
 have lo := lowAlloc w (Obj.cells #[.string ⟨#[97, 97, 103, 32, 49, 32, 48, 32, 49, 32, 48, 32, 48, 10]⟩, .string ⟨#[97, 97, 103, 32, 51, 32, 49, 32, 49, 32, 49, 32, 49, 10]⟩, .string ⟨#[97, 97, 103, 32, 50, 32, 49, 32, 49, 32, 48, 32, 48, 32, 49, 32, 49, 32, 48, 32, 49, 10]⟩, .string ⟨#[50, 10]⟩, .string ⟨#[52, 32, 53, 10]⟩, .string ⟨#[50, 32, 51, 10]⟩, .string ⟨#[52, 32, 53, 32, 49, 10]⟩, .string ⟨#[52, 32, 53, 32, 52, 10]⟩, .string ⟨#[50, 32, 51, 32, 50, 10]⟩, .string ⟨#[50, 32, 51, 32, 48, 10]⟩, .string ⟨#[52, 32, 53, 32, 51, 10]⟩, .string ⟨#[54, 10]⟩, .string ⟨#[54, 32, 52, 32, 50, 10]⟩, .string ⟨#[51, 10]⟩, .string ⟨#[49, 10]⟩, .string ⟨#[48, 10]⟩, .string ⟨#[108, 48, 32, 113, 10]⟩, .string ⟨#[105, 48, 32, 105, 110, 10]⟩, .string ⟨#[111, 48, 32, 111, 117, 116, 10]⟩, .string ⟨#[99, 10]⟩, .string ⟨#[97, 110, 121, 10]⟩, .string ⟨#[10]⟩, .string ⟨#[99, 48, 32, 99, 111, 110, 10]⟩, .string ⟨#[102, 48, 32, 102, 97, 105, 114]⟩, .string ⟨#[108, 48, 32, 113, 32, 114, 10]⟩, .string ⟨#[120, 48, 32, 121, 10]⟩] 9)
 have hB : Blk (w.alloc (Obj.cells #[.string ⟨#[97, 97, 103, 32, 49, 32, 48, 32, 49, 32, 48, 32, 48, 10]⟩, .string ⟨#[97, 97, 103, 32, 51, 32, 49, 32, 49, 32, 49, 32, 49, 10]⟩, .string ⟨#[97, 97, 103, 32, 50, 32, 49, 32, 49, 32, 48, 32, 48, 32, 49, 32, 49, 32, 48, 32, 49, 10]⟩, .string ⟨#[50, 10]⟩, .string ⟨#[52, 32, 53, 10]⟩, .string ⟨#[50, 32, 51, 10]⟩, .string ⟨#[52, 32, 53, 32, 49, 10]⟩, .string ⟨#[52, 32, 53, 32, 52, 10]⟩, .string ⟨#[50, 32, 51, 32, 50, 10]⟩, .string ⟨#[50, 32, 51, 32, 48, 10]⟩, .string ⟨#[52, 32, 53, 32, 51, 10]⟩, .string ⟨#[54, 10]⟩, .string ⟨#[54, 32, 52, 32, 50, 10]⟩, .string ⟨#[51, 10]⟩, .string ⟨#[49, 10]⟩, .string ⟨#[48, 10]⟩, .string ⟨#[108, 48, 32, 113, 10]⟩, .string ⟨#[105, 48, 32, 105, 110, 10]⟩, .string ⟨#[111, 48, 32, 111, 117, 116, 10]⟩, .string ⟨#[99, 10]⟩, .string ⟨#[97, 110, 121, 10]⟩, .string ⟨#[10]⟩, .string ⟨#[99, 48, 32, 99, 111, 110, 10]⟩, .string ⟨#[102, 48, 32, 102, 97, 105, 114]⟩, .string ⟨#[108, 48, 32, 113, 32, 114, 10]⟩, .string ⟨#[120, 48, 32, 121, 10]⟩] 9)) w.heap.size 9 lineCells := Blk.new w _ _
 have hU2 := hU.below lo (Nat.le_refl _)
 go_enter Tryz.func16, Tryz.ntmps16
 go_wp2
 generalize w.alloc (Obj.cells #[.string ⟨#[97, 97, 103, 32, 49, 32, 48, 32, 49, 32, 48, 32, 48, 10]⟩, .string ⟨#[97, 97, 103, 32, 51, 32, 49, 32, 49, 32, 49, 32, 49, 10]⟩, .string ⟨#[97, 97, 103, 32, 50, 32, 49, 32, 49, 32, 48, 32, 48, 32, 49, 32, 49, 32, 48, 32, 49, 10]⟩, .string ⟨#[50, 10]⟩, .string ⟨#[52, 32, 53, 10]⟩, .string ⟨#[50, 32, 51, 10]⟩, .string ⟨#[52, 32, 53, 32, 49, 10]⟩, .string ⟨#[52, 32, 53, 32, 52, 10]⟩, .string ⟨#[50, 32, 51, 32, 50, 10]⟩, .string ⟨#[50, 32, 51, 32, 48, 10]⟩, .string ⟨#[52, 32, 53, 32, 51, 10]⟩, .string ⟨#[54, 10]⟩, .string ⟨#[54, 32, 52, 32, 50, 10]⟩, .string ⟨#[51, 10]⟩, .string ⟨#[49, 10]⟩, .string ⟨#[48, 10]⟩, .string ⟨#[108, 48, 32, 113, 10]⟩, .string ⟨#[105, 48, 32, 105, 110, 10]⟩, .string ⟨#[111, 48, 32, 111, 117, 116, 10]⟩, .string ⟨#[99, 10]⟩, .string ⟨#[97, 110, 121, 10]⟩, .string ⟨#[10]⟩, .string ⟨#[99, 48, 32, 99, 111, 110, 10]⟩, .string ⟨#[102, 48, 32, 102, 97, 105, 114]⟩, .string ⟨#[108, 48, 32, 113, 32, 114, 10]⟩, .string ⟨#[120, 48, 32, 121, 10]⟩] 9) = V at *
 clear hU
 go_loopw [4, 5, 6] (fun t i m W => ∃ k : Nat, k ≤ zs.length ∧ k ≤ 14 ∧ i = .int .i64 (k : Int) ∧ t = .string ⟨(lnsS zs k).toArray⟩ ∧ V = W) (fun _ i _ _ => 14 - (intOf i).toNat)
 case atStart => exact ⟨0, Nat.zero_le _, Nat.zero_le _, rfl, rfl, rfl⟩
 obtain ⟨k, hk, hk20, rfl, rfl, rfl⟩ := hrel
 by_cases hlt : k < zs.length
 ·
  have dl : decide ((k : Int) < (zs.length : Int)) = true := decide_eq_true (by omega)
  by_cases h20 : k < 14
  ·
   have d20 : decide ((k : Int) < 14) = true := decide_eq_true (by omega)
   obtain ⟨b, off, rfl, _, g1, g2, g3⟩ := hU2 k hlt
   have hix := ixU8 b off zs.length c k hml2 hlt
   have hgd : zs.getD k 0 = zs[k] := by rw [List.getD_eq_getElem?_getD, List.getElem?_eq_getElem hlt]; rfl
   have HT : Hid (lnsS zs (k + 1) = lnsS zs k ++ linesL.getD (lineNo k zs[k]) []) := by
    unfold Hid
    rw [lnsS, hgd]
   have hsl := lns_len zs k
   generalize zs[k] = z at *
   clear hgd
   have hno := lineNo_lt k z
   have ck := (hB.cell (lineNo k z)).trans (lineCells_get _ hno)
   have hx0 := ixS26 w.heap.size (lineNo k z) hno
   have hps := line_short (lineNo k z)
   have HNO : Hid (lineNo k z = if k = 0 ∧ z < 200 then z.toNat % 3 else z.toNat % 26) := rfl
   generalize lineNo k z = r at *
   generalize linesL.getD r [] = x at *
   have hadd := add_bs (lnsS zs k) x (by omega)
   generalize lnsS zs k = u at *
   obtain ⟨m', rfl⟩ : ∃ m' : Nat, z = (m' : Int) := ⟨z.toNat, by omega⟩
   rw [Int.toNat_natCast] at HNO
   by_cases h0 : k = 0
   ·
    subst h0
    have g1' : V.cell? ⟨b, off, none⟩ = some (.int .u8 (m' : Int)) := g1
    have hix' : ∀ W, (Instr.indexAt 37 (.slice (some ⟨b, off, none⟩) zs.length c) (.int .i64 0)).run Tryz.prog W = .ok (.pointer (some ⟨b, off, none⟩)) W := hix
    by_cases hz : (m' : Int) < 200
    ·
     have e : (m' : Int).tmod 3 = (r : Int) := by
      have := HNO.out
      rw [if_pos ⟨rfl, hz⟩] at this
      rw [this, Int.tmod_eq_emod_of_nonneg (Int.natCast_nonneg _)]
      exact (Int.natCast_emod _ _).symm
     have dz : decide ((m' : Int) < 200) = true := decide_eq_true hz
     go_wp2
     go_roundw
     case rel => exact ⟨1, by omega, by omega, by go_num, by rw [HT.out], trivial⟩
     case measure => simp [intOf]
    have e : (m' : Int).tmod 26 = (r : Int) := by
     have := HNO.out
     rw [if_neg (fun h => hz h.2)] at this
     rw [this, Int.tmod_eq_emod_of_nonneg (Int.natCast_nonneg _)]
     exact (Int.natCast_emod _ _).symm
    have dz : decide ((m' : Int) < 200) = false := decide_eq_false hz
    go_wp2
    go_roundw
    case rel => exact ⟨1, by omega, by omega, by go_num, by rw [HT.out], trivial⟩
    case measure => simp [intOf]
   have e : (m' : Int).tmod 26 = (r : Int) := by
    have := HNO.out
    rw [if_neg (fun h => h0 h.1)] at this
    rw [this, Int.tmod_eq_emod_of_nonneg (Int.natCast_nonneg _)]
    exact (Int.natCast_emod _ _).symm
   have dk : ((k : Int) == 0) = false := by simp; omega
   go_wp2
   go_roundw
   case rel => exact ⟨k + 1, by omega, by omega, by go_num, by rw [HT.out], trivial⟩
   case measure => simp [intOf]; omega
  obtain rfl : k = 14 := by omega
  have HP : Hid (textS zs = lnsS zs 14) := by
   unfold Hid textS
   rw [Nat.min_eq_right (by omega)]
  generalize lnsS zs 14 = u at *
  go_wp2
  go_ret
  exact ⟨by rw [HP.out]; rfl, lo⟩
 have dl : decide ((k : Int) < (zs.length : Int)) = false := decide_eq_false (by omega)
 have HP : Hid (textS zs = lnsS zs k) := by
  unfold Hid textS
  rw [show min zs.length 14 = k by omega]
 generalize lnsS zs k = u at *
 go_wp2
 go_ret
 exact ⟨by rw [HP.out]; rfl, lo⟩
end Go.Proofs.YtpejilhdhkmcjaaGreatDoor
