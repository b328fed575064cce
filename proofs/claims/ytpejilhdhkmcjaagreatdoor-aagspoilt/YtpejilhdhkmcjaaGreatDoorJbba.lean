/- The rows of layer 5: what the row's condition says of the library's variables; the wrap that hands on the world's shape too. -/
import Derived.Test.YtpejilhdhkmcjaaGreatDoorJbAl
import Derived.Test.YtpejilhdhkmcjaaGreatDoorJbat
import Derived.Test.YtpejilhdhkmcjaaGreatDoorJbag
import Derived.Test.YtpejilhdhkmcjaaGreatDoorJbah
import Derived.Test.YtpejilhdhkmcjaaGreatDoorTie
import Derived.Test.YtpejilhdhkmcjaaGreatDoorCards
import Derived.ProofKit
import Derived.LaidMore
import Derived.OpenShut
import Derived.ShutString
import Derived.Lib.LaidTab
import Derived.Stop.Joined
import Derived.SevenTiedAt
import Derived.ChangeMaps5
import Derived.Deep.Slices
import Derived.Lib.SmallJoins
import Derived.HandedShaped
import Derived.Shelf.Vars
import Derived.Lay
import Derived.Test.YtpejilhdhkmcjaaGreatDoorJbay
import Derived.Test.YtpejilhdhkmcjaaGreatDoorJbav
import Derived.Test.YtpejilhdhkmcjaaGreatDoorJbam
import Derived.Test.YtpejilhdhkmcjaaGreatDoorJbaz
namespace Go.Proofs.YtpejilhdhkmcjaaGreatDoor
section
open Go.RowKit
variable {H : Type} {enc : TypeId × Value → H}
theorem handed_and_shaped {a : Assume} {C : Checked} {os : Os} {f : FuncId} {fn : Func} {s : ChangeSpec} {conds : List PathCond} {apart fresh handsOn again : Bool} {X : World → Array Value → Prop}
  (hX : ∀ (w w' : World) (args : Array Value), w.heap = w'.heap → X w args → X w' args)
  (own : ownKnob C.prog.godebug = none) (started : os.Started) (noInit : C.prog.inits.idxOf? f = none) (hfn : C.prog.funcs[f]? = some fn)
  (witness : ∃ (w : World) (tape : Tape) (i : Input), w.os = os ∧ (w.forCall tape i).Shaped C.prog ∧ i.vars = [] ∧ Input.okWide C.prog (w.forCall tape i) .any w.heap.size f i ∧
   ((s.pre enc C.prog fn conds apart (w.forCall tape i).memory i.args ∧ X (w.forCall tape i).memory i.args) ∧ sizedMet enc C.prog fn (OpenSpec.ofChange s) apart (w.forCall tape i).memory i.args) ∧ a.holds C.prog (lone (Frame.enter C.prog f i.args .normal) [] (w.forCall tape i)))
  (contract : ∀ (W : World) (base : Nat) (args : Array Value) (ds gs : List (DataW H)) (before : List MemPlace),
   (∀ (j : Nat) t v, fn.params[j]? = some t → args[j]? = some v → Value.okWide C.prog W .any base t v) →
   DataW.Whole enc C.prog fn.params.toList s.vars apart W args.toList ds gs before →
   conds.all (PathCond.test C.prog ⟨fn.params.toList, ds, s.plain.varTypes C.prog, gs⟩) = true →
   (DataW.weightsEach C.prog (fn.params.toList ++ s.plain.varTypes C.prog) (ds ++ gs)).all (· ≤ reachBytes) = true → X W args →
   W.ShapedOpen C.prog →
   a.holds C.prog (lone (Frame.enter C.prog f args .normal) [] W) →
   Calls C.prog f args W fun e W' => ∃ v, e = .returned v ∧ s.post enc C.prog fn apart fresh handsOn again W args v W') :
  ReturnsInHanded a C os f .any (fun w args => (s.pre enc C.prog fn conds apart w args ∧ X w args) ∧ sizedMet enc C.prog fn (OpenSpec.ofChange s) apart w args) (s.post enc C.prog fn apart fresh handsOn again) := by
 refine returnsInHanded_of_calls own started noInit witness ?_
 intro w tape i _ hsh _ hok hpre hholds
 obtain ⟨_, _, _, fn', hfn', _, _, _, _, hval⟩ := hok
 have e : fn' = fn := Option.some.inj (hfn'.symm.trans hfn)
 subst e
 obtain ⟨⟨⟨ds, gs, before, hw, hc⟩, hx⟩, hz⟩ := hpre
 have hw' := DataW.Whole.of_heap (w' := w.forCall tape i) (by rfl) hw
 refine (contract (w.forCall tape i) w.heap.size i.args ds gs before hval hw' hc (hz.weights hw) (hX _ _ _ (by rfl) hx) hsh hholds).mono fun e W' ⟨v, he, hp⟩ => ?_
 subst he
 exact ChangeSpec.post_blind hp
end
section
open Go.ChangeMaps Go.ChangeShapes Go.WideShapes Go.ChangeAt Go.RowKit
def laid2 : List (String × DataW Unit) := [("math/bits.deBruijn32tab", Rows.laid_math_bits_deBruijn32tab), ("math/bits.deBruijn64tab", Rows.laid_math_bits_deBruijn64tab), ("internal/strconv.uint64pow10", Rows.laid_internal_strconv_uint64pow10), ("unicode/utf8.acceptRanges", Rows.laid_unicode_utf8_acceptRanges), ("strconv.ErrRange", Rows.laid_strconv_ErrRange), ("strconv.ErrSyntax", Rows.laid_strconv_ErrSyntax), ("unicode/utf8.first", Rows.laid_unicode_utf8_first)]
set_option maxRecDepth 100000 in
theorem door_met (os : Os) (args : Array Value) : laidMetH Tryz.prog laid2 ((World.laidAll Tryz.prog os laid2).forCall (fun _ _ => 0) ⟨#[], args, []⟩).memory := by
 rw [MakeChecks.laidMetH_plain _ _ _ (by kernel_rfl)]
 exact laidMet_laidAll _ (by kernel_rfl) (by kernel_rfl)
theorem gPow : Tryz.prog.globalNamed "internal/strconv.uint64pow10" = some 0 := by kernel_rfl
theorem gErrR : Tryz.prog.globalNamed "strconv.ErrRange" = some 2 := by kernel_rfl
theorem gErrS : Tryz.prog.globalNamed "strconv.ErrSyntax" = some 1 := by kernel_rfl
theorem gAcc : Tryz.prog.globalNamed "unicode/utf8.acceptRanges" = some 7 := by kernel_rfl
theorem tPow : (Tryz.prog.globals[0]?).map (·.type) = some 180 := by kernel_rfl
theorem tErrR : (Tryz.prog.globals[2]?).map (·.type) = some 145 := by kernel_rfl
theorem tErrS : (Tryz.prog.globals[1]?).map (·.type) = some 145 := by kernel_rfl
theorem cU64 : Tryz.prog.cellsOf 153 = 1 := by kernel_rfl
theorem cPow : Tryz.prog.cellsOf 180 = 20 := by kernel_rfl
theorem iface_cell {H : Type} {enc : TypeId × Value → H} {W : World} {base : Nat} {spare : Nat → Bool} {held : Bool} {fuel : Nat} {t : TypeId} {ms : Array (String × TypeId)} {cs : List Value} {x : DataW H × List MemPlace}
  (ht : Tryz.prog.underlying t = some (.interface ms)) (h : DataW.trod enc Tryz.prog W base spare held fuel t cs = some x) : ∃ ev, cs = [ev] ∧ (ev = .nilIface ∨ ∃ te pe, ev = .iface te pe) := by
 cases fuel with
 | zero => simp [DataW.trod] at h
 | succ fuel =>
  rcases cs with _ | ⟨c, _ | ⟨c', r⟩⟩
  ·
   simp [DataW.trod, ht] at h
  ·
   cases c
   case nilIface => exact ⟨_, rfl, Or.inl rfl⟩
   case iface u v => exact ⟨_, rfl, Or.inr ⟨_, _, rfl⟩⟩
   all_goals simp [DataW.trod, ht] at h
  simp [DataW.trod, ht] at h
theorem var_lt {P : Program} {w : World} {n : String} {g : Nat} {cs : Array Value} (hg : P.globalNamed n = some g) (h : w.var? P n = some cs) : g < w.heap.size := by
 simp only [World.var?, hg, Option.bind_some] at h
 split at h
 ·
  rename_i e
  exact (Array.getElem?_eq_some_iff.1 e).1
 cases h
theorem of_laid {W : World} (hsh : W.ShapedOpen Tryz.prog) (h : laidMetH Tryz.prog laid2 W) : Amb W.heap.size W := by
 rw [MakeChecks.laidMetH_plain _ _ _ (by kernel_rfl)] at h
 obtain ⟨ps, ⟨g0, t0, cs0, f0, p0, q0, hg0, ht0, hv0, hd0, ⟨g1, t1, cs1, f1, p1, q1, hg1, ht1, hv1, hd1, ⟨g2, t2, cs2, f2, p2, q2, hg2, ht2, hv2, hd2, ⟨g3, t3, cs3, f3, p3, q3, hg3, ht3, hv3, hd3, ⟨g4, t4, cs4, f4, p4, q4, hg4, ht4, hv4, hd4, ⟨g5, t5, cs5, f5, p5, q5, hg5, ht5, hv5, hd5, _⟩, _⟩, _⟩, _⟩, _⟩, _⟩, _⟩ := h
 clear hd0 hd1 hd3
 obtain rfl := Option.some.inj (gPow.symm.trans hg2)
 obtain rfl := Option.some.inj (tPow.symm.trans ht2)
 obtain rfl := Option.some.inj (gErrR.symm.trans hg4)
 obtain rfl := Option.some.inj (tErrR.symm.trans ht4)
 obtain rfl := Option.some.inj (gErrS.symm.trans hg5)
 obtain rfl := Option.some.inj (tErrS.symm.trans ht5)
 have hN : cs2.toList = Lib.pow10Tab.map (Value.int .u64) := Lib.cells_of_tab Tryz.underlying180 Tryz.underlying153 cU64 cPow hd2
 have htab : Lib.TabIs Tryz.prog W "internal/strconv.uint64pow10" .u64 Lib.pow10Tab := by
  unfold Lib.TabIs
  rw [hv2, ← hN]
 have one : ∀ (g : Nat) (n : String) (cs : Array Value), Tryz.prog.globalNamed n = some g → W.var? Tryz.prog n = some cs → ∀ (x : DataW Unit × List MemPlace) (f : Nat), (∃ (base : Nat) (enc : TypeId × Value → Unit) (spare : Nat → Bool) (held : Bool), DataW.trod enc Tryz.prog W base spare held f 145 cs.toList = some x) → ∃ ev, W.cell? ⟨g, 0, none⟩ = some ev ∧ (ev = .nilIface ∨ ∃ te pe, ev = .iface te pe) := by
  intro g n cs hg hv x f ⟨base, enc, spare, held, hd⟩
  obtain ⟨ev, he, hk⟩ := iface_cell Tryz.underlying145 hd
  refine ⟨ev, ?_, hk⟩
  have := World.var?_cell hg hv 0
  rw [this, ← Array.getElem?_toList, he]
  rfl
 have hml : ∃ m, W.cell? ⟨3, 0, none⟩ = some (.int .i64 m) :=
  cell_of_shapedOpen_int (t := 3) (zero := #[.int .i64 0]) hsh (of_decide_eq_true (by kernel_rfl)) (by kernel_rfl) rfl (by kernel_rfl) (by kernel_rfl) Tryz.underlying3
 have h8 : 8 ≤ W.heap.size := by
  have h3 : g3 = 7 := Option.some.inj (hg3.symm.trans gAcc)
  have := var_lt hg3 hv3
  omega
 exact ⟨Nat.le_refl _, h8, hml, one _ _ _ gErrS hv5 _ _ ⟨_, _, _, _, hd5⟩, one _ _ _ gErrR hv4 _ _ ⟨_, _, _, _, hd4⟩, Lib.tabBelow_of_tabIs htab⟩
end
end Go.Proofs.YtpejilhdhkmcjaaGreatDoor
/- How []uint8 is opened. -/
namespace Go.Proofs.YtpejilhdhkmcjaaGreatDoor
section
open Go.RowKit
end
section
open Go.ChangeMaps Go.ChangeShapes Go.WideShapes Go.ChangeAt Go.RowKit Go.Deep Go.Joins Go.WideElems
section
variable {H : Type} {enc : TypeId × Value → H} {W : World} {base : Nat} {spare : Nat → Bool} {held : Bool}
end

end
end Go.Proofs.YtpejilhdhkmcjaaGreatDoor
/- Texts of few lines. -/
namespace Go.Proofs.YtpejilhdhkmcjaaGreatDoor
open Go.RowKit

theorem add_bs (u x : Ag.Bs) (h : u.length + x.length ≤ 1000000000) (w : World) : (Op.stringOp .add (⟨u.toArray⟩ : ByteArray) ⟨x.toArray⟩).run Tryz.prog w = .ok (.string ⟨(u ++ x).toArray⟩) w := by
 have e1 : (⟨u.toArray⟩ : ByteArray).size = u.length := by simp [ByteArray.size]
 have e2 : (⟨x.toArray⟩ : ByteArray).size = x.length := by simp [ByteArray.size]
 rw [run_string_add_sum w _ _ (by rw [e1, e2]; omega)]
 refine congrArg (fun s => Result.ok (Value.string s) w) ?_
 apply ByteArray.ext
 simp
end Go.Proofs.YtpejilhdhkmcjaaGreatDoor
/- The document's Digits. -/
namespace Go.Proofs.YtpejilhdhkmcjaaGreatDoor
open Go.RowKit

theorem add_bsv (u x : Ag.Bs) (h : u.length + x.length ≤ 1000000000) (w : World) : (Op.stringOp .add (bsv u) (bsv x)).run Tryz.prog w = .ok (.string (bsv (u ++ x))) w := add_bs u x h w
theorem one_byteR (g c : Nat) (b : UInt8) (w : World) (h : Blk w g 5 #[.int .u8 (b.toNat : Int)]) : (convert 37 9 (.slice (some ⟨g, 0, none⟩) 1 c)).run Tryz.prog w = .ok (.string (bsv [b])) w := by
 refine run_convert_bytes_back w _ _ _ ⟨g, 0, none⟩ c [b] Tryz.underlying37 Tryz.underlying5 Tryz.underlying9 ?_
 exact Lib.bytes_of_row (cur := #[.int .u8 (b.toNat : Int)]) (l := [b]) h rfl
set_option maxRecDepth 10000 in
set_option maxHeartbeats 4000000 in
theorem digits_any (n : Nat) : ∀ (w : World), n ≤ 999999 → Calls Tryz.prog 19 #[.int .i64 (n : Int)] w fun e w' => e = .returned (.string (bsv (Ag.num n))) ∧ Below w.heap.size w w' := by
 induction n using Nat.strongRecOn with
 | ind n ih =>
  intro w hn
  have hb : ((UInt8.ofNat (48 + n % 10)).toNat : Int) = 48 + (n : Int) % 10 := by
   have := Ag.ofNat_dig (d := n % 10) (by omega)
   omega
  obtain ⟨b, hbe⟩ : ∃ b, b = UInt8.ofNat (48 + n % 10) := ⟨_, rfl⟩
  rw [← hbe] at hb
  have hbk := Blk.new w 5 #[.int .u8 (b.toNat : Int)]
  have lo := lowAlloc w (Obj.cells #[.int .u8 (b.toNat : Int)] 5)
  have hcv := one_byteR w.heap.size 1 b _ hbk
  rw [hb] at hbk lo hcv
  have HIH := Lib.hid ih
  clear ih hb
  by_cases h10 : n < 10
  ·
   have dl : decide ((n : Int) < 10) = true := decide_eq_true (by omega)
   have HE : Hid (Ag.num n = [b]) := by unfold Hid; rw [hbe, Ag.num_small h10, Nat.mod_eq_of_lt h10]
   have dl2 : decide (n < 10) = true := decide_eq_true (by omega)
   clear h10 hbe
   go_enter Tryz.func19, Tryz.ntmps19
   go_wp2
   go_ret
   exact ⟨by rw [HE.out]; rfl, lo⟩
  have dl : decide ((n : Int) < 10) = false := decide_eq_false (by omega)
  have HE : Hid (Ag.num n = Ag.num (n / 10) ++ [b]) := by unfold Hid; rw [hbe]; exact Ag.num_big h10
  have dl2 : decide (n < 10) = false := decide_eq_false (by omega)
  clear hbe
  have hnl : (Ag.num (n / 10)).length ≤ 6 := Ag.num_len 5 (n / 10) (by omega)
  have hadd := add_bsv (Ag.num (n / 10)) [b] (by simp; omega)
  have hq : ((n : Int).tdiv 10) = ((n / 10 : Nat) : Int) := by
   rw [Int.tdiv_eq_ediv_of_nonneg (by omega)]
   omega
  have HQ := Lib.hid hq
  go_enter Tryz.func19, Tryz.ntmps19
  go_wp2_with fail
  have hlt : n / 10 < n := by omega
  refine (HIH.out (n / 10) hlt _ (by omega)).mono ?_
  rintro e w2 ⟨rfl, hb2⟩
  replace lo := lo.trans (hb2.mono lo.size)
  clear hbk hcv hb2
  go_wp2
  go_ret
  exact ⟨by rw [HE.out]; rfl, lo⟩
end Go.Proofs.YtpejilhdhkmcjaaGreatDoor
/- The document's text of a circuit: columns. -/
namespace Go.Proofs.YtpejilhdhkmcjaaGreatDoor
open Go.RowKit

theorem colP_snoc (zs : List Int) (z : Int) : Ag.colP (zs ++ [z]) = Ag.colP zs ++ (Ag.num z.toNat ++ [10]) := by
 induction zs with
 | nil => simp [Ag.colP, Ag.lineOf, Ag.spell]
 | cons a t ih =>
  rw [List.cons_append, Ag.colP, Ag.colP, ih, List.append_assoc]
set_option maxRecDepth 10000 in
set_option maxHeartbeats 4000000 in
theorem rcol_any (A : Option Addr) (c : Nat) (zs : List Int) (w : World) (hl : zs.length ≤ 2000) (hz : ∀ z ∈ zs, 0 ≤ z ∧ z ≤ 999999) (hV : Vs w w.heap.size A (iv zs)) :
  Calls Tryz.prog 32 #[.slice A zs.length c] w fun e w' => e = .returned (.string (bsv (Ag.colP zs))) ∧ Below w.heap.size w w' := by
 have HZ := Lib.hid hz
 clear hz
 go_enter Tryz.func32, Tryz.ntmps32
 go_wp2
 go_loopw [3, 4] (fun t i wr => ∃ k : Nat, k ≤ zs.length ∧ i = .int .i64 (k : Int) ∧ t = .string (bsv (Ag.colP (zs.take k))) ∧ Below w.heap.size w wr) (fun _ i _ => zs.length - (intOf i).toNat)
 case atStart => exact ⟨0, Nat.zero_le _, rfl, rfl, Below.refl _ _⟩
 obtain ⟨k, hk, rfl, rfl, lo⟩ := hrel
 have hsl := Ag.col_len (zs.take k) (fun z hz => HZ.out z (List.mem_of_mem_take hz))
 rw [List.length_take] at hsl
 by_cases hlt : k < zs.length
 ·
  have dl : decide ((k : Int) < (zs.length : Int)) = true := decide_eq_true (by omega)
  obtain ⟨b, off, rfl, _, g1⟩ := (hV.below lo (Nat.le_refl _)) k (by simpa using hlt)
  have g1' : wr.cell? ⟨b, off + k, none⟩ = some (.int .i64 zs[k]) := by simpa using g1
  have hix := ixI2 b off zs.length c k (by omega) hlt
  have HT : Hid (Ag.colP (zs.take (k + 1)) = Ag.colP (zs.take k) ++ (Ag.num (zs[k]).toNat ++ [10])) := by
   unfold Hid
   rw [List.take_succ_eq_append_getElem hlt, colP_snoc]
  have hzk := HZ.out zs[k] (List.getElem_mem _)
  clear g1
  generalize zs[k] = z at *
  obtain ⟨n, rfl⟩ : ∃ n : Nat, z = (n : Int) := ⟨z.toNat, by omega⟩
  rw [Int.toNat_natCast] at HT
  have hnl := Ag.num_len 5 n (by omega)
  have HDG := Lib.hid (digits_any n wr (by omega))
  have ha1 := add_bsv (Ag.colP (zs.take k)) (Ag.num n) (by omega)
  have ha2 := add_bsv (Ag.colP (zs.take k) ++ Ag.num n) [10] (by simp; omega)
  rw [show bsv [10] = ⟨#[10]⟩ from rfl, List.append_assoc] at ha2
  generalize Ag.colP (zs.take k) = u at *
  go_wp2_with fail
  refine HDG.out.mono ?_
  rintro e w2 ⟨rfl, hb2⟩
  have lo2 := lo.trans (hb2.mono lo.size)
  clear HDG g1' hix hb2
  go_wp2
  go_roundw
  case rel => exact ⟨k + 1, by omega, by go_num, by rw [HT.out], lo2⟩
  case measure => simp [intOf]; omega
 obtain rfl : k = zs.length := by omega
 have dl : decide ((zs.length : Int) < (zs.length : Int)) = false := decide_eq_false (by omega)
 rw [List.take_length]
 obtain ⟨u, hu⟩ : ∃ u, u = Ag.colP zs := ⟨_, rfl⟩
 rw [← hu]
 have HU := Lib.hid hu
 clear hu
 go_wp2
 go_ret
 exact ⟨by rw [← HU.out]; rfl, lo⟩
end Go.Proofs.YtpejilhdhkmcjaaGreatDoor
/- The document's text of a circuit: a latch. -/
namespace Go.Proofs.YtpejilhdhkmcjaaGreatDoor
open Go.RowKit

set_option maxRecDepth 10000 in
set_option maxHeartbeats 4000000 in
theorem rlat_text (c : Cir) (i : Nat) (w : World) (hM : CirM w w.heap.size c) (hi : i < c.ls.length) (hll : c.ls.length ≤ 2000) (hn : 0 ≤ c.n ∧ c.n ≤ 2000) (hq : (0 ≤ c.ls[i].1 ∧ c.ls[i].1 ≤ 999999) ∧ 0 ≤ c.ls[i].2 ∧ c.ls[i].2 ≤ 2) :
  Calls Tryz.prog 31 #[.agg #[.int .i64 c.n, .slice c.aL c.ls.length c.cL, .slice c.aG c.gs.length c.cG, .slice c.aO c.os.length c.cO, .slice c.aB c.bs.length c.cB, .slice c.aC c.cs.length c.cC, .slice c.aF c.fs.length c.cF, .slice c.aN c.ns.length c.cN], .int .i64 (i : Int)] w fun e w' => e = .returned (.string (bsv (Ag.latP [] (2 * (c.n.toNat + i + 1)) c.ls[i]))) ∧ Below w.heap.size w w' := by
 obtain ⟨b, off, hA, hb, g1, g2⟩ := hM.hl i hi
 have lo := lowAlloc w (Obj.cells #[.int .i64 c.n, .slice c.aL c.ls.length c.cL, .slice c.aG c.gs.length c.cG, .slice c.aO c.os.length c.cO, .slice c.aB c.bs.length c.cB, .slice c.aC c.cs.length c.cC, .slice c.aF c.fs.length c.cF, .slice c.aN c.ns.length c.cN] 29)
 have hbx := Blk.new w 29 #[.int .i64 c.n, .slice c.aL c.ls.length c.cL, .slice c.aG c.gs.length c.cG, .slice c.aO c.os.length c.cO, .slice c.aB c.bs.length c.cB, .slice c.aC c.cs.length c.cC, .slice c.aF c.fs.length c.cF, .slice c.aN c.ns.length c.cN]
 have hlt : w.heap.size < (w.alloc (Obj.cells #[.int .i64 c.n, .slice c.aL c.ls.length c.cL, .slice c.aG c.gs.length c.cG, .slice c.aO c.os.length c.cO, .slice c.aB c.bs.length c.cB, .slice c.aC c.cs.length c.cC, .slice c.aF c.fs.length c.cF, .slice c.aN c.ns.length c.cN] 29)).heap.size := by simp
 replace g1 := (lo.cell (p := ⟨b, off + i * 2, none⟩) hb).trans g1
 replace g2 := (lo.cell (p := ⟨b, off + i * 2 + 1, none⟩) hb).trans g2
 have hix := ixLt2 b off c.ls.length c.cL i (by omega) hi
 rw [hA] at hbx lo hlt g1 g2
 rw [hA]
 obtain ⟨n, hnn⟩ := Int.eq_ofNat_of_zero_le hn.1
 have hn2 := hn.2
 have HON : Hid (c.n.toNat = n) := by unfold Hid; rw [hnn]; rfl
 rw [HON.out]
 rw [hnn] at hbx lo hlt hn2 g1 g2
 rw [hnn]
 generalize c.ls[i] = q at *
 obtain ⟨x, r⟩ := q
 simp only at g1 g2 hq
 obtain ⟨⟨hx0, hx1⟩, hr0, hr1⟩ := hq
 obtain ⟨m, rfl⟩ : ∃ m : Nat, x = (m : Int) := ⟨x.toNat, by omega⟩
 have hml := Ag.num_len 5 m (by omega)
 have hol := Ag.num_len 5 (2 * (n + i + 1)) (by omega)
 have HD1 := Lib.hid (fun V => digits_any m V (by omega))
 have HD2 := Lib.hid (fun V => digits_any (2 * (n + i + 1)) V (by omega))
 have hown : ((2 * (n + i + 1) : Nat) : Int) = 2 * ((n : Int) + (i : Int) + 1) := by omega
 rw [hown] at HD2
 clear hown
 clear hM hb hn HON hnn hA
 have a10 := add_bsv (Ag.num m) [10] (by simp; omega)
 have a31 := add_bsv (Ag.num m) [32, 49] (by simp; omega)
 have a310 := add_bsv (Ag.num m ++ [32, 49]) [10] (by simp; omega)
 have a32 := add_bsv (Ag.num m) [32] (by simp; omega)
 have a3o := add_bsv (Ag.num m ++ [32]) (Ag.num (2 * (n + i + 1))) (by simp; omega)
 have a3o10 := add_bsv (Ag.num m ++ 32 :: Ag.num (2 * (n + i + 1))) [10] (by simp; omega)
 rw [show bsv [10] = ⟨#[10]⟩ from rfl] at a10 a310 a3o10
 rw [show bsv [32] = ⟨#[32]⟩ from rfl] at a32
 rw [show bsv [32, 49] = ⟨#[32, 49]⟩ from rfl] at a31
 have HE : Hid (Ag.latP [] (2 * (n + i + 1)) ((m : Int), r) = if r = 1 then Ag.num m ++ [32, 49] ++ [10] else if r = 2 then Ag.num m ++ [32] ++ Ag.num (2 * (n + i + 1)) ++ [10] else Ag.num m ++ [10]) := by
  unfold Hid Ag.latP Ag.lineOf
  simp only [Int.toNat_natCast, List.nil_append]
  by_cases h1 : r = 1
  ·
   rw [if_pos h1, if_pos h1, Ag.spell_two]
   simp [Ag.spell, Ag.num_small]
  rw [if_neg h1, if_neg h1]
  by_cases h2 : r = 2
  ·
   rw [if_pos h2, if_pos h2, Ag.spell_two]
   simp [Ag.spell]
  rw [if_neg h2, if_neg h2]
  simp [Ag.spell]
 generalize Ag.num m = tm at *
 generalize Ag.num (2 * (n + i + 1)) = to_ at *
 rcases (show r = 0 ∨ r = 1 ∨ r = 2 by omega) with rfl | rfl | rfl
 ·
  skip
  go_enter Tryz.func31, Tryz.ntmps31
  go_upto_region 1 with fail
  generalize w.alloc (Obj.cells #[.int .i64 (n : Int), .slice (some ⟨b, off, none⟩) c.ls.length c.cL, .slice c.aG c.gs.length c.cG, .slice c.aO c.os.length c.cO, .slice c.aB c.bs.length c.cB, .slice c.aC c.cs.length c.cC, .slice c.aF c.fs.length c.cF, .slice c.aN c.ns.length c.cN] 29) = W at *
  have c0 := hbx.cell 0
  have c1 := hbx.cell 1
  simp only [zD, zE, zF] at c0 c1
  go_wp2_with fail
  refine (HD1.out _).mono ?_
  rintro e w2 ⟨rfl, hb2⟩
  have lo2 := lo.trans (hb2.mono lo.size)
  replace hbx := hbx.below hb2 hlt
  have hbW : b < W.heap.size := World.block_lt_of_cell? W ⟨b, off + i * 2, none⟩ g1
  replace g2 := (hb2.cell (p := ⟨b, off + i * 2 + 1, none⟩) hbW).trans g2
  clear c0 c1 g1 lo
  have c0 := hbx.cell 0
  have c1 := hbx.cell 1
  simp only [zD, zE, zF] at c0 c1
  go_wp2
  go_ret
  exact ⟨by rw [HE.out]; first | rfl | (simp; done) | (simp; rfl), lo2⟩
 ·
  skip
  go_enter Tryz.func31, Tryz.ntmps31
  go_upto_region 1 with fail
  generalize w.alloc (Obj.cells #[.int .i64 (n : Int), .slice (some ⟨b, off, none⟩) c.ls.length c.cL, .slice c.aG c.gs.length c.cG, .slice c.aO c.os.length c.cO, .slice c.aB c.bs.length c.cB, .slice c.aC c.cs.length c.cC, .slice c.aF c.fs.length c.cF, .slice c.aN c.ns.length c.cN] 29) = W at *
  have c0 := hbx.cell 0
  have c1 := hbx.cell 1
  simp only [zD, zE, zF] at c0 c1
  go_wp2_with fail
  refine (HD1.out _).mono ?_
  rintro e w2 ⟨rfl, hb2⟩
  have lo2 := lo.trans (hb2.mono lo.size)
  replace hbx := hbx.below hb2 hlt
  have hbW : b < W.heap.size := World.block_lt_of_cell? W ⟨b, off + i * 2, none⟩ g1
  replace g2 := (hb2.cell (p := ⟨b, off + i * 2 + 1, none⟩) hbW).trans g2
  clear c0 c1 g1 lo
  have c0 := hbx.cell 0
  have c1 := hbx.cell 1
  simp only [zD, zE, zF] at c0 c1
  go_wp2
  go_ret
  exact ⟨by rw [HE.out]; first | rfl | (simp; done) | (simp; rfl), lo2⟩
 skip
 go_enter Tryz.func31, Tryz.ntmps31
 go_upto_region 1 with fail
 generalize w.alloc (Obj.cells #[.int .i64 (n : Int), .slice (some ⟨b, off, none⟩) c.ls.length c.cL, .slice c.aG c.gs.length c.cG, .slice c.aO c.os.length c.cO, .slice c.aB c.bs.length c.cB, .slice c.aC c.cs.length c.cC, .slice c.aF c.fs.length c.cF, .slice c.aN c.ns.length c.cN] 29) = W at *
 have c0 := hbx.cell 0
 have c1 := hbx.cell 1
 simp only [zD, zE, zF] at c0 c1
 go_wp2_with fail
 refine (HD1.out _).mono ?_
 rintro e w2 ⟨rfl, hb2⟩
 have lo2 := lo.trans (hb2.mono lo.size)
 replace hbx := hbx.below hb2 hlt
 have hbW : b < W.heap.size := World.block_lt_of_cell? W ⟨b, off + i * 2, none⟩ g1
 replace g2 := (hb2.cell (p := ⟨b, off + i * 2 + 1, none⟩) hbW).trans g2
 clear c0 c1 g1 lo
 have c0 := hbx.cell 0
 have c1 := hbx.cell 1
 simp only [zD, zE, zF] at c0 c1
 go_wp2_with fail
 refine (HD2.out _).mono ?_
 rintro e w3 ⟨rfl, hb3⟩
 replace lo2 := lo2.trans (hb3.mono lo2.size)
 clear c0 c1 g2 hb3
 go_wp2
 go_ret
 exact ⟨by rw [HE.out]; first | rfl | (simp; done) | (simp; rfl), lo2⟩
end Go.Proofs.YtpejilhdhkmcjaaGreatDoor
/- The document's text of a circuit: the first line. -/
namespace Go.Proofs.YtpejilhdhkmcjaaGreatDoor
open Go.RowKit

/-- Numbers, each behind a blank. -/
def hdP (ns : List Nat) : Ag.Bs := ns.flatMap (fun x => 32 :: Ag.num x)
theorem hdP_snoc (ns : List Nat) (x : Nat) : hdP (ns ++ [x]) = hdP ns ++ (32 :: Ag.num x) := by simp [hdP]
theorem hdP_spell (ns : List Nat) (h : ns ≠ []) : hdP ns = 32 :: Ag.spell ns := by
 induction ns with
 | nil => exact absurd rfl h
 | cons a t ih =>
  cases t with
  | nil => simp [hdP, Ag.spell]
  | cons b t =>
   have := ih (by simp)
   rw [Ag.spell_two]
   simp only [hdP, List.flatMap_cons] at this ⊢
   rw [this]
   simp
theorem hdP_len (ns : List Nat) (h : ∀ x ∈ ns, x ≤ 2000) : (hdP ns).length ≤ 5 * ns.length := by
 induction ns with
 | nil => simp [hdP]
 | cons a t ih =>
  have h1 := Ag.num_len 3 a (by have := h a (by simp); omega)
  have h2 := ih (fun x hx => h x (by simp [hx]))
  simp only [hdP, List.flatMap_cons, List.length_append, List.length_cons] at h2 ⊢
  omega
theorem ixN9 (g k : Nat) (hk : k < 9) (w : World) : (Instr.indexAt 26 (.slice (some ⟨g, 0, none⟩) 9 9) (.int .i64 (k : Int))).run Tryz.prog w = .ok (.pointer (some ⟨g, k, none⟩)) w := by
 have h1 : (k : Int) < 9 := by omega
 go_simp
set_option maxRecDepth 10000 in
set_option maxHeartbeats 4000000 in
theorem rhead_text (c : Cir) (w : World) (h : Ag.PrintOk c) :
  Calls Tryz.prog 30 #[.agg #[.int .i64 c.n, .slice c.aL c.ls.length c.cL, .slice c.aG c.gs.length c.cG, .slice c.aO c.os.length c.cO, .slice c.aB c.bs.length c.cB, .slice c.aC c.cs.length c.cC, .slice c.aF c.fs.length c.cF, .slice c.aN c.ns.length c.cN]] w fun e w' => e = .returned (.string (bsv (32 :: Ag.lineOf (Ag.sizes c)))) ∧ Below w.heap.size w w' := by
 have lo := lowAlloc w (Obj.cells #[.int .i64 c.n, .slice c.aL c.ls.length c.cL, .slice c.aG c.gs.length c.cG, .slice c.aO c.os.length c.cO, .slice c.aB c.bs.length c.cB, .slice c.aC c.cs.length c.cC, .slice c.aF c.fs.length c.cF, .slice c.aN c.ns.length c.cN] 29)
 have hbx := Blk.new w 29 #[.int .i64 c.n, .slice c.aL c.ls.length c.cL, .slice c.aG c.gs.length c.cG, .slice c.aO c.os.length c.cO, .slice c.aB c.bs.length c.cB, .slice c.aC c.cs.length c.cC, .slice c.aF c.fs.length c.cF, .slice c.aN c.ns.length c.cN]
 have HSF := Lib.hid (Ag.sizes_facts h)
 have hall := h.all
 have h0 := h.n0
 have ho := h.o
 have hb := h.b
 have hc := h.c_
 have hf := h.f
 obtain ⟨n, hnn⟩ := Int.eq_ofNat_of_zero_le h.n0
 rw [hnn] at hall h0
 have HSZ : Hid (Ag.sizes c = [n + c.ls.length + c.gs.length, n, c.ls.length, c.os.length, c.gs.length, c.bs.length, c.cs.length, 0, c.fs.length]) := by
  unfold Hid Ag.sizes
  rw [hnn]
  rfl
 have HLN : Hid (hdP (Ag.sizes c) = 32 :: Ag.spell (Ag.sizes c)) := hdP_spell _ (by unfold Ag.sizes; simp)
 have HSN : Hid ((Ag.sizes c).length = 9) := by unfold Hid Ag.sizes; rfl
 generalize Ag.sizes c = sz at *
 rw [hnn] at hbx lo
 rw [hnn]
 clear hnn h
 go_enter Tryz.func30, Tryz.ntmps30
 go_upto_region 1 with fail
 generalize w.alloc (Obj.cells #[.int .i64 (n : Int), .slice c.aL c.ls.length c.cL, .slice c.aG c.gs.length c.cG, .slice c.aO c.os.length c.cO, .slice c.aB c.bs.length c.cB, .slice c.aC c.cs.length c.cC, .slice c.aF c.fs.length c.cF, .slice c.aN c.ns.length c.cN] 29) = W at *
 have c0 := hbx.cell 0
 have c1 := hbx.cell 1
 have c2 := hbx.cell 2
 have c3 := hbx.cell 3
 have c4 := hbx.cell 4
 have c5 := hbx.cell 5
 have c6 := hbx.cell 6
 have c7 := hbx.cell 7
 simp only [zD, zE, zF] at c0 c1 c2 c3 c4 c5 c6 c7
 clear hbx
 go_upto_region 3 with fail
 clear c0 c1 c2 c3 c4 c5 c6 c7
 have hrow := Blk.new W 3 #[.int .i64 ((n : Int) + c.ls.length + c.gs.length), .int .i64 (n : Int), .int .i64 (c.ls.length : Int), .int .i64 (c.os.length : Int), .int .i64 (c.gs.length : Int), .int .i64 (c.bs.length : Int), .int .i64 (c.cs.length : Int), .int .i64 0, .int .i64 (c.fs.length : Int)]
 have lo1 := lo.alloc lo.size (Obj.cells #[.int .i64 ((n : Int) + c.ls.length + c.gs.length), .int .i64 (n : Int), .int .i64 (c.ls.length : Int), .int .i64 (c.os.length : Int), .int .i64 (c.gs.length : Int), .int .i64 (c.bs.length : Int), .int .i64 (c.cs.length : Int), .int .i64 0, .int .i64 (c.fs.length : Int)] 3)
 have hgz : W.heap.size < (W.alloc (Obj.cells #[.int .i64 ((n : Int) + c.ls.length + c.gs.length), .int .i64 (n : Int), .int .i64 (c.ls.length : Int), .int .i64 (c.os.length : Int), .int .i64 (c.gs.length : Int), .int .i64 (c.bs.length : Int), .int .i64 (c.cs.length : Int), .int .i64 0, .int .i64 (c.fs.length : Int)] 3)).heap.size := by simp
 generalize W.alloc (Obj.cells #[.int .i64 ((n : Int) + c.ls.length + c.gs.length), .int .i64 (n : Int), .int .i64 (c.ls.length : Int), .int .i64 (c.os.length : Int), .int .i64 (c.gs.length : Int), .int .i64 (c.bs.length : Int), .int .i64 (c.cs.length : Int), .int .i64 0, .int .i64 (c.fs.length : Int)] 3) = W2 at *
 have HCL : Hid (∀ k (hk : k < sz.length), W2.cell? ⟨W.heap.size, k, none⟩ = some (.int .i64 (sz[k] : Int))) := by
  intro k hk
  have hsz := HSZ.out
  subst hsz
  rw [hrow.cell k]
  have hk9 : k < 9 := hk
  match k, hk9 with
  | 0, _ => simp
  | 1, _ => simp
  | 2, _ => simp
  | 3, _ => simp
  | 4, _ => simp
  | 5, _ => simp
  | 6, _ => simp
  | 7, _ => simp
  | 8, _ => simp
 generalize W.heap.size = g at *
 clear hrow HSZ hall h0 ho hb hc hf lo
 go_wp2
 go_loopw [5, 6] (fun t i wr => ∃ k : Nat, k ≤ 9 ∧ i = .int .i64 (k : Int) ∧ t = .string (bsv (hdP (sz.take k))) ∧ Below W2.heap.size W2 wr) (fun _ i _ => 9 - (intOf i).toNat)
 case atStart => exact ⟨0, Nat.zero_le _, rfl, rfl, Below.refl _ _⟩
 obtain ⟨k, hk, rfl, rfl, lx⟩ := hrel
 have hsl := hdP_len (sz.take k) (fun x hx => HSF.out x (List.mem_of_mem_take hx))
 rw [List.length_take] at hsl
 by_cases hlt : k < 9
 ·
  have dl : decide ((k : Int) < 9) = true := decide_eq_true (by omega)
  have hks : k < sz.length := by have := HSN.out; omega
  have g1 := (lx.cell (p := ⟨g, k, none⟩) hgz).trans (HCL.out k hks)
  have hix := ixN9 g k hlt
  have HT : Hid (hdP (sz.take (k + 1)) = hdP (sz.take k) ++ (32 :: Ag.num sz[k])) := by
   unfold Hid
   rw [List.take_succ_eq_append_getElem hks, hdP_snoc]
  have hzk := HSF.out sz[k] (List.getElem_mem _)
  generalize sz[k] = z at *
  have hnl := Ag.num_len 5 z (by omega)
  have HDG := Lib.hid (digits_any z wr (by omega))
  have ha1 := add_bsv (hdP (sz.take k)) [32] (by simp; omega)
  have ha2 := add_bsv (hdP (sz.take k) ++ [32]) (Ag.num z) (by simp; omega)
  rw [show bsv [32] = ⟨#[32]⟩ from rfl] at ha1
  rw [List.append_assoc] at ha2
  generalize hdP (sz.take k) = u at *
  go_wp2_with fail
  refine HDG.out.mono ?_
  rintro e w2 ⟨rfl, hb2⟩
  have lx2 := lx.trans (hb2.mono lx.size)
  clear HDG g1 hix hb2 hks
  go_wp2
  go_roundw
  case rel => exact ⟨k + 1, by omega, by go_num, by rw [HT.out], lx2⟩
  case measure => simp [intOf]; omega
 obtain rfl : k = 9 := by omega
 have HE : Hid (bsv (hdP (sz.take 9) ++ [10]) = bsv (32 :: Ag.lineOf sz)) := by
  unfold Hid
  rw [List.take_of_length_le (by have := HSN.out; omega), HLN.out]
  rfl
 have ha := add_bsv (hdP (sz.take 9)) [10] (by simp; omega)
 rw [show bsv [10] = ⟨#[10]⟩ from rfl] at ha
 generalize hdP (sz.take 9) = u at *
 go_wp2
 go_ret
 exact ⟨by rw [← HE.out]; rfl, lo1.trans (lx.mono lo1.size)⟩
end Go.Proofs.YtpejilhdhkmcjaaGreatDoor
