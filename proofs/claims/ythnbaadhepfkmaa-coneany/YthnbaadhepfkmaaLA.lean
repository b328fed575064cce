/- The walk of 'ConeAny'. -/
import Derived.Test.YthnbaadhepfkmaaRH
namespace Go.Proofs.Ythnbaadhepfkmaa
open Go.RowKit Go.Shelf

set_option maxRecDepth 100000 in
set_option maxHeartbeats 8000000 in
theorem coneAny_walk (nt : Int) (At : Option Addr) (ct : Nat) (tg : List (Int × Int)) (nf : Int) (Af : Option Addr) (cf : Nat) (fg : List (Int × Int)) (l : Int) (Ab : Option Addr) (cb : Nat) (by_ : List Int) (x : Int) (b : Bool) (w : World)
    (hgt : Gr w w.heap.size At tg) (hwt : Wf tg) (hmt : tg.length ≤ maxLen) (hgf : Gr w w.heap.size Af fg) (hwf : Wf fg) (hmf : fg.length ≤ maxLen) (_ : -9223372036854775808 ≤ l) (hx : l ≤ 9223372036854775807)
    (hV : Vs w w.heap.size Ab (iv by_) ∧ ∀ x ∈ by_, x ≤ 9223372036854775807) (hmb : by_.length ≤ maxLen) (_ : -9223372036854775808 ≤ x) (_ : x ≤ 9223372036854775807) :
    Calls Try.prog 3 #[.agg #[.int .i64 nt, .slice At tg.length ct], .agg #[.int .i64 nf, .slice Af fg.length cf], .int .i64 l, .slice Ab by_.length cb, .int .i64 x, .bool b] w fun e w' => e = .returned (.bool true) ∧ Below w.heap.size w w' := by
  have gT := (GX.new (n := nt) (c := ct) (l := tg.length) hgt 24).alloc (Obj.cells #[.int .i64 nf, .slice Af fg.length cf] 24)
  have lo0 : Below w.heap.size w (w.alloc (Obj.cells #[.int .i64 nt, .slice At tg.length ct] 24)) := (Below.refl _ _).alloc (Nat.le_refl _) _
  have gF := GX.new (n := nf) (c := cf) (l := fg.length) ((hgf.below lo0 (Nat.le_refl _)).more lo0.size) 24
  have lo := lo0.alloc lo0.size (Obj.cells #[.int .i64 nf, .slice Af fg.length cf] 24)
  rw [show (w.alloc (Obj.cells #[.int .i64 nt, .slice At tg.length ct] 24)).heap.size = w.heap.size + 1 by simp] at gF
  have HA := Lib.hid (fun V => awake3_any V)
  by_cases hsm : tg.length ≤ 60 ∧ fg.length ≤ 60 ∧ by_.length ≤ 60
  · obtain ⟨h1, h2, h3⟩ := hsm
    have HS := Lib.hid (fun V (g1 : Gr V V.heap.size At tg) (g2 : Gr V V.heap.size Af fg) (g3 : Vs V V.heap.size Ab (iv by_)) => same3_any nt At ct tg nf Af cf fg l Ab cb by_ x b V (by omega) (by omega) (by omega) g1 g2 g3 hwt hwf hx hV.2)
    have HV := Lib.hid hV.1
    have d1 : decide ((60 : Int) < (tg.length : Int)) = false := by simp; omega
    have d2 : decide ((60 : Int) < (fg.length : Int)) = false := by simp; omega
    have d3 : decide ((60 : Int) < (by_.length : Int)) = false := by simp; omega
    clear lo0 hgt hgf hwt hwf hV
    go_enter Try.func3, Try.ntmps3
    go_upto_region 1 with fail
    generalize (w.alloc (Obj.cells #[.int .i64 nt, .slice At tg.length ct] 24)).alloc (Obj.cells #[.int .i64 nf, .slice Af fg.length cf] 24) = V0 at *
    have k0 := gT.c0
    have k1 := gT.c1
    have k2 := gF.c0
    have k3 := gF.c1
    go_wp2_with fail
    refine (HA.out _).mono ?_
    rintro e w1 ⟨rfl, hb1⟩
    replace lo := lo.trans (hb1.mono lo.size)
    replace gT := gT.below hb1
    replace gF := gF.below hb1
    clear k0 k1 k2 k3 hb1
    have k0 := gT.c0
    have k1 := gT.c1
    have k2 := gF.c0
    have k3 := gF.c1
    go_wp2_with (go_at_call 11; refine (HS.out _ gT.gr gF.gr ((HV.out.below lo (Nat.le_refl _)).more lo.size)).mono ?_; rintro e w2 ⟨rfl, hb2⟩)
    go_ret
    exact ⟨rfl, lo.trans (hb2.mono lo.size)⟩
  · clear lo0 hgt hgf hwt hwf hV
    unfold maxLen at hmt hmf hmb
    go_enter Try.func3, Try.ntmps3
    go_upto_region 1 with fail
    generalize (w.alloc (Obj.cells #[.int .i64 nt, .slice At tg.length ct] 24)).alloc (Obj.cells #[.int .i64 nf, .slice Af fg.length cf] 24) = V0 at *
    have k0 := gT.c0
    have k1 := gT.c1
    have k2 := gF.c0
    have k3 := gF.c1
    by_cases h1 : tg.length ≤ 60
    · have d1 : decide ((60 : Int) < (tg.length : Int)) = false := by simp; omega
      by_cases h2 : fg.length ≤ 60
      · have d2 : decide ((60 : Int) < (fg.length : Int)) = false := by simp; omega
        have d3 : decide ((60 : Int) < (by_.length : Int)) = true := by simp; omega
        clear hsm h1 h2
        go_wp2_with (go_at_call 10; refine (HA.out _).mono ?_; rintro e w1 ⟨rfl, hb1⟩)
        go_ret
        exact ⟨rfl, lo.trans (hb1.mono lo.size)⟩
      · have d2 : decide ((60 : Int) < (fg.length : Int)) = true := by simp; omega
        clear hsm h1 h2
        go_wp2_with (go_at_call 10; refine (HA.out _).mono ?_; rintro e w1 ⟨rfl, hb1⟩)
        go_ret
        exact ⟨rfl, lo.trans (hb1.mono lo.size)⟩
    · have d1 : decide ((60 : Int) < (tg.length : Int)) = true := by simp; omega
      clear hsm h1
      go_wp2_with (go_at_call 10; refine (HA.out _).mono ?_; rintro e w1 ⟨rfl, hb1⟩)
      go_ret
      exact ⟨rfl, lo.trans (hb1.mono lo.size)⟩

open Go.ChangeShapes Go.WideShapes Go.ChangeAt Go.RowKit Go.Deep Go.Joins Go.WideElems
section
variable {H : Type} {enc : TypeId × Value → H} {W : World} {base : Nat} {spare : Nat → Bool} {held : Bool}
theorem open_intsB {fuel : Nat} {v1 : Value} {x : DataW H × List MemPlace} (h : DataW.trod enc Try.prog W base spare held fuel 25 [v1] = some x) :
    ∃ (A : Option Addr) (c : Nat) (zs : List Int), v1 = .slice A zs.length c ∧ (Vs W W.heap.size A (iv zs) ∧ ∀ x ∈ zs, x ≤ 9223372036854775807) ∧ zs.length ≤ maxLen := by
  rcases open_slice Try.underlying25 h with ⟨hcs, _⟩ | ⟨a, len, cap, m, n, D, Pl, hcs, hb, hl, hm, hmm, _, hx⟩
  · refine ⟨none, 0, [], ?_, ⟨vs_nil, fun x hx => by simp at hx⟩, Nat.zero_le _⟩
    simpa using hcs
  · have hlm : len ≤ m := by rw [hmm]; split <;> omega
    have each : ∀ i, i < len → ∃ q : Int, W.cell? (a.add (i * 1)) = some (.int .i64 q) ∧ (Lit.int .i64 q).wf = true := by
      intro i hi
      obtain ⟨cs', h1, h2⟩ := hx i (by omega)
      rw [Try.cellsInt] at h1
      obtain ⟨_, hlen, hcell⟩ := World.cells?_some h1
      obtain ⟨u, hu, _, wu⟩ := DataW.trod_int Try.underlying3 h2
      subst hu
      have e0 := hcell 0 (by omega)
      exact ⟨u, by simpa [Addr.add] using e0, wu⟩
    obtain ⟨q, hq⟩ := choose_lt each
    refine ⟨some a, cap, (List.range len).map q, ?_, ⟨fun k hk => ?_, fun x hx => ?_⟩, by simp; omega⟩
    · simpa using hcs
    · have hk' : k < len := by simpa [iv] using hk
      obtain ⟨e1, w1⟩ := hq k hk'
      obtain ⟨b, off, spot⟩ := a
      have hspot : spot = none := by
        have := World.cell?_spot (hq 0 (by omega)).1
        simpa [Addr.add] using this
      subst hspot
      rw [add_plain, Nat.mul_one] at e1
      refine ⟨b, off, rfl, World.block_lt_of_cell? W ⟨b, off + k, none⟩ e1, ?_⟩
      simpa [iv] using e1
    · obtain ⟨i, hi, rfl⟩ := List.mem_map.1 hx
      exact (bounds_i64 (hq i (List.mem_range.1 hi)).2).2
end
end Go.Proofs.Ythnbaadhepfkmaa
