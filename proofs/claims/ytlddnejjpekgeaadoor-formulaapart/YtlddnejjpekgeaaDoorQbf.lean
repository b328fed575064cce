/- Formulas that are the same: Same. -/
import Derived.Test.YtlddnejjpekgeaaDoorQbe
import Derived.Deep.LoopGhost
set_option linter.unusedSimpArgs false
set_option linter.unusedVariables false
namespace Go.Proofs.YtlddnejjpekgeaaDoor
open Go.RowKit Pm

theorem ixP (g n c r : Nat) (hn : n ≤ 1000000) (hr : r < n) (w : World) : (Instr.indexAt 60 (.slice (some ⟨g, 0, none⟩) n c) (.int .i64 (r : Int))).run Tryd.prog w = .ok (.pointer (some ⟨g, r * 2, none⟩)) w := by go_simp
/-- Where the rounds begin. -/
theorem sr_start {V : World} {K : Nat → Prop} {f g : Fm.F} {p q : Addr} (hp : AtP V K p f) (hq : AtP V K q g) :
    SR V (((V.alloc (.map #[] 0)).alloc (Obj.cells #[.map (some V.heap.size)] 57)).alloc (Obj.cells #[.pointer (some p), .pointer (some q)] 59)) K V.heap.size f g (.slice (some ⟨V.heap.size + 1 + 1, 0, none⟩) 1 1) [(p, q)] [(f, g)] [] [] := by
  have l1 := lowAlloc V (.map #[] 0)
  have m1 : Hq (V.alloc (.map #[] 0)) V.heap.size (.map #[] 0) := Hq.new V _
  have s1 : (V.alloc (.map #[] 0)).heap.size = V.heap.size + 1 := by simp
  generalize V.alloc (.map #[] 0) = W1 at *
  have l2 := lowAlloc W1 (Obj.cells #[.map (some V.heap.size)] 57)
  have b2 := Blk.new W1 57 #[.map (some V.heap.size)]
  have s2 : (W1.alloc (Obj.cells #[.map (some V.heap.size)] 57)).heap.size = W1.heap.size + 1 := by simp
  generalize W1.alloc (Obj.cells #[.map (some V.heap.size)] 57) = W2 at *
  have l3 := lowAlloc W2 (Obj.cells #[.pointer (some p), .pointer (some q)] 59)
  have b3 := Blk.new W2 59 #[.pointer (some p), .pointer (some q)]
  have s3 : (W2.alloc (Obj.cells #[.pointer (some p), .pointer (some q)] 59)).heap.size = W2.heap.size + 1 := by simp
  generalize W2.alloc (Obj.cells #[.pointer (some p), .pointer (some q)] 59) = W3 at *
  have m3 := (m1.below l2 (by omega)).below l3 (by omega)
  have b2' := b2.below l3 (by omega)
  rw [s1] at b2'
  have e3 : W2.heap.size = V.heap.size + 1 + 1 := by omega
  rw [e3] at b3
  refine ⟨?_, ⟨hp, hq, trivial⟩, Fm.SameI.start f g, ⟨[], 0, m3, trivial⟩, ⟨fun e he => (by cases he), fun e he => (by cases he)⟩, b2', (l1.trans (l2.mono (by omega))).trans (l3.mono (by omega)), by omega⟩
  refine ⟨rfl, Or.inr ⟨V.heap.size + 1 + 1, 1, #[.pointer (some p), .pointer (some q)], rfl, by omega, b3, by simp, by unfold maxLen; omega, rfl, rfl⟩⟩
theorem eqb_false {f g : Fm.F} (h : f ≠ g) : f.eqB g = false := by
  cases hh : f.eqB g
  · rfl
  · exact absurd ((Fm.eqB_iff f g).1 hh) h
set_option maxRecDepth 10000 in
set_option maxHeartbeats 4000000 in
theorem Same_any (f g : Fm.F) (v u : Value) (w : World) (K : Nat → Prop) (hf : FV w K f v) (hg : FV w K g u) (hK : ∀ b, K b → b < w.heap.size ∧ Reg w b) (hc : f.cnt ≤ 50000) :
    Calls Tryd.prog 17 #[v, u] w fun e w' => e = .returned (.bool (f.eqB g)) ∧ Below w.heap.size w w' := by
  have hf0 := hf
  have hg0 := hg
  obtain ⟨k1, nm1, lit1, ks1⟩ := f
  obtain ⟨k2, nm2, lit2, ks2⟩ := g
  rw [FV] at hf hg
  obtain ⟨A1, c1, rfl, hl1⟩ := hf
  obtain ⟨A2, c2, rfl, hl2⟩ := hg
  have lo1 := lowAlloc w (Obj.cells #[.int .i64 k1, .string ⟨nm1.toArray⟩, .int .i64 lit1, .slice A1 ks1.length c1] 24)
  have lo2 := lowAlloc (w.alloc (Obj.cells #[.int .i64 k1, .string ⟨nm1.toArray⟩, .int .i64 lit1, .slice A1 ks1.length c1] 24)) (Obj.cells #[.int .i64 k2, .string ⟨nm2.toArray⟩, .int .i64 lit2, .slice A2 ks2.length c2] 24)
  have hs1 : (w.alloc (Obj.cells #[.int .i64 k1, .string ⟨nm1.toArray⟩, .int .i64 lit1, .slice A1 ks1.length c1] 24)).heap.size = w.heap.size + 1 := by simp
  have hb1 := Blk.new w 24 #[.int .i64 k1, .string ⟨nm1.toArray⟩, .int .i64 lit1, .slice A1 ks1.length c1]
  have hb2 := Blk.new (w.alloc (Obj.cells #[.int .i64 k1, .string ⟨nm1.toArray⟩, .int .i64 lit1, .slice A1 ks1.length c1] 24)) 24 #[.int .i64 k2, .string ⟨nm2.toArray⟩, .int .i64 lit2, .slice A2 ks2.length c2]
  have hb1' := hb1.below lo2 hb1.lt
  have hs2 : ((w.alloc (Obj.cells #[.int .i64 k1, .string ⟨nm1.toArray⟩, .int .i64 lit1, .slice A1 ks1.length c1] 24)).alloc (Obj.cells #[.int .i64 k2, .string ⟨nm2.toArray⟩, .int .i64 lit2, .slice A2 ks2.length c2] 24)).heap.size = w.heap.size + 2 := by simp
  rw [hs1] at hb2
  have hlo := lo1.trans (lo2.mono lo1.size)
  clear lo1 lo2 hs1 hb1 hf0 hg0
  go_enter Tryd.func17, Tryd.ntmps17
  go_upto_region 1 with fail
  generalize (w.alloc (Obj.cells #[.int .i64 k1, .string ⟨nm1.toArray⟩, .int .i64 lit1, .slice A1 ks1.length c1] 24)).alloc (Obj.cells #[.int .i64 k2, .string ⟨nm2.toArray⟩, .int .i64 lit2, .slice A2 ks2.length c2] 24) = V at *
  have hk2lt : Hid (V.heap.size = w.heap.size + 2) := hs2
  have HKB : Hid (KB V (fun b => b < V.heap.size ∧ Reg V b) V.heap.size) := ⟨fun b h => h.1, fun b h => h.2, Nat.le_refl _⟩
  have hK2 : ∀ b, K b → b < V.heap.size ∧ Reg V b := fun b hb => ⟨by have := (hK b hb).1; omega, (hK b hb).2.below hlo (hK b hb).1⟩
  have hf1 : AtP V (fun b => b < V.heap.size ∧ Reg V b) ⟨w.heap.size, 0, none⟩ (.mk k1 nm1 lit1 ks1) := ⟨w.heap.size, 0, A1, c1, rfl, ⟨by omega, _, _, hb1'⟩, (by have := hb1'.cell 0; simpa [Fm.F.k, Fm.F.nm, Fm.F.lit, Fm.F.ks] using this), (by have := hb1'.cell 1; simpa [Fm.F.k, Fm.F.nm, Fm.F.lit, Fm.F.ks] using this), (by have := hb1'.cell 2; simpa [Fm.F.k, Fm.F.nm, Fm.F.lit, Fm.F.ks] using this), (by have := hb1'.cell 3; simpa [Fm.F.k, Fm.F.nm, Fm.F.lit, Fm.F.ks] using this), FL.keep (fun q hq => hlo.cell (hK _ hq).1) hK2 hl1⟩
  have hg1 : AtP V (fun b => b < V.heap.size ∧ Reg V b) ⟨w.heap.size + 1, 0, none⟩ (.mk k2 nm2 lit2 ks2) := ⟨w.heap.size + 1, 0, A2, c2, rfl, ⟨by omega, _, _, hb2⟩, (by have := hb2.cell 0; simpa [Fm.F.k, Fm.F.nm, Fm.F.lit, Fm.F.ks] using this), (by have := hb2.cell 1; simpa [Fm.F.k, Fm.F.nm, Fm.F.lit, Fm.F.ks] using this), (by have := hb2.cell 2; simpa [Fm.F.k, Fm.F.nm, Fm.F.lit, Fm.F.ks] using this), (by have := hb2.cell 3; simpa [Fm.F.k, Fm.F.nm, Fm.F.lit, Fm.F.ks] using this), FL.keep (fun q hq => hlo.cell (hK _ hq).1) hK2 hl2⟩
  have HST := Lib.hid (sr_start hf1 hg1)
  have HWV : Hid (w.heap.size ≤ V.heap.size) := by unfold Hid; omega
  clear hs2 hK2 hf1 hg1 hb1' hb2 hl1 hl2 hK
  generalize hf : Fm.F.mk k1 nm1 lit1 ks1 = f at *
  generalize hg : Fm.F.mk k2 nm2 lit2 ks2 = g at *
  have HFG := Lib.hid (And.intro hf hg)
  clear hf hg
  have hmk : (Instr.makeMap 55 none).run Tryd.prog V = .ok (.map (some V.heap.size)) (V.alloc (.map #[] 0)) := by simp [Instr.makeMap, Result.andThen]
  go_upto_region 2 with fail
  clear hmk
  go_wp2
  generalize (((V.alloc (.map #[] 0)).alloc (Obj.cells #[.map (some V.heap.size)] 57)).alloc (Obj.cells #[.pointer (some ⟨w.heap.size, 0, none⟩), .pointer (some ⟨w.heap.size + 1, 0, none⟩)] 59)) = W4 at *
  generalize hK2 : (fun b => b < V.heap.size ∧ Reg V b) = K2 at *
  clear hK2
  go_loopg [6] f.cnt (fun k v wr => ∃ (ps : PL) (O P : List (Fm.F × Fm.F)) (es : PL), Fm.meas O ≤ k ∧ k ≤ f.cnt ∧ SR V wr K2 V.heap.size f g v ps O P es)
  case atStart => exact ⟨_, _, _, _, by rw [Fm.meas_one]; exact Nat.le_refl _, Nat.le_refl _, HST.out⟩
  case round =>
    obtain ⟨ps, O, P, es, hm, hkc, hR⟩ := hrel
    obtain ⟨Av, cv, rfl⟩ := row_slice hR.row
    rcases List.eq_nil_or_concat ps with rfl | ⟨qs, x, hps⟩
    · have hO : O = [] := by
        have := hR.ap.len
        exact List.length_eq_zero_iff.1 this.symm
      subst hO
      have HV : Hid (f.eqB g = true) := (Fm.eqB_iff f g).2 hR.si.done
      have hlo9 := hlo.trans (hR.lo.mono HWV.out)
      clear hR hm hkc
      go_wp2
      go_ret
      exact ⟨by rw [HFG.out.1, HFG.out.2, HV.out]; rfl, hlo9⟩
    · rw [List.concat_eq_append] at hps
      subst hps
      have hln : (qs ++ [x]).length = qs.length + 1 := by simp
      have hQ := hR.q
      have hrow := hR.row
      rw [hln] at hrow
      rw [hln]
      obtain ⟨gr, rfl, hnc, z0, z1, hrow2⟩ := row_pop hrow rfl
      obtain ⟨Q, s, t, rfl, hap, hp, hq⟩ := hR.ap.last
      obtain ⟨p, q⟩ := x
      simp only at hp hq z0 z1
      have hml := meas_len (Q ++ [(s, t)])
      have hql := hap.len
      have hsc : s.cnt ≤ Fm.meas (Q ++ [(s, t)]) := by rw [Fm.meas_app, Fm.meas_one]; omega
      have hmp := Fm.meas_pop Q s t
      have hmj := Fm.meas_join Q s t
      have hql2 : qs.length + s.cnt ≤ 50000 := by
        have h1 := meas_len Q
        have h2 : Fm.meas (Q ++ [(s, t)]) = Fm.meas Q + s.cnt := by rw [Fm.meas_app, Fm.meas_one]
        omega
      have hQ2 : SQ V wr K2 V.heap.size (.slice (some ⟨gr, 0, none⟩) qs.length cv) qs P es := ⟨hrow2, hQ.pm, hQ.mi, hQ.cb, hQ.lo, hQ.sz⟩
      have HSI := Lib.hid hR.si
      have hQ2sz : V.heap.size + 2 ≤ wr.heap.size := hQ2.sz
      have hix := ixP gr (qs.length + 1) cv qs.length (by omega) (by omega)
      have lo2 := lowAlloc wr (Obj.cells #[.pointer (some p), .pointer (some q)] 59)
      have hX := Blk.new wr 59 #[.pointer (some p), .pointer (some q)]
      have hQ3 := hQ2.below (Nat.le_refl _) lo2
      have HMEAS : Hid (Fm.meas Q < gk ∧ Fm.meas (Q ++ List.zip s.ks t.ks) < gk ∧ gk ≤ f.cnt) := by unfold Hid; omega
      have HQL := Lib.hid hql
      clear hR hQ hQ2 hrow hrow2 hln lo2 hm hkc hmp hmj hml hsc hql
      have hgn := World.block_lt_of_cell? wr ⟨gr, _, none⟩ z0
      go_upto_region 5 with fail
      clear hix z0 z1
      have HNB0 := hQ2sz
      generalize hnb : wr.heap.size = nb at *
      have HNB := Lib.hid HNB0
      clear HNB0
      generalize wr.alloc (Obj.cells #[.pointer (some p), .pointer (some q)] 59) = W1 at *
      have HA := Lib.hid (alike_any p q s t W1 HKB.out hQ3.lo hp hq)
      have HGN := Lib.hid hgn
      have d0 := hX.cell 0
      have d1 := hX.cell 1
      simp only [List.getElem?_toArray, List.getElem?_cons_zero, List.getElem?_cons_succ] at d0 d1
      clear hgn
      go_wp2_with fail
      refine HA.out.mono ?_
      rintro e w2 ⟨rfl, n2, rfl⟩
      clear HA d0 d1
      have hQ4 := hQ3.below (Nat.le_refl _) (below_drewN (Below.refl _ W1) n2)
      have hX4 : Blk (W1.drewN n2) nb 59 #[.pointer (some p), .pointer (some q)] := hX.drewN n2
      clear hQ3 hX
      generalize W1.drewN n2 = W2 at *
      cases ha : Fm.alikeB s t with
      | false =>
        have HV : Hid (f.eqB g = false) := eqb_false (HSI.out.unlike (fun h => by rw [(Fm.alikeB_iff s t).2 h] at ha; cases ha))
        have hlo9 := hlo.trans (hQ4.lo.mono HWV.out)
        clear hQ4 hX4 ha hp hq hap
        go_wp2
        go_ret
        exact ⟨by rw [HFG.out.1, HFG.out.2, HV.out]; rfl, hlo9⟩
      | true =>
        have hal := (Fm.alikeB_iff s t).1 ha
        clear ha
        have hp' := hp
        have hq' := hq
        obtain ⟨pb, po, pA, pc, hpe, hpK, _, _, _, p3, hpl⟩ := hp'
        obtain ⟨qb, qo, qA, qc, hqe, hqK, _, _, _, q3, hql⟩ := hq'
        subst hpe hqe
        have HSX0 : Hid (∀ U, Below V.heap.size V U → U.cell? ⟨pb, po + 3, none⟩ = some (.slice pA s.ks.length pc) ∧ U.cell? ⟨qb, qo + 3, none⟩ = some (.slice qA t.ks.length qc)) := fun U hU => ⟨(hU.cell (HKB.out.lt pb hpK)).trans p3, (hU.cell (HKB.out.lt qb hqK)).trans q3⟩
        have hx := (HSX0.out _ hQ4.lo).1
        have d0 := hX4.cell 0
        have d1 := hX4.cell 1
        simp only [List.getElem?_toArray, List.getElem?_cons_zero, List.getElem?_cons_succ] at d0 d1
        by_cases h0 : s.ks.length = 0
        · have hz : ((s.ks.length : Int) == 0) = true := by rw [beq_iff_eq]; omega
          have HN : Hid (SR V W2 K2 V.heap.size f g (.slice (some ⟨gr, 0, none⟩) qs.length cv) qs Q P es) := hQ4.r hap (HSI.out.leaf hal h0)
          clear h0 hal hQ4 hX4 hap hp hq p3 q3 hpl hql
          go_wp2
          go_roundg (Fm.meas Q)
          case measure => exact HMEAS.out.1
          case rel => exact ⟨qs, Q, P, es, Nat.le_refl _, by have := HMEAS.out; omega, HN.out⟩
        · have hz : ((s.ks.length : Int) == 0) = false := by rw [beq_eq_false_iff_ne]; omega
          have HJ := Lib.hid (join_any HKB.out P es _ _ s t W2 V.heap.size hQ4.lo (Nat.le_refl _) hQ4.pm hQ4.mi hp hq)
          have e0 := hQ4.cb.cell 0
          simp only [List.getElem?_toArray, List.getElem?_cons_zero, List.getElem?_cons_succ] at e0
          have HPS : Hid (0 < s.ks.length) := by unfold Hid; omega
          clear h0
          go_wp2_with fail
          refine HJ.out.mono ?_
          rintro e w5 ⟨hJ, hkj⟩
          clear HJ e0 d0 d1 hx hz
          rcases hJ with ⟨rfl, heq, es', hpm, hmi⟩ | ⟨rfl, es2, hpm, hmi⟩
          · have HN : Hid (SR V w5 K2 V.heap.size f g (.slice (some ⟨gr, 0, none⟩) qs.length cv) qs Q P es') := (hQ4.joined (Nat.le_refl _) hkj hpm hmi).r hap (HSI.out.known heq)
            clear hQ4 hX4 hap hp hq p3 q3 hpl hql hpm hmi hkj heq hal
            go_wp2
            go_roundg (Fm.meas Q)
            case measure => exact HMEAS.out.1
            case rel => exact ⟨qs, Q, P, es', Nat.le_refl _, by have := HMEAS.out; omega, HN.out⟩
          · have hQ5 := hQ4.joined (Nat.le_refl _) hkj hpm hmi
            have hnB : nb ≠ V.heap.size := by have := hQ5.sz; have := HNB.out; omega
            have hX5 := hkj.blkOf hX4 hnB
            obtain ⟨b, off, hAe, -⟩ := at_kid hpl 0 HPS.out
            obtain ⟨b', off', hAe', -⟩ := at_kid hql 0 (by have := HPS.out; have := hal.2.2.2; omega)
            subst hAe hAe'
            have HSX := HSX0
            clear HSX0
            have HFIN : Hid (SR V V K2 V.heap.size f g (.slice none 0 0) [] [] P [] → True) := fun _ => trivial
            have HAP : Hid (APs V K2 (qs ++ kidP b off b' off' s.ks.length) (Q ++ List.zip s.ks t.ks)) := by
              have := APs.app _ _ _ _ hap (kids_aps hpl hql hal.2.2.2 s.ks.length (Nat.le_refl _))
              rw [List.take_length, List.take_of_length_le (by have := hal.2.2.2; omega)] at this
              exact this
            have HSJ := Lib.hid (HSI.out.join hal)
            have hkl := len_cnt s.ks
            have hsc := Fm.cnt_eq s
            have hik : s.ks.length ≤ 50000 := by omega
            have htk : t.ks.length ≤ 50000 := by have := hal.2.2.2; omega
            have HTL : Hid (∀ i, i < s.ks.length → i < t.ks.length) := fun i hi => by have := hal.2.2.2; omega
            have hqk : qs.length + s.ks.length ≤ 50000 := by omega
            have HNE0 : Hid ((Value.slice (some ⟨gr, 0, none⟩) (qs.length + 0) cv).ownBlock ≠ some nb) := by
              unfold Hid
              intro e
              simp only [Value.ownBlock, Option.some.injEq] at e
              have := HGN.out
              omega
            have HQ5 : Hid (SQ V w5 K2 V.heap.size (.slice (some ⟨gr, 0, none⟩) (qs.length + 0) cv) (qs ++ kidP b off b' off' 0) ((s, t) :: P) es2) := by
              have : qs ++ kidP b off b' off' 0 = qs := by simp [kidP]
              unfold Hid
              rw [this]
              exact hQ5
            have HX5 := Lib.hid hX5
            have hx := (HSX.out _ hQ5.lo).1
            have d0 := hX5.cell 0
            have d1 := hX5.cell 1
            simp only [List.getElem?_toArray, List.getElem?_cons_zero, List.getElem?_cons_succ] at d0 d1
            clear hQ4 hX4 hap hp hq p3 q3 hpl hql hpm hmi hkj hal hkl hsc hQ5 hX5 HFIN
            go_wp2
            clear hx d0 d1
            go_loopw [6, 55] (fun v n wi => ∃ (i : Nat) (Ai : Option Addr) (ci : Nat), i ≤ s.ks.length ∧ n = .int .i64 (i : Int) ∧ v = .slice Ai (qs.length + i) ci ∧ SQ V wi K2 V.heap.size (.slice Ai (qs.length + i) ci) (qs ++ kidP b off b' off' i) ((s, t) :: P) es2 ∧ Blk wi nb 59 #[.pointer (some ⟨pb, po, none⟩), .pointer (some ⟨qb, qo, none⟩)] ∧ (Value.slice Ai (qs.length + i) ci).ownBlock ≠ some nb) (fun _ n _ => s.ks.length - (intOf n).toNat)
            case atStart => exact ⟨0, _, _, Nat.zero_le _, rfl, rfl, HQ5.out, HX5.out, HNE0.out⟩
            case round =>
              obtain ⟨i, Ai, ci, hil, rfl, rfl, hQr, hXr, hne⟩ := hrel
              have HNE := Lib.hid hne
              clear hne
              by_cases hlt : i < s.ks.length
              · have hQi := hQr.below (Nat.le_refl _) (below_drewN (Below.refl _ wr) 1)
                have hXi : Blk wr.drew nb 59 #[.pointer (some ⟨pb, po, none⟩), .pointer (some ⟨qb, qo, none⟩)] := hXr.dr
                have hQi : SQ V wr.drew K2 V.heap.size (.slice Ai (qs.length + i) ci) (qs ++ kidP b off b' off' i) ((s, t) :: P) es2 := hQi
                have hlk : (qs ++ kidP b off b' off' i).length = qs.length + i := by rw [List.length_append, kidP_len]
                have HRL : Hid (∀ (U : World) (v : Value), U.ownsRow (V.heap.size + 2) 59 2 v (qs ++ kidP b off b' off' i).length (flatP (qs ++ kidP b off b' off' i)) → U.ownsRow (V.heap.size + 2) 59 2 v (qs.length + i) (flatP (qs ++ kidP b off b' off' i))) := fun U v h => by rw [hlk] at h; exact h
                have HRM : Hid (∀ (U : World) (v : Value), U.ownsRow (V.heap.size + 2) 59 2 v (qs.length + i + 1) (flatP (qs ++ kidP b off b' off' i) ++ [.pointer (some ⟨b, off + i * 4, none⟩), .pointer (some ⟨b', off' + i * 4, none⟩)]) → U.ownsRow (V.heap.size + 2) 59 2 v ((qs ++ kidP b off b' off' i).length + 1) (flatP (qs ++ kidP b off b' off' i) ++ [.pointer (some ⟨b, off + i * 4, none⟩), .pointer (some ⟨b', off' + i * 4, none⟩)])) := fun U v h => by rw [hlk]; exact h
                have hSz := HSX.out _ hQi.lo
                have HSD : Hid (wr.drew.cell? ⟨nb, 0, none⟩ = some (.pointer (some ⟨pb, po, none⟩)) ∧ wr.drew.cell? ⟨nb, 1, none⟩ = some (.pointer (some ⟨qb, qo, none⟩)) ∧ wr.drew.cell? ⟨pb, po + 3, none⟩ = some (.slice (some ⟨b, off, none⟩) s.ks.length pc) ∧ wr.drew.cell? ⟨qb, qo + 3, none⟩ = some (.slice (some ⟨b', off', none⟩) t.ks.length qc)) := by
                  have h0 := hXi.cell 0
                  have h1 := hXi.cell 1
                  exact ⟨h0, h1, hSz.1, hSz.2⟩
                have hix := ixF b off s.ks.length pc i (by omega) hlt
                have hix' := ixF b' off' t.ks.length qc i (by omega) (HTL.out i hlt)
                clear hQi hXi hlk hSz
                go_upto_region 12 with fail
                refine wp_region_held_drew (S := (fun U => U.cell? ⟨nb, 0, none⟩ = some (.pointer (some ⟨pb, po, none⟩)) ∧ U.cell? ⟨nb, 1, none⟩ = some (.pointer (some ⟨qb, qo, none⟩)) ∧ U.cell? ⟨pb, po + 3, none⟩ = some (.slice (some ⟨b, off, none⟩) s.ks.length pc) ∧ U.cell? ⟨qb, qo + 3, none⟩ = some (.slice (some ⟨b', off', none⟩) t.ks.length qc))) (by kernel_rfl) (HSD.out) (fun hHeld => ?_)
                refine wpAnyH_take (i := 0) (oi := ⟨some 58, _, _, _, _, _⟩) (v := ?_) rfl (by kernel_rfl) (by kernel_rfl) (by kernel_rfl) (fun _ _ _ h => h) (Or.inl ⟨by rfl, ?_⟩) hHeld ?_
                rotate_left
                · intro w hSw
                  (try dsimp only at hSw)
                  obtain ⟨s0, s1, s2, s3⟩ := hSw
                  first | (go_simp; done) | (go_simp; with_reducible rfl) | with_reducible rfl
                try simp only [Act.put, List.setIfInBounds_toArray, List.set_cons_zero, List.set_cons_succ]
                refine wpAnyH_take (i := 1) (oi := ⟨some 59, _, _, _, _, _⟩) (v := ?_) rfl (by kernel_rfl) (by kernel_rfl) (by kernel_rfl) (fun _ _ _ h => h) (Or.inl ⟨by rfl, ?_⟩) hHeld ?_
                rotate_left
                · intro w hSw
                  (try dsimp only at hSw)
                  obtain ⟨s0, s1, s2, s3⟩ := hSw
                  first | (go_simp; done) | (go_simp; with_reducible rfl) | with_reducible rfl
                try simp only [Act.put, List.setIfInBounds_toArray, List.set_cons_zero, List.set_cons_succ]
                refine wpAnyH_take (i := 6) (oi := ⟨some 64, _, _, _, _, _⟩) (v := ?_) rfl (by kernel_rfl) (by kernel_rfl) (by kernel_rfl) (fun _ _ _ h => h) (Or.inl ⟨by rfl, ?_⟩) hHeld ?_
                rotate_left
                · intro w hSw
                  (try dsimp only at hSw)
                  obtain ⟨s0, s1, s2, s3⟩ := hSw
                  first | (go_simp; done) | (go_simp; with_reducible rfl) | with_reducible rfl
                try simp only [Act.put, List.setIfInBounds_toArray, List.set_cons_zero, List.set_cons_succ]
                refine wpAnyH_take (i := 8) (oi := ⟨some 66, _, _, _, _, _⟩) (v := ?_) rfl (by kernel_rfl) (by kernel_rfl) (by kernel_rfl) (fun _ _ _ h => h) (Or.inl ⟨by rfl, ?_⟩) hHeld ?_
                rotate_left
                · intro w hSw
                  (try dsimp only at hSw)
                  obtain ⟨s0, s1, s2, s3⟩ := hSw
                  first | (go_simp; done) | (go_simp; with_reducible rfl) | with_reducible rfl
                try simp only [Act.put, List.setIfInBounds_toArray, List.set_cons_zero, List.set_cons_succ]
                refine wpAnyH_take (i := 13) (oi := ⟨some 71, _, _, _, _, _⟩) (v := ?_) rfl (by kernel_rfl) (by kernel_rfl) (by kernel_rfl) (fun _ _ _ h => h) (Or.inl ⟨by rfl, ?_⟩) hHeld ?_
                rotate_left
                · intro w hSw
                  (try dsimp only at hSw)
                  obtain ⟨s0, s1, s2, s3⟩ := hSw
                  first | (go_simp; done) | (go_simp; with_reducible rfl) | with_reducible rfl
                try simp only [Act.put, List.setIfInBounds_toArray, List.set_cons_zero, List.set_cons_succ]
                refine wpAnyH_take (i := 2) (oi := ⟨some 60, _, _, _, _, _⟩) (v := ?_) rfl (by kernel_rfl) (by kernel_rfl) (by kernel_rfl) (fun _ _ _ h => h) (Or.inl ⟨by rfl, ?_⟩) hHeld ?_
                rotate_left
                · intro w hSw
                  (try dsimp only at hSw)
                  obtain ⟨s0, s1, s2, s3⟩ := hSw
                  first | (go_simp; done) | (go_simp; with_reducible rfl) | with_reducible rfl
                try simp only [Act.put, List.setIfInBounds_toArray, List.set_cons_zero, List.set_cons_succ]
                refine wpAnyH_take (i := 9) (oi := ⟨some 67, _, _, _, _, _⟩) (v := ?_) rfl (by kernel_rfl) (by kernel_rfl) (by kernel_rfl) (fun _ _ _ h => h) (Or.inl ⟨by rfl, ?_⟩) hHeld ?_
                rotate_left
                · intro w hSw
                  (try dsimp only at hSw)
                  obtain ⟨s0, s1, s2, s3⟩ := hSw
                  first | (go_simp; done) | (go_simp; with_reducible rfl) | with_reducible rfl
                try simp only [Act.put, List.setIfInBounds_toArray, List.set_cons_zero, List.set_cons_succ]
                refine wpAnyH_take (i := 3) (oi := ⟨some 61, _, _, _, _, _⟩) (v := ?_) rfl (by kernel_rfl) (by kernel_rfl) (by kernel_rfl) (fun _ _ _ h => h) (Or.inl ⟨by rfl, ?_⟩) hHeld ?_
                rotate_left
                · intro w hSw
                  (try dsimp only at hSw)
                  obtain ⟨s0, s1, s2, s3⟩ := hSw
                  first | (go_simp; done) | (go_simp; with_reducible rfl) | with_reducible rfl
                try simp only [Act.put, List.setIfInBounds_toArray, List.set_cons_zero, List.set_cons_succ]
                refine wpAnyH_take (i := 10) (oi := ⟨some 68, _, _, _, _, _⟩) (v := ?_) rfl (by kernel_rfl) (by kernel_rfl) (by kernel_rfl) (fun _ _ _ h => h) (Or.inl ⟨by rfl, ?_⟩) hHeld ?_
                rotate_left
                · intro w hSw
                  (try dsimp only at hSw)
                  obtain ⟨s0, s1, s2, s3⟩ := hSw
                  first | (go_simp; done) | (go_simp; with_reducible rfl) | with_reducible rfl
                try simp only [Act.put, List.setIfInBounds_toArray, List.set_cons_zero, List.set_cons_succ]
                refine wpAnyH_take (i := 4) (oi := ⟨some 62, _, _, _, _, _⟩) (v := ?_) rfl (by kernel_rfl) (by kernel_rfl) (by kernel_rfl) (fun _ _ _ h => h) (Or.inl ⟨by rfl, ?_⟩) hHeld ?_
                rotate_left
                · intro w hSw
                  (try dsimp only at hSw)
                  obtain ⟨s0, s1, s2, s3⟩ := hSw
                  first | (go_simp; done) | (go_simp; with_reducible rfl) | with_reducible rfl
                try simp only [Act.put, List.setIfInBounds_toArray, List.set_cons_zero, List.set_cons_succ]
                refine wpAnyH_take (i := 11) (oi := ⟨some 69, _, _, _, _, _⟩) (v := ?_) rfl (by kernel_rfl) (by kernel_rfl) (by kernel_rfl) (fun _ _ _ h => h) (Or.inl ⟨by rfl, ?_⟩) hHeld ?_
                rotate_left
                · intro w hSw
                  (try dsimp only at hSw)
                  obtain ⟨s0, s1, s2, s3⟩ := hSw
                  first | (go_simp; done) | (go_simp; with_reducible rfl) | with_reducible rfl
                try simp only [Act.put, List.setIfInBounds_toArray, List.set_cons_zero, List.set_cons_succ]
                refine wpAnyH_take (i := 5) (oi := ⟨some 63, _, _, _, _, _⟩) (v := ?_) rfl (by kernel_rfl) (by kernel_rfl) (by kernel_rfl) (fun _ _ _ h => h) (Or.inl ⟨by rfl, ?_⟩) hHeld ?_
                rotate_left
                · intro w hSw
                  (try dsimp only at hSw)
                  obtain ⟨s0, s1, s2, s3⟩ := hSw
                  first | (go_simp; done) | (go_simp; with_reducible rfl) | with_reducible rfl
                try simp only [Act.put, List.setIfInBounds_toArray, List.set_cons_zero, List.set_cons_succ]
                refine wpAnyH_take (i := 12) (oi := ⟨some 70, _, _, _, _, _⟩) (v := ?_) rfl (by kernel_rfl) (by kernel_rfl) (by kernel_rfl) (fun _ _ _ h => h) (Or.inl ⟨by rfl, ?_⟩) hHeld ?_
                rotate_left
                · intro w hSw
                  (try dsimp only at hSw)
                  obtain ⟨s0, s1, s2, s3⟩ := hSw
                  first | (go_simp; done) | (go_simp; with_reducible rfl) | with_reducible rfl
                try simp only [Act.put, List.setIfInBounds_toArray, List.set_cons_zero, List.set_cons_succ]
                refine wpAnyH_take (i := 7) (oi := ⟨some 65, _, _, _, _, _⟩) (v := ?_) rfl (by kernel_rfl) (by kernel_rfl) (by kernel_rfl) (fun _ _ _ h => h) (Or.inl ⟨by rfl, ?_⟩) hHeld ?_
                rotate_left
                · intro w hSw
                  (try dsimp only at hSw)
                  obtain ⟨s0, s1, s2, s3⟩ := hSw
                  first | (go_simp; done) | (go_simp; with_reducible rfl) | with_reducible rfl
                try simp only [Act.put, List.setIfInBounds_toArray, List.set_cons_zero, List.set_cons_succ]
                refine wpAnyH_take (i := 14) (oi := ⟨some 72, _, _, _, _, _⟩) (v := ?_) rfl (by kernel_rfl) (by kernel_rfl) (by kernel_rfl) (fun _ _ _ h => h) (Or.inl ⟨by rfl, ?_⟩) hHeld ?_
                rotate_left
                · intro w hSw
                  (try dsimp only at hSw)
                  obtain ⟨s0, s1, s2, s3⟩ := hSw
                  first | (go_simp; done) | (go_simp; with_reducible rfl) | with_reducible rfl
                try simp only [Act.put, List.setIfInBounds_toArray, List.set_cons_zero, List.set_cons_succ]
                refine wpAnyH_take (i := 15) (oi := ⟨some 73, _, _, _, _, _⟩) (v := ?_) rfl (by kernel_rfl) (by kernel_rfl) (by kernel_rfl) (fun _ _ _ h => h) (Or.inl ⟨by rfl, ?_⟩) hHeld ?_
                rotate_left
                · intro w hSw
                  (try dsimp only at hSw)
                  obtain ⟨s0, s1, s2, s3⟩ := hSw
                  first | (go_simp; done) | (go_simp; with_reducible rfl) | with_reducible rfl
                try simp only [Act.put, List.setIfInBounds_toArray, List.set_cons_zero, List.set_cons_succ]
                refine wpAnyH_ready (rs := [16]) (by kernel_rfl) (by simp) ?_
                refine AllReadyH.cons (o := ⟨some 74, _, _, _, _, _⟩) rfl (fun K hK => ?_) AllReadyH.nil
                go_simp
                have hbP := (Blk.new wr 59 #[.pointer (some ⟨b, off + i * 4, none⟩), .pointer (some ⟨b', off' + i * 4, none⟩)]).dr
                have loP := (lowAlloc wr (Obj.cells #[.pointer (some ⟨b, off + i * 4, none⟩), .pointer (some ⟨b', off' + i * 4, none⟩)] 59)).drew
                have hQ8 := hQr.below (Nat.le_refl _) loP
                have hX8 := hXr.below loP hXr.lt
                have hSx := HSX.out _ hQ8.lo
                generalize (wr.alloc (Obj.cells #[.pointer (some ⟨b, off + i * 4, none⟩), .pointer (some ⟨b', off' + i * 4, none⟩)] 59)).drew = W8 at *
                refine hK.out _ _ ?_ (fun hHeld => ?_)
                · exact ⟨by simpa using hX8.cell 0, by simpa using hX8.cell 1, hSx.1, hSx.2⟩
                clear hK K
                try simp only [Act.put, List.setIfInBounds_toArray, List.set_cons_zero, List.set_cons_succ]
                refine wpAnyH_ready (rs := [17]) (by kernel_rfl) (by simp) ?_
                refine AllReadyH.cons (o := ⟨some 75, _, _, _, _, _⟩) rfl (fun K hK => ?_) AllReadyH.nil
                rw [if_pos (by rfl)]
                refine oper_app (.tmp 58) (.tmp 74) 60 rfl (.slice Ai (qs.length + i) ci) (.slice (some ⟨wr.heap.size, 0, none⟩) 1 1) rfl rfl (fun v' w' => w'.ownsRow (V.heap.size + 2) 59 2 v' (qs.length + i + 1) (flatP (qs ++ kidP b off b' off' i) ++ [.pointer (some ⟨b, off + i * 4, none⟩), .pointer (some ⟨b', off' + i * 4, none⟩)]) ∧ W8.grownBy w' (Value.slice Ai (qs.length + i) ci).ownBlock ∧ (v'.ownBlock = (Value.slice Ai (qs.length + i) ci).ownBlock ∨ v'.ownBlock = some W8.heap.size)) (fun ty => (by obtain ⟨v', w', r1, r2, r3, r4⟩ := app_pair W8 (V.heap.size + 2) ty (.slice Ai (qs.length + i) ci) (qs.length + i) _ (HRL.out _ _ hQ8.row) wr.heap.size 1 _ _ hbP (by omega) hQ8.sz; exact ⟨v', w', r1, r2, r3, r4⟩)) ?_
                intro v' w9 hR9
                obtain ⟨A9, c9, rfl⟩ := row_slice hR9.1
                have hQ9 := hQ8.pushed (x := (⟨b, off + i * 4, none⟩, ⟨b', off' + i * 4, none⟩)) (HRM.out _ _ hR9.1) hR9.2.1 (Nat.le_refl _)
                have hX9 := hX8.grown hR9.2.1 (fun e => HNE.out e.symm)
                have hSy := HSX.out _ hQ9.lo
                have HN9 : Hid ((Value.slice A9 (qs.length + (i + 1)) c9).ownBlock ≠ some nb) := by
                  unfold Hid
                  rcases hR9.2.2 with h | h
                  · intro e
                    exact HNE.out (h.symm.trans e)
                  · intro e
                    have h2 := h.symm.trans e
                    injection h2 with h2
                    have := hX8.lt
                    omega
                refine hK.out _ _ ?_ (fun hHeld => ?_)
                · exact ⟨by simpa using hX9.cell 0, by simpa using hX9.cell 1, hSy.1, hSy.2⟩
                clear hK K
                try simp only [Act.put, List.setIfInBounds_toArray, List.set_cons_zero, List.set_cons_succ]
                refine wpAnyH_take (i := 18) (oi := ⟨some 6, _, _, _, _, _⟩) (v := ?_) rfl (by kernel_rfl) (by kernel_rfl) (by kernel_rfl) (fun _ _ _ h => h) (Or.inl ⟨by rfl, ?_⟩) hHeld ?_
                rotate_left
                · intro w hSw
                  (try dsimp only at hSw)
                  obtain ⟨s0, s1, s2, s3⟩ := hSw
                  first | (go_simp; done) | (go_simp; with_reducible rfl) | with_reducible rfl
                try simp only [Act.put, List.setIfInBounds_toArray, List.set_cons_zero, List.set_cons_succ]
                refine wpAnyH_done (by kernel_rfl) ?_ _
                have HN : Hid (SQ V w9 K2 V.heap.size (.slice A9 (qs.length + (i + 1)) c9) (qs ++ kidP b off b' off' (i + 1)) ((s, t) :: P) es2) := by
                  unfold Hid
                  rw [kidP_succ, ← List.append_assoc]
                  exact hQ9
                have HX9 := Lib.hid hX9
                clear hSx hSy hR9 hQ9 hX9 hQ8 hX8 hbP loP hQr hXr
                go_wp2
                go_roundw
                case rel => exact ⟨i + 1, A9, c9, by omega, by go_num, rfl, HN.out, HX9.out, HN9.out⟩
                case measure => simp [intOf]; omega
              · obtain rfl : i = s.ks.length := by omega
                have HN : Hid (SR V wr K2 V.heap.size f g (.slice Ai (qs.length + s.ks.length) ci) (qs ++ kidP b off b' off' s.ks.length) (Q ++ List.zip s.ks t.ks) ((s, t) :: P) es2) := hQr.r HAP.out HSJ.out
                clear hQr hXr hlt
                go_wp2
                go_roundg (Fm.meas (Q ++ List.zip s.ks t.ks))
                case measure => exact HMEAS.out.2.1
                case rel => exact ⟨_, _, _, _, Nat.le_refl _, by have := HMEAS.out; omega, HN.out⟩
end Go.Proofs.YtlddnejjpekgeaaDoor
