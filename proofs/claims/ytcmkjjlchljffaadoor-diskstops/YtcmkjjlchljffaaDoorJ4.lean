/- Joined texts of the proof. -/
import Derived.Test.YtcmkjjlchljffaaDoorJ3
import Derived.Test.YtcmkjjlchljffaaDoorJ1
import Derived.Maps.OwnSet
import Derived.StringKeys
import Derived.Test.YtcmkjjlchljffaaDoorJ2
import Derived.LaidEqlPtr
import Derived.Shelf.Strings.SlTrimAscii
import Derived.Shelf.LaysM
import Derived.Shelf.Strconv.Clone
import Derived.Shelf.SlIter.Nil
import Derived.Shelf.SortM.Plain
import Derived.Shelf.SortM.SortNone
import Derived.Test.YtcmkjjlchljffaaDoorProg
import Derived.Lib.SliceRun
import Derived.Maps.RangeWalk
import Derived.Sort.Walk0

/- DiskStops, given what the program's disk tells. -/
namespace Go.Proofs.YtcmkjjlchljffaaDoor
open Go.RowKit
set_option linter.unusedVariables false

set_option maxRecDepth 100000 in
set_option maxHeartbeats 12800000 in
theorem stops_of {U : Prop} {CD : CDT} (Fa : Face U CD) (p : Int) (aa : Option Addr) (c : Nat) (al : List AT) (w : World) (h : ActsIn w aa al) (hlc : al.length ≤ c) (hl : al.length ≤ 9223372036854775807) (hp : p ≤ 9223372036854775807) :
    Calls Tryd.prog 6 #[.slice aa al.length c, .int .i64 p] w fun r w' => r = .returned (.bool true) ∧ Below w.heap.size w w' := by
  have HA := hidU h
  obtain ⟨m, hm⟩ : ∃ m, Hid (m = al.length) := ⟨_, (rfl : al.length = _)⟩
  rw [← hm.out] at hlc hl ⊢
  clear h
  have H1 := hidU (awake_of Fa w)
  go_enter Tryd.func6, Tryd.ntmps6
  go_wp2_with (go_at_call 27; refine H1.out.mono ?_; rintro _ w1 ⟨rfl, hb1⟩; refine Hid.out ?_)
  refine hidU ?_
  have HB1 := hidU hb1
  have H2 := hidU (Fa.newOk (n := 20000) (w := w1) w.heap.size (by decide) (by decide) HB1.out.size)
  clear hb1 H1
  go_wp2_with (go_at_call 8; refine H2.out.mono ?_; rintro _ w2 ⟨ga, W1, F1, rfl, hc1, hb2, hn1⟩; refine Hid.out ?_)
  refine hidU ?_
  have HB2 := hidU (HB1.out.trans (hb2.mono HB1.out.size))
  have HC1 := hidU hc1
  have H3 := hidU (Fa.newOk (n := 20000) (w := w2) w.heap.size (by decide) (by decide) HB2.out.size)
  clear hc1 hb2 hn1 H2 HB1
  go_wp2_with (go_at_call 8; refine H3.out.mono ?_; rintro _ w3 ⟨gb, W2, F2, rfl, hc2, hb3, hn2⟩; refine Hid.out ?_)
  refine hidU ?_
  have HB3 := hidU (HB2.out.trans (hb3.mono HB2.out.size))
  have gd0 : Gd 0 ⟨20000, [], -1, 0⟩ := ⟨by decide, Nat.zero_le _, Nat.zero_le _, Int.le_refl _, by show (-1 : Int) ≤ _; omega, Nat.le_refl _, fun f h => (by cases h), List.Pairwise.nil⟩
  have HT3 : Hid (Two CD w.heap.size w3 ga gb 0 0 ⟨20000, [], -1, 0⟩ ⟨20000, [], -1, 0⟩) :=
    ⟨W1, F1, W2, F2, Fa.below HC1.out hb3, hc2, gd0, gd0, fun k q1 q2 => by have := Fa.lt HC1.out k q1; have := hn2 k q2; omega⟩
  clear hc2 hb3 hn2 gd0 H3 HC1 HB2
  by_cases hbig : 60 < m
  · go_wp2
    go_ret
    exact ⟨rfl, HB3.out⟩
  have hbigd : decide ((60 : Int) < (m : Int)) = false := decide_eq_false (by omega)
  by_cases hneg : p < 0
  · go_wp2
    go_ret
    exact ⟨rfl, HB3.out⟩
  have hnegd : decide (p < 0) = false := decide_eq_false hneg
  obtain ⟨S3, hs3, HU3⟩ := HT3.out.left Fa
  have H4 := hidU (hs3.stop Fa (z := p) (o := (⟨20000, [], p, 0⟩, 0)) HB3.out.size hp (by unfold stD stZ; rw [if_neg hneg, if_neg hneg]; rfl))
  have HU3 := hidU (fun (x' : World) (q1 : Sta CD w.heap.size x' ga 1 ⟨20000, [], p, 0⟩ S3) (q2 : Std S3 w3 x') (q3 : w3.heap.size ≤ x'.heap.size) => HU3 q1 q2 q3)
  clear hs3
  go_wp2_with (go_at_call 18; refine H4.out.mono ?_; rintro _ w4 ⟨rfl, hs4, hb4, hk4⟩; refine Hid.out ?_)
  refine hidU ?_
  have HT4 := hidU (HU3.out w4 hs4 hk4 hb4.size)
  have HB4 := hidU (HB3.out.trans hb4)
  clear hs4 hb4 hk4 H4 HT3 HB3 HU3 hbigd
  obtain ⟨S4, hs4, HU4⟩ := HT4.out.left Fa
  have H5 := hidU (plays_of Fa w.heap.size ga 1 ⟨20000, [], p, 0⟩ S4 aa c al w4 hs4 HB4.out.size (HA.out.row.same fun ad q => HB4.out.block _ (HA.out.bb ad q)) HA.out.bb (fun a ha => (HA.out.ins a ha).1.below HB4.out) (by rw [← hm.out]; exact hlc) (by rw [← hm.out]; omega))
  have HU4 := hidU (fun (x' : World) (n' : Nat) (D' : Dk) (q1 : Sta CD w.heap.size x' ga n' D' S4) (q2 : Std S4 w4 x') (q3 : w4.heap.size ≤ x'.heap.size) => HU4 q1 q2 q3)
  obtain ⟨R, hR⟩ : ∃ R, Hid (R = al.all fun a => plOk a.ac) := ⟨_, (rfl : _ = al.all fun a => plOk a.ac)⟩
  rw [← hR.out, ← hm.out] at H5
  clear hs4
  go_wp2_with (go_at_call 28; refine H5.out.mono ?_; rintro _ w5 ⟨rfl, hb5, hk5, hs5⟩; refine Hid.out ?_)
  refine hidU ?_
  have HB5 := hidU (HB4.out.trans hb5)
  have HT5 : Hid (R = true → Two CD w.heap.size w5 ga gb (1 + m) 0 (plD ⟨20000, [], p, 0⟩ al) ⟨20000, [], -1, 0⟩) := fun q => HU4.out w5 _ _ (hs5 q) hk5 hb5.size
  clear hb5 hk5 hs5 H5 HT4 HB4 HU4
  cases hq : R with
  | false =>
    subst hq
    clear HT5 hR
    go_wp2
    go_ret
    exact ⟨rfl, HB5.out⟩
  | true =>
  subst hq
  have HAll : Hid (∀ a ∈ al, plOk a.ac = true) := fun a ha => List.all_eq_true.1 hR.out.symm a ha
  have HT := hidU (HT5.out rfl)
  have HNm := hidU (nm_pl al (d := ⟨20000, [], p, 0⟩) HAll.out (fun f hf => by cases hf))
  have HSt := hidU (stops_at p al 20000 [] 0 (by show ((0 : Nat) : Int) ≤ p; omega) HAll.out)
  have HLf := hidU (pl_left p al 20000 [] 0 (by show ((0 : Nat) : Int) ≤ p; omega) HAll.out)
  rw [show p - ((0 : Nat) : Int) = p by omega] at HSt HLf
  obtain ⟨D, hD⟩ : ∃ D, D = plD ⟨20000, [], p, 0⟩ al := ⟨_, rfl⟩
  rw [← hD] at HT HNm HSt HLf
  have hnp : 0 ≤ p := by omega
  clear HT5 hR hD hneg hnegd
  go_wp2
  go_loopw [10] (fun j wr => ∃ i : Nat, j = .int .i64 (i : Int) ∧ i ≤ m ∧ Hid (Below w.heap.size w wr) ∧ Hid (∃ Db, Two CD w.heap.size wr ga gb (1 + m) i D Db ∧ stopAt p ⟨20000, [], -1, 0⟩ al = stopAt p Db (al.drop i))) (fun j _ => m - (intOf j).toNat)
  case atStart => exact ⟨0, rfl, by omega, HB5, ⟨⟨20000, [], -1, 0⟩, HT.out, rfl⟩⟩
  case round =>
    obtain ⟨i, rfl, hi, hB, hT⟩ := hrel
    obtain ⟨Db, hTw, hE⟩ := hT.out
    have HT' := hidU hTw
    have HE := hidU hE
    have HWr := hidU (hTw.two.writes Fa rfl)
    obtain ⟨wb, hwb⟩ : ∃ x, Hid (x = Db.wr) := ⟨_, (rfl : Db.wr = _)⟩
    rw [← hwb.out] at HWr
    clear hT hTw hE HB5
    have FIN : ∀ x : World, Hid (Below w.heap.size w x) → Hid (Two CD w.heap.size x ga gb (1 + m) i D Db) → stopAt p ⟨20000, [], -1, 0⟩ al = Db → Hid (Below w.heap.size w x ∧ ∃ n', n' ≤ 60 ∧ Two CD w.heap.size x ga gb (1 + m) n' D Db ∧ D.fs = Db.fs ∧ D.wr = Db.wr) := fun x q1 q2 q3 => by
      have := HSt.out
      rw [q3] at this
      exact ⟨q1.out, i, by omega, q2.out, this.1, this.2⟩
    have FIN := hidU FIN
    by_cases hc : i < m
    · by_cases hw : (wb : Int) < p
      · obtain ⟨a, ha⟩ : ∃ a, al[i]? = some a := ⟨_, List.getElem?_eq_getElem (by rw [← hm.out]; exact hc)⟩
        have hEn : stopAt p ⟨20000, [], -1, 0⟩ al = stopAt p (acD Db a.ac) (al.drop (i + 1)) := by rw [HE.out]; exact stopAt_on ha (by rw [← hwb.out]; exact hw)
        have HEn := hidU hEn
        have HIn := hidU (HA.out.ins a (List.mem_of_getElem? ha))
        have HOk := hidU (HAll.out a (List.mem_of_getElem? ha))
        have hsl := fun w => run_slice22 w aa m c i ((i : Int) + 1) rfl (by omega)
        have HOne : Hid (∀ x, Below w.heap.size w x → RowX eA x (aa.map (·.add (i * 6))) [a] ∧ ∀ ad, aa.map (·.add (i * 6)) = some ad → ad.block < w.heap.size) := fun x hx => by
          obtain ⟨q1, q2⟩ := (HA.out.row.same fun ad q => hx.block _ (HA.out.bb ad q)).one ha
          exact ⟨q1, fun ad q => by obtain ⟨a0, q3, q4⟩ := q2 ad q; rw [q4]; exact HA.out.bb a0 q3⟩
        obtain ⟨ai, hai⟩ : ∃ x, x = aa.map (·.add (i * 6)) := ⟨_, rfl⟩
        rw [← hai] at hsl HOne
        clear hai hEn ha FIN
        go_wp2_with (go_at_call 25; refine HWr.out.mono ?_; rintro _ x1 ⟨rfl, hbx⟩; refine Hid.out ?_)
        refine hidU ?_
        have HB1 := hidU (hB.out.trans (hbx.mono hB.out.size))
        have HT1 := hidU (HT'.out.below Fa hbx)
        clear hbx HWr
        obtain ⟨S1, hs1, HU1⟩ := HT1.out.symm.left Fa
        have H6 := hidU (plays_of Fa w.heap.size gb i Db S1 ai (c - i) [a] x1 hs1 HB1.out.size (HOne.out x1 HB1.out).1 (HOne.out x1 HB1.out).2 (fun b hb => by rw [List.mem_singleton.1 hb]; exact HIn.out.1.below HB1.out) (by show 1 ≤ c - i; omega) (by show i + 1 ≤ _; omega))
        have HU1 := hidU (fun (x' : World) (n' : Nat) (D' : Dk) (q1 : Sta CD w.heap.size x' gb n' D' S1) (q2 : Std S1 x1 x') (q3 : x1.heap.size ≤ x'.heap.size) => HU1 q1 q2 q3)
        rw [show ([a].all fun a => plOk a.ac) = true by rw [List.all_cons, HOk.out]; rfl] at H6
        clear hs1
        go_wp2_with (go_at_call 28; refine H6.out.mono ?_; rintro _ x2 ⟨rfl, hb2, hk2, hs2⟩; refine Hid.out ?_)
        refine hidU ?_
        have HB2 := hidU (HB1.out.trans hb2)
        have HT2 : Hid (Two CD w.heap.size x2 ga gb (1 + m) (i + 1) D (acD Db a.ac)) := (HU1.out x2 _ _ (hs2 trivial) hk2 hb2.size).symm
        clear hb2 hk2 hs2 H6 HU1 HT1 HB1
        go_wp2
        go_roundw
        · exact ⟨i + 1, by go_num, by omega, HB2, ⟨acD Db a.ac, HT2.out, HEn.out⟩⟩
        · simp [intOf]; omega
      · have HD := hidU (FIN.out)
        have hwn := hidU hw
        go_wp2_with (go_at_call 25; refine HWr.out.mono ?_; rintro _ x1 ⟨rfl, hbx⟩; refine Hid.out ?_)
        refine hidU ?_
        have HF := hidU (HD.out x1 (hidU (hB.out.trans (hbx.mono hB.out.size))) (hidU (HT'.out.below Fa hbx)) (by rw [HE.out]; exact stopAt_off _ (by rw [← hwb.out]; have := hwn.out; omega))).out
        clear hbx HWr HD FIN hB HT'
        obtain ⟨HBf, n', hn', hTw, hfs, hwr⟩ := HF.out
        have HB6 := hidU HBf
        have HT6 := hidU hTw
        have HFs := hidU hfs
        have HWe := hidU hwr
        clear HBf hTw hfs hwr HF
        have H7 := hidU (HT6.out.one.names Fa (ns := D.fs.map Fi.nm) (by omega) rfl)
        have H8 : Hid (∀ x, Below x1.heap.size x1 x → Calls Tryd.prog 20 #[.pointer (some ⟨gb, 0, none⟩)] x fun r w' => ∃ a c, r = .returned (.slice a (D.fs.map Fi.nm).length c) ∧ RowX eS w' a (D.fs.map Fi.nm) ∧ (D.fs.map Fi.nm).length ≤ c ∧ Below x.heap.size x w') := fun x hx => (HT6.out.below Fa hx).two.names Fa (ns := D.fs.map Fi.nm) (by omega) (by rw [HFs.out])
        obtain ⟨ns, hns⟩ : ∃ x, Hid (x = D.fs.map Fi.nm) := ⟨_, (rfl : D.fs.map Fi.nm = _)⟩
        rw [← hns.out] at H7 H8
        obtain ⟨k, hk⟩ : ∃ k, Hid (k = ns.length) := ⟨_, (rfl : ns.length = _)⟩
        rw [← hk.out] at H7 H8
        go_wp2_with (go_at_call 20; refine H7.out.mono ?_; rintro _ w7 ⟨la, lc, rfl, hrow, hlk, hb7⟩; refine Hid.out ?_)
        refine hidU ?_
        have HT7 := hidU (HT6.out.below Fa hb7)
        have HB7 := hidU (HB6.out.trans (hb7.mono HB6.out.size))
        have HR7 := hidU hrow
        have H9 := hidU (H8.out w7 hb7)
        clear hb7 hrow H7 H8 HT6 HB6
        go_wp2_with (go_at_call 20; refine H9.out.mono ?_; rintro _ w8 ⟨lb, lcb, rfl, hrow, hlkb, hb8⟩; refine Hid.out ?_)
        refine hidU ?_
        have HT8 := hidU (HT7.out.below Fa hb8)
        have HB8 := hidU (HB7.out.trans (hb8.mono HB7.out.size))
        have HR8 := hidU (HR7.out.below hb8)
        have HQ8 := hidU hrow
        clear hb8 hrow H9 HT7 HB7 HR7
        obtain ⟨wa, hwa⟩ : ∃ x, Hid (x = D.wr) := ⟨_, (rfl : D.wr = _)⟩
        have H10 := hidU (HT8.out.one.writes Fa (v := (wa : Int)) (by rw [hwa.out]))
        go_wp2_with (go_at_call 25; refine H10.out.mono ?_; rintro _ w9 ⟨rfl, hb9⟩; refine Hid.out ?_)
        refine hidU ?_
        have HT9 := hidU (HT8.out.below Fa hb9)
        have HB9 := hidU (HB8.out.trans (hb9.mono HB8.out.size))
        have HR9 := hidU (HR8.out.below hb9)
        have HQ9 := hidU (HQ8.out.below hb9)
        clear hb9 H10 HT8 HB8 HR8 HQ8
        have H11 := hidU (HT9.out.two.writes Fa (v := (wa : Int)) (by rw [hwa.out, HWe.out]))
        go_wp2_with (go_at_call 25; refine H11.out.mono ?_; rintro _ w10 ⟨rfl, hb9⟩; refine Hid.out ?_)
        refine hidU ?_
        have HT10 := hidU (HT9.out.below Fa hb9)
        have HB10 := hidU (HB9.out.trans (hb9.mono HB9.out.size))
        have HR10 := hidU (HR9.out.below hb9)
        have HQ10 := hidU (HQ9.out.below hb9)
        clear hb9 H11 HT9 HB9 HR9 HQ9
        have hk256 : k ≤ 256 := by rw [hk.out, hns.out, List.length_map]; obtain ⟨_, _, _, _, _, _, q, _⟩ := HT10.out; exact q.ln
        have H12 := hidU (sameTexts_any ns ns la lb lc lcb w10 HR10.out HQ10.out (by rw [← hk.out]; exact hlk) (by rw [← hk.out]; exact hlkb) (by rw [← hk.out]; omega) (by rw [← hk.out]; omega))
        rw [show sameS ns ns = true by simp [sameS], ← hk.out] at H12
        go_wp2_with (go_at_call 30; refine H12.out.mono ?_; rintro _ w11 ⟨rfl, hb9, _⟩; refine Hid.out ?_)
        refine hidU ?_
        have HT11 := hidU (HT10.out.below Fa hb9)
        have HB11 := hidU (HB10.out.trans (hb9.mono HB10.out.size))
        have HR11 := hidU (HR10.out.below hb9)
        clear hb9 H12 HT10 HB10 HR10 HQ10
        go_wp2
        go_loopw [13] (fun j wr => ∃ i : Nat, j = .int .i64 (i : Int) ∧ i ≤ k ∧ Hid (Below w11.heap.size w11 wr)) (fun j _ => k - (intOf j).toNat)
        case atStart => exact ⟨0, rfl, by omega, Below.refl _ _⟩
        case round =>
          obtain ⟨i, rfl, hi, hB⟩ := hrel
          by_cases hc : i < k
          · obtain ⟨f, hf⟩ : ∃ f, D.fs[i]? = some f := ⟨_, List.getElem?_eq_getElem (by rw [hk.out, hns.out, List.length_map] at hc; exact hc)⟩
            have hni : ns[i]? = some f.nm := by rw [hns.out, List.getElem?_map, hf]; rfl
            have hmem : f ∈ D.fs := List.mem_of_getElem? hf
            obtain ⟨gd, gdb⟩ : Gd (1 + m) D ∧ Gd n' Db := by obtain ⟨_, _, _, _, _, _, q, q', _⟩ := HT11.out; exact ⟨q, q'⟩
            have hlen : f.bs.length ≤ 67108864 := Nat.le_trans (mem_used hmem) (Nat.le_trans gd.us gd.sz)
            have HNz : Hid (f.nm.size ≤ 9223372036854775807) := Nat.le_trans (nmOk_size (HNm.out f hmem)) (by decide)
            obtain ⟨q1, q2, q3⟩ := rd_yes (find_self gd.so.apart f hmem)
            obtain ⟨q4, q5, q6⟩ := rd_yes (d := Db) (nm := f.nm) (f := f) (by rw [← HFs.out]; exact find_self gd.so.apart f hmem)
            obtain ⟨lg, lo, rfl, cl⟩ := row_cell (HR11.out.below hB.out) hni
            have HNi := hidU hni
            have Hr1 := hidU ((HT11.out.below Fa hB.out).one.read Fa (by omega) HNz.out q1 q2)
            have Hr2 : Hid (∀ x, Below wr.heap.size wr x → Calls Tryd.prog 13 #[.pointer (some ⟨gb, 0, none⟩), .string f.nm] x fun r w' => ∃ a c, r = .returned (.tuple #[.slice a f.bs.length c, .int .i64 0]) ∧ Row w' a f.bs ∧ f.bs.length ≤ c ∧ Below x.heap.size x w') := fun x hx =>
              ((HT11.out.below Fa (hB.out.trans (hx.mono hB.out.size))).two.read Fa (by omega) HNz.out q4 q5).mono fun r w' => by rintro ⟨a, c, e1, e2, e3, e4, _⟩; exact ⟨a, c, e1, e2, e3, e4⟩
            obtain ⟨v, hv⟩ : ∃ v : Int, Hid (v = (f.bs.length : Int) - f.sf) := ⟨_, (rfl : (f.bs.length : Int) - f.sf = _)⟩
            have HL1 : Hid (∀ x, Below w11.heap.size w11 x → Calls Tryd.prog 23 #[.pointer (some ⟨ga, 0, none⟩), .string f.nm] x fun r w' => r = .returned (.int .i64 v) ∧ Below x.heap.size x w') := fun x hx =>
              (HT11.out.below Fa hx).one.loose Fa (by omega) HNz.out (by rw [q3, hv.out])
            have HL2 : Hid (∀ x, Below w11.heap.size w11 x → Calls Tryd.prog 23 #[.pointer (some ⟨gb, 0, none⟩), .string f.nm] x fun r w' => r = .returned (.int .i64 v) ∧ Below x.heap.size x w') := fun x hx =>
              (HT11.out.below Fa hx).two.loose Fa (by omega) HNz.out (by rw [q6, hv.out])
            have HCl : Hid (∀ x, Below w11.heap.size w11 x → x.cell? ⟨lg, lo + i, none⟩ = some (.string f.nm)) := fun x hx => by
              obtain ⟨g', o', e, q⟩ := row_cell (HR11.out.below hx) HNi.out
              cases e
              exact q
            obtain ⟨bn, hbn⟩ : ∃ x, Hid (x = f.bs.length) := ⟨_, (rfl : f.bs.length = _)⟩
            obtain ⟨nm, hnm⟩ : ∃ x, Hid (x = f.nm) := ⟨_, (rfl : f.nm = _)⟩
            rw [← hbn.out] at hlen
            rw [← hbn.out, ← hnm.out] at Hr1 Hr2
            rw [← hnm.out] at cl HL1 HL2 HCl
            clear hf hni hmem q1 q2 q3 q4 q5 q6 gd gdb
            go_wp2_with (go_at_call 13; refine Hr1.out.mono ?_; rintro _ x1 ⟨ca, cc, rfl, hrb, hcc, hbx, _⟩; refine Hid.out ?_)
            refine hidU ?_
            have HB1 := hidU (hB.out.trans (hbx.mono hB.out.size))
            have HRc := hidU hrb
            have Hr3 := hidU (Hr2.out x1 hbx)
            have cl1 := HCl.out x1 HB1.out
            clear hbx hrb Hr1 Hr2 cl
            go_wp2_with (go_at_call 13; refine Hr3.out.mono ?_; rintro _ x2 ⟨da, dc, rfl, hrd, hdc, hbx⟩; refine Hid.out ?_)
            refine hidU ?_
            have HB2 := hidU (HB1.out.trans (hbx.mono HB1.out.size))
            have HRd := hidU hrd
            have HRc2 := hidU (HRc.out.below hbx)
            clear hbx hrd Hr3 cl1 HRc
            have HSb : Hid (∀ x, Below x2.heap.size x2 x → Calls Tryd.prog 31 #[.slice ca bn cc, .slice da bn dc] x fun r w' => r = .returned (.bool true) ∧ Below x.heap.size x w') := fun x hx => by
              have q := same_len ca da bn bn cc dc f.bs f.bs x (HRc2.out.below hx) (HRd.out.below hx) hbn.out.symm hbn.out.symm
              rw [show (f.bs == f.bs) = true from beq_self_eq_true _] at q
              exact q.mono fun r w' => by rintro ⟨e1, rfl⟩; exact ⟨e1, Below.refl _ _⟩
            have HLa : Hid (∀ x, Below x2.heap.size x2 x → Calls Tryd.prog 23 #[.pointer (some ⟨ga, 0, none⟩), .string nm] x fun r w' => r = .returned (.int .i64 v) ∧ Below x.heap.size x w') := fun x hx => HL1.out x (HB2.out.trans (hx.mono HB2.out.size))
            have HLb : Hid (∀ x, Below x2.heap.size x2 x → Calls Tryd.prog 23 #[.pointer (some ⟨gb, 0, none⟩), .string nm] x fun r w' => r = .returned (.int .i64 v) ∧ Below x.heap.size x w') := fun x hx => HL2.out x (HB2.out.trans (hx.mono HB2.out.size))
            have HCl0 := HCl
            clear HCl
            have HCl : Hid (∀ x, Below x2.heap.size x2 x → x.cell? ⟨lg, lo + i, none⟩ = some (.string nm)) := fun x hx => HCl0.out x (HB2.out.trans (hx.mono HB2.out.size))
            clear HCl0 HL1 HL2
            go_wp2
            have hS0a : Below x2.heap.size x2 x2.drew := Below.drew (Below.refl _ _)
            refine wp_region_held_drew (S := fun xS => Below x2.heap.size x2 xS) (by kernel_rfl) hS0a ?_
            obtain ⟨x0a, hx0⟩ : ∃ x, x = x2.drew := ⟨_, rfl⟩
            rw [← hx0] at hS0a  ⊢
            clear hx0
            intro _
            refine wpAnyH_take (i := 0) (oi := { dst := some 115, op := .move (.tmp 14), type := _, pos := _, after := _, guard := none }) (v := .slice ca bn cc) rfl (by kernel_rfl) (by kernel_rfl) (by kernel_rfl) (fun _ _ _ h => h) (Or.inl ⟨by rfl, ?_⟩) hS0a ?_
            · intro wS hSw
              go_simp
            simp only [Act.put, List.setIfInBounds_toArray, List.set_cons_zero, List.set_cons_succ]
            refine wpAnyH_take (i := 1) (oi := { dst := some 116, op := .move (.tmp 16), type := _, pos := _, after := _, guard := none }) (v := .slice da bn dc) rfl (by kernel_rfl) (by kernel_rfl) (by kernel_rfl) (fun _ _ _ h => h) (Or.inl ⟨by rfl, ?_⟩) hS0a ?_
            · intro wS hSw
              go_simp
            simp only [Act.put, List.setIfInBounds_toArray, List.set_cons_zero, List.set_cons_succ]
            refine wpAnyH_ready (rs := [2]) (by kernel_rfl) (by simp) ?_
            refine AllReadyH.cons (o := { dst := some 117, op := .call { callee := .value (.func 31), args := #[.tmp 115, .tmp 116], argTypes := #[29, 29] }, type := _, pos := _, after := _, guard := none }) rfl (fun K hK => ?_) AllReadyH.nil
            rw [if_pos (by rfl)]
            have sv1a := hS0a.size
            go_wp2_with (go_at_call 31; refine (HSb.out x0a hS0a).mono ?_; rintro e x1a ⟨rfl, hb1a⟩)
            have sz1a := hb1a.size
            have hS1a := hS0a.trans (hb1a.mono hS0a.size)
            refine hK.out _ _ hS1a (fun _ => ?_)
            clear hK K
            refine wpAnyH_take (i := 3) (oi := { dst := some 118, op := .unOp .not 4 (.tmp 117), type := _, pos := _, after := _, guard := none }) (v := .bool false) rfl (by kernel_rfl) (by kernel_rfl) (by kernel_rfl) (fun _ _ _ h => h) (Or.inl ⟨by rfl, ?_⟩) hS1a ?_
            · intro wS hSw
              go_simp
            simp only [Act.put, List.setIfInBounds_toArray, List.set_cons_zero, List.set_cons_succ]
            refine wpAnyH_take (i := 4) (oi := { dst := some 119, op := .move (.tmp 118), type := _, pos := _, after := _, guard := none }) (v := .bool false) rfl (by kernel_rfl) (by kernel_rfl) (by kernel_rfl) (fun _ _ _ h => h) (Or.inl ⟨by rfl, ?_⟩) hS1a ?_
            · intro wS hSw
              go_simp
            simp only [Act.put, List.setIfInBounds_toArray, List.set_cons_zero, List.set_cons_succ]
            refine wpAnyH_take (i := 5) (oi := { dst := some 120, op := .move (.tmp 6), type := _, pos := _, after := _, guard := some (4, false) }) (v := .pointer (some ⟨ga, 0, none⟩)) rfl (by kernel_rfl) (by kernel_rfl) (by kernel_rfl) (fun _ _ _ h => h) (Or.inl ⟨by rfl, ?_⟩) hS1a ?_
            · intro wS hSw
              go_simp
            simp only [Act.put, List.setIfInBounds_toArray, List.set_cons_zero, List.set_cons_succ]
            refine wpAnyH_take (i := 6) (oi := { dst := some 121, op := .move (.tmp 11), type := _, pos := _, after := _, guard := some (4, false) }) (v := .slice (some ⟨lg, lo, none⟩) k lc) rfl (by kernel_rfl) (by kernel_rfl) (by kernel_rfl) (fun _ _ _ h => h) (Or.inl ⟨by rfl, ?_⟩) hS1a ?_
            · intro wS hSw
              go_simp
            simp only [Act.put, List.setIfInBounds_toArray, List.set_cons_zero, List.set_cons_succ]
            refine wpAnyH_take (i := 7) (oi := { dst := some 122, op := .move (.tmp 13), type := _, pos := _, after := _, guard := some (4, false) }) (v := .int .i64 (i : Int)) rfl (by kernel_rfl) (by kernel_rfl) (by kernel_rfl) (fun _ _ _ h => h) (Or.inl ⟨by rfl, ?_⟩) hS1a ?_
            · intro wS hSw
              go_simp
            simp only [Act.put, List.setIfInBounds_toArray, List.set_cons_zero, List.set_cons_succ]
            refine wpAnyH_take (i := 8) (oi := { dst := some 123, op := .indexAddr 44 (.tmp 121) (.tmp 122), type := _, pos := _, after := _, guard := some (4, false) }) (v := .pointer (some ⟨lg, lo + i, none⟩)) rfl (by kernel_rfl) (by kernel_rfl) (by kernel_rfl) (fun _ _ _ h => h) (Or.inl ⟨by rfl, ?_⟩) hS1a ?_
            · intro wS hSw
              go_simp
            simp only [Act.put, List.setIfInBounds_toArray, List.set_cons_zero, List.set_cons_succ]
            refine wpAnyH_take (i := 9) (oi := { dst := some 124, op := .load 9 (.tmp 123), type := _, pos := _, after := _, guard := some (4, false) }) (v := .string nm) rfl (by kernel_rfl) (by kernel_rfl) (by kernel_rfl) (fun _ _ _ h => h) (Or.inl ⟨by rfl, ?_⟩) hS1a ?_
            · intro wS hSw
              have zc := HCl.out wS hSw; go_simp
            simp only [Act.put, List.setIfInBounds_toArray, List.set_cons_zero, List.set_cons_succ]
            refine wpAnyH_take (i := 11) (oi := { dst := some 126, op := .move (.tmp 8), type := _, pos := _, after := _, guard := some (4, false) }) (v := .pointer (some ⟨gb, 0, none⟩)) rfl (by kernel_rfl) (by kernel_rfl) (by kernel_rfl) (fun _ _ _ h => h) (Or.inl ⟨by rfl, ?_⟩) hS1a ?_
            · intro wS hSw
              go_simp
            simp only [Act.put, List.setIfInBounds_toArray, List.set_cons_zero, List.set_cons_succ]
            refine wpAnyH_take (i := 12) (oi := { dst := some 127, op := .move (.tmp 11), type := _, pos := _, after := _, guard := some (4, false) }) (v := .slice (some ⟨lg, lo, none⟩) k lc) rfl (by kernel_rfl) (by kernel_rfl) (by kernel_rfl) (fun _ _ _ h => h) (Or.inl ⟨by rfl, ?_⟩) hS1a ?_
            · intro wS hSw
              go_simp
            simp only [Act.put, List.setIfInBounds_toArray, List.set_cons_zero, List.set_cons_succ]
            refine wpAnyH_take (i := 13) (oi := { dst := some 128, op := .move (.tmp 13), type := _, pos := _, after := _, guard := some (4, false) }) (v := .int .i64 (i : Int)) rfl (by kernel_rfl) (by kernel_rfl) (by kernel_rfl) (fun _ _ _ h => h) (Or.inl ⟨by rfl, ?_⟩) hS1a ?_
            · intro wS hSw
              go_simp
            simp only [Act.put, List.setIfInBounds_toArray, List.set_cons_zero, List.set_cons_succ]
            refine wpAnyH_take (i := 14) (oi := { dst := some 129, op := .indexAddr 44 (.tmp 127) (.tmp 128), type := _, pos := _, after := _, guard := some (4, false) }) (v := .pointer (some ⟨lg, lo + i, none⟩)) rfl (by kernel_rfl) (by kernel_rfl) (by kernel_rfl) (fun _ _ _ h => h) (Or.inl ⟨by rfl, ?_⟩) hS1a ?_
            · intro wS hSw
              go_simp
            simp only [Act.put, List.setIfInBounds_toArray, List.set_cons_zero, List.set_cons_succ]
            refine wpAnyH_take (i := 15) (oi := { dst := some 130, op := .load 9 (.tmp 129), type := _, pos := _, after := _, guard := some (4, false) }) (v := .string nm) rfl (by kernel_rfl) (by kernel_rfl) (by kernel_rfl) (fun _ _ _ h => h) (Or.inl ⟨by rfl, ?_⟩) hS1a ?_
            · intro wS hSw
              have zc := HCl.out wS hSw; go_simp
            simp only [Act.put, List.setIfInBounds_toArray, List.set_cons_zero, List.set_cons_succ]
            refine wpAnyH_ready (rs := [10]) (by kernel_rfl) (by simp) ?_
            refine AllReadyH.cons (o := { dst := some 125, op := .call { callee := .value (.func 23), args := #[.tmp 120, .tmp 124], argTypes := #[22, 9] }, type := _, pos := _, after := _, guard := some (4, false) }) rfl (fun K hK => ?_) AllReadyH.nil
            rw [if_pos (by rfl)]
            have sv2a := hS1a.size
            go_wp2_with (go_at_call 23; refine (HLa.out x1a hS1a).mono ?_; rintro e x2a ⟨rfl, hb2a⟩)
            have sz2a := hb2a.size
            have hS2a := hS1a.trans (hb2a.mono hS1a.size)
            refine hK.out _ _ hS2a (fun _ => ?_)
            clear hK K
            refine wpAnyH_ready (rs := [16]) (by kernel_rfl) (by simp) ?_
            refine AllReadyH.cons (o := { dst := some 131, op := .call { callee := .value (.func 23), args := #[.tmp 126, .tmp 130], argTypes := #[22, 9] }, type := _, pos := _, after := _, guard := some (4, false) }) rfl (fun K hK => ?_) AllReadyH.nil
            rw [if_pos (by rfl)]
            have sv3a := hS2a.size
            go_wp2_with (go_at_call 23; refine (HLb.out x2a hS2a).mono ?_; rintro e x3a ⟨rfl, hb3a⟩)
            have sz3a := hb3a.size
            have hS3a := hS2a.trans (hb3a.mono hS2a.size)
            refine hK.out _ _ hS3a (fun _ => ?_)
            clear hK K
            refine wpAnyH_take (i := 17) (oi := { dst := some 132, op := .binOp .neq 3 (.tmp 125) (.tmp 131) 3, type := _, pos := _, after := _, guard := some (4, false) }) (v := .bool false) rfl (by kernel_rfl) (by kernel_rfl) (by kernel_rfl) (fun _ _ _ h => h) (Or.inl ⟨by rfl, ?_⟩) hS3a ?_
            · intro wS hSw
              go_simp
            simp only [Act.put, List.setIfInBounds_toArray, List.set_cons_zero, List.set_cons_succ]
            refine wpAnyH_take (i := 18) (oi := { dst := some 133, op := .pick (.tmp 119) (.const (.bool true)) (.tmp 132), type := _, pos := _, after := _, guard := none }) (v := .bool false) rfl (by kernel_rfl) (by kernel_rfl) (by kernel_rfl) (fun _ _ _ h => h) (Or.inl ⟨by rfl, ?_⟩) hS3a ?_
            · intro wS hSw
              go_simp
            simp only [Act.put, List.setIfInBounds_toArray, List.set_cons_zero, List.set_cons_succ]
            refine wpAnyH_done (by kernel_rfl) ?_ _
            have HBn := hidU (HB2.out.trans (hS3a.mono HB2.out.size))
            go_wp2
            go_roundw
            · exact ⟨i + 1, by go_num, by omega, HBn⟩
            · simp [intOf]; omega
          · have HTw := hidU (HT11.out.below Fa hB.out)
            have HBw := hidU (HB11.out.trans (hB.out.mono HB11.out.size))
            obtain ⟨sb, hsb⟩ : ∃ x : Bool, Hid (x = (D.lf == 0)) := ⟨_, (rfl : (D.lf == 0) = _)⟩
            have hss : sb = ((wa : Int) == p) := by
              rw [hsb.out, hwa.out, Bool.eq_iff_iff, beq_iff_eq, beq_iff_eq]
              have := HLf.out.1
              constructor <;> intro q <;> omega
            have H13 := hidU (HTw.out.one.stopped Fa hsb.out.symm)
            have HSe := hidU hss
            clear hss
            go_wp2_with (go_at_call 24; refine H13.out.mono ?_; rintro _ x1 ⟨rfl, hbx⟩; refine Hid.out ?_)
            refine hidU ?_
            have HB1 := hidU (HBw.out.trans (hbx.mono HBw.out.size))
            have H14 := hidU ((HTw.out.below Fa hbx).one.writes Fa (v := (wa : Int)) (by rw [hwa.out]))
            clear hbx H13
            go_wp2_with (go_at_call 25; refine H14.out.mono ?_; rintro _ x2 ⟨rfl, hbx⟩; refine Hid.out ?_)
            refine hidU ?_
            have HB2 := hidU (HB1.out.trans (hbx.mono HB1.out.size))
            have hss := HSe.out
            clear hbx H14
            go_wp2
            go_ret
            exact ⟨by rw [hss]; simp, HB2.out⟩
    · have HF := hidU (FIN.out wr hB HT' (by rw [HE.out, List.drop_of_length_le (by rw [← hm.out]; omega)]; rfl)).out
      clear HWr FIN hB HT'
      obtain ⟨HBf, n', hn', hTw, hfs, hwr⟩ := HF.out
      have HB6 := hidU HBf
      have HT6 := hidU hTw
      have HFs := hidU hfs
      have HWe := hidU hwr
      clear HBf hTw hfs hwr HF
      have H7 := hidU (HT6.out.one.names Fa (ns := D.fs.map Fi.nm) (by omega) rfl)
      have H8 : Hid (∀ x, Below wr.heap.size wr x → Calls Tryd.prog 20 #[.pointer (some ⟨gb, 0, none⟩)] x fun r w' => ∃ a c, r = .returned (.slice a (D.fs.map Fi.nm).length c) ∧ RowX eS w' a (D.fs.map Fi.nm) ∧ (D.fs.map Fi.nm).length ≤ c ∧ Below x.heap.size x w') := fun x hx => (HT6.out.below Fa hx).two.names Fa (ns := D.fs.map Fi.nm) (by omega) (by rw [HFs.out])
      obtain ⟨ns, hns⟩ : ∃ x, Hid (x = D.fs.map Fi.nm) := ⟨_, (rfl : D.fs.map Fi.nm = _)⟩
      rw [← hns.out] at H7 H8
      obtain ⟨k, hk⟩ : ∃ k, Hid (k = ns.length) := ⟨_, (rfl : ns.length = _)⟩
      rw [← hk.out] at H7 H8
      go_wp2_with (go_at_call 20; refine H7.out.mono ?_; rintro _ w7 ⟨la, lc, rfl, hrow, hlk, hb7⟩; refine Hid.out ?_)
      refine hidU ?_
      have HT7 := hidU (HT6.out.below Fa hb7)
      have HB7 := hidU (HB6.out.trans (hb7.mono HB6.out.size))
      have HR7 := hidU hrow
      have H9 := hidU (H8.out w7 hb7)
      clear hb7 hrow H7 H8 HT6 HB6
      go_wp2_with (go_at_call 20; refine H9.out.mono ?_; rintro _ w8 ⟨lb, lcb, rfl, hrow, hlkb, hb8⟩; refine Hid.out ?_)
      refine hidU ?_
      have HT8 := hidU (HT7.out.below Fa hb8)
      have HB8 := hidU (HB7.out.trans (hb8.mono HB7.out.size))
      have HR8 := hidU (HR7.out.below hb8)
      have HQ8 := hidU hrow
      clear hb8 hrow H9 HT7 HB7 HR7
      obtain ⟨wa, hwa⟩ : ∃ x, Hid (x = D.wr) := ⟨_, (rfl : D.wr = _)⟩
      have H10 := hidU (HT8.out.one.writes Fa (v := (wa : Int)) (by rw [hwa.out]))
      go_wp2_with (go_at_call 25; refine H10.out.mono ?_; rintro _ w9 ⟨rfl, hb9⟩; refine Hid.out ?_)
      refine hidU ?_
      have HT9 := hidU (HT8.out.below Fa hb9)
      have HB9 := hidU (HB8.out.trans (hb9.mono HB8.out.size))
      have HR9 := hidU (HR8.out.below hb9)
      have HQ9 := hidU (HQ8.out.below hb9)
      clear hb9 H10 HT8 HB8 HR8 HQ8
      have H11 := hidU (HT9.out.two.writes Fa (v := (wa : Int)) (by rw [hwa.out, HWe.out]))
      go_wp2_with (go_at_call 25; refine H11.out.mono ?_; rintro _ w10 ⟨rfl, hb9⟩; refine Hid.out ?_)
      refine hidU ?_
      have HT10 := hidU (HT9.out.below Fa hb9)
      have HB10 := hidU (HB9.out.trans (hb9.mono HB9.out.size))
      have HR10 := hidU (HR9.out.below hb9)
      have HQ10 := hidU (HQ9.out.below hb9)
      clear hb9 H11 HT9 HB9 HR9 HQ9
      have hk256 : k ≤ 256 := by rw [hk.out, hns.out, List.length_map]; obtain ⟨_, _, _, _, _, _, q, _⟩ := HT10.out; exact q.ln
      have H12 := hidU (sameTexts_any ns ns la lb lc lcb w10 HR10.out HQ10.out (by rw [← hk.out]; exact hlk) (by rw [← hk.out]; exact hlkb) (by rw [← hk.out]; omega) (by rw [← hk.out]; omega))
      rw [show sameS ns ns = true by simp [sameS], ← hk.out] at H12
      go_wp2_with (go_at_call 30; refine H12.out.mono ?_; rintro _ w11 ⟨rfl, hb9, _⟩; refine Hid.out ?_)
      refine hidU ?_
      have HT11 := hidU (HT10.out.below Fa hb9)
      have HB11 := hidU (HB10.out.trans (hb9.mono HB10.out.size))
      have HR11 := hidU (HR10.out.below hb9)
      clear hb9 H12 HT10 HB10 HR10 HQ10
      go_wp2
      go_loopw [13] (fun j wr => ∃ i : Nat, j = .int .i64 (i : Int) ∧ i ≤ k ∧ Hid (Below w11.heap.size w11 wr)) (fun j _ => k - (intOf j).toNat)
      case atStart => exact ⟨0, rfl, by omega, Below.refl _ _⟩
      case round =>
        obtain ⟨i, rfl, hi, hB⟩ := hrel
        by_cases hc : i < k
        · obtain ⟨f, hf⟩ : ∃ f, D.fs[i]? = some f := ⟨_, List.getElem?_eq_getElem (by rw [hk.out, hns.out, List.length_map] at hc; exact hc)⟩
          have hni : ns[i]? = some f.nm := by rw [hns.out, List.getElem?_map, hf]; rfl
          have hmem : f ∈ D.fs := List.mem_of_getElem? hf
          obtain ⟨gd, gdb⟩ : Gd (1 + m) D ∧ Gd n' Db := by obtain ⟨_, _, _, _, _, _, q, q', _⟩ := HT11.out; exact ⟨q, q'⟩
          have hlen : f.bs.length ≤ 67108864 := Nat.le_trans (mem_used hmem) (Nat.le_trans gd.us gd.sz)
          have HNz : Hid (f.nm.size ≤ 9223372036854775807) := Nat.le_trans (nmOk_size (HNm.out f hmem)) (by decide)
          obtain ⟨q1, q2, q3⟩ := rd_yes (find_self gd.so.apart f hmem)
          obtain ⟨q4, q5, q6⟩ := rd_yes (d := Db) (nm := f.nm) (f := f) (by rw [← HFs.out]; exact find_self gd.so.apart f hmem)
          obtain ⟨lg, lo, rfl, cl⟩ := row_cell (HR11.out.below hB.out) hni
          have HNi := hidU hni
          have Hr1 := hidU ((HT11.out.below Fa hB.out).one.read Fa (by omega) HNz.out q1 q2)
          have Hr2 : Hid (∀ x, Below wr.heap.size wr x → Calls Tryd.prog 13 #[.pointer (some ⟨gb, 0, none⟩), .string f.nm] x fun r w' => ∃ a c, r = .returned (.tuple #[.slice a f.bs.length c, .int .i64 0]) ∧ Row w' a f.bs ∧ f.bs.length ≤ c ∧ Below x.heap.size x w') := fun x hx =>
            ((HT11.out.below Fa (hB.out.trans (hx.mono hB.out.size))).two.read Fa (by omega) HNz.out q4 q5).mono fun r w' => by rintro ⟨a, c, e1, e2, e3, e4, _⟩; exact ⟨a, c, e1, e2, e3, e4⟩
          obtain ⟨v, hv⟩ : ∃ v : Int, Hid (v = (f.bs.length : Int) - f.sf) := ⟨_, (rfl : (f.bs.length : Int) - f.sf = _)⟩
          have HL1 : Hid (∀ x, Below w11.heap.size w11 x → Calls Tryd.prog 23 #[.pointer (some ⟨ga, 0, none⟩), .string f.nm] x fun r w' => r = .returned (.int .i64 v) ∧ Below x.heap.size x w') := fun x hx =>
            (HT11.out.below Fa hx).one.loose Fa (by omega) HNz.out (by rw [q3, hv.out])
          have HL2 : Hid (∀ x, Below w11.heap.size w11 x → Calls Tryd.prog 23 #[.pointer (some ⟨gb, 0, none⟩), .string f.nm] x fun r w' => r = .returned (.int .i64 v) ∧ Below x.heap.size x w') := fun x hx =>
            (HT11.out.below Fa hx).two.loose Fa (by omega) HNz.out (by rw [q6, hv.out])
          have HCl : Hid (∀ x, Below w11.heap.size w11 x → x.cell? ⟨lg, lo + i, none⟩ = some (.string f.nm)) := fun x hx => by
            obtain ⟨g', o', e, q⟩ := row_cell (HR11.out.below hx) HNi.out
            cases e
            exact q
          obtain ⟨bn, hbn⟩ : ∃ x, Hid (x = f.bs.length) := ⟨_, (rfl : f.bs.length = _)⟩
          obtain ⟨nm, hnm⟩ : ∃ x, Hid (x = f.nm) := ⟨_, (rfl : f.nm = _)⟩
          rw [← hbn.out] at hlen
          rw [← hbn.out, ← hnm.out] at Hr1 Hr2
          rw [← hnm.out] at cl HL1 HL2 HCl
          clear hf hni hmem q1 q2 q3 q4 q5 q6 gd gdb
          go_wp2_with (go_at_call 13; refine Hr1.out.mono ?_; rintro _ x1 ⟨ca, cc, rfl, hrb, hcc, hbx, _⟩; refine Hid.out ?_)
          refine hidU ?_
          have HB1 := hidU (hB.out.trans (hbx.mono hB.out.size))
          have HRc := hidU hrb
          have Hr3 := hidU (Hr2.out x1 hbx)
          have cl1 := HCl.out x1 HB1.out
          clear hbx hrb Hr1 Hr2 cl
          go_wp2_with (go_at_call 13; refine Hr3.out.mono ?_; rintro _ x2 ⟨da, dc, rfl, hrd, hdc, hbx⟩; refine Hid.out ?_)
          refine hidU ?_
          have HB2 := hidU (HB1.out.trans (hbx.mono HB1.out.size))
          have HRd := hidU hrd
          have HRc2 := hidU (HRc.out.below hbx)
          clear hbx hrd Hr3 cl1 HRc
          have HSb : Hid (∀ x, Below x2.heap.size x2 x → Calls Tryd.prog 31 #[.slice ca bn cc, .slice da bn dc] x fun r w' => r = .returned (.bool true) ∧ Below x.heap.size x w') := fun x hx => by
            have q := same_len ca da bn bn cc dc f.bs f.bs x (HRc2.out.below hx) (HRd.out.below hx) hbn.out.symm hbn.out.symm
            rw [show (f.bs == f.bs) = true from beq_self_eq_true _] at q
            exact q.mono fun r w' => by rintro ⟨e1, rfl⟩; exact ⟨e1, Below.refl _ _⟩
          have HLa : Hid (∀ x, Below x2.heap.size x2 x → Calls Tryd.prog 23 #[.pointer (some ⟨ga, 0, none⟩), .string nm] x fun r w' => r = .returned (.int .i64 v) ∧ Below x.heap.size x w') := fun x hx => HL1.out x (HB2.out.trans (hx.mono HB2.out.size))
          have HLb : Hid (∀ x, Below x2.heap.size x2 x → Calls Tryd.prog 23 #[.pointer (some ⟨gb, 0, none⟩), .string nm] x fun r w' => r = .returned (.int .i64 v) ∧ Below x.heap.size x w') := fun x hx => HL2.out x (HB2.out.trans (hx.mono HB2.out.size))
          have HCl0 := HCl
          clear HCl
          have HCl : Hid (∀ x, Below x2.heap.size x2 x → x.cell? ⟨lg, lo + i, none⟩ = some (.string nm)) := fun x hx => HCl0.out x (HB2.out.trans (hx.mono HB2.out.size))
          clear HCl0 HL1 HL2
          go_wp2
          have hS0a : Below x2.heap.size x2 x2.drew := Below.drew (Below.refl _ _)
          refine wp_region_held_drew (S := fun xS => Below x2.heap.size x2 xS) (by kernel_rfl) hS0a ?_
          obtain ⟨x0a, hx0⟩ : ∃ x, x = x2.drew := ⟨_, rfl⟩
          rw [← hx0] at hS0a  ⊢
          clear hx0
          intro _
          refine wpAnyH_take (i := 0) (oi := { dst := some 115, op := .move (.tmp 14), type := _, pos := _, after := _, guard := none }) (v := .slice ca bn cc) rfl (by kernel_rfl) (by kernel_rfl) (by kernel_rfl) (fun _ _ _ h => h) (Or.inl ⟨by rfl, ?_⟩) hS0a ?_
          · intro wS hSw
            go_simp
          simp only [Act.put, List.setIfInBounds_toArray, List.set_cons_zero, List.set_cons_succ]
          refine wpAnyH_take (i := 1) (oi := { dst := some 116, op := .move (.tmp 16), type := _, pos := _, after := _, guard := none }) (v := .slice da bn dc) rfl (by kernel_rfl) (by kernel_rfl) (by kernel_rfl) (fun _ _ _ h => h) (Or.inl ⟨by rfl, ?_⟩) hS0a ?_
          · intro wS hSw
            go_simp
          simp only [Act.put, List.setIfInBounds_toArray, List.set_cons_zero, List.set_cons_succ]
          refine wpAnyH_ready (rs := [2]) (by kernel_rfl) (by simp) ?_
          refine AllReadyH.cons (o := { dst := some 117, op := .call { callee := .value (.func 31), args := #[.tmp 115, .tmp 116], argTypes := #[29, 29] }, type := _, pos := _, after := _, guard := none }) rfl (fun K hK => ?_) AllReadyH.nil
          rw [if_pos (by rfl)]
          have sv1a := hS0a.size
          go_wp2_with (go_at_call 31; refine (HSb.out x0a hS0a).mono ?_; rintro e x1a ⟨rfl, hb1a⟩)
          have sz1a := hb1a.size
          have hS1a := hS0a.trans (hb1a.mono hS0a.size)
          refine hK.out _ _ hS1a (fun _ => ?_)
          clear hK K
          refine wpAnyH_take (i := 3) (oi := { dst := some 118, op := .unOp .not 4 (.tmp 117), type := _, pos := _, after := _, guard := none }) (v := .bool false) rfl (by kernel_rfl) (by kernel_rfl) (by kernel_rfl) (fun _ _ _ h => h) (Or.inl ⟨by rfl, ?_⟩) hS1a ?_
          · intro wS hSw
            go_simp
          simp only [Act.put, List.setIfInBounds_toArray, List.set_cons_zero, List.set_cons_succ]
          refine wpAnyH_take (i := 4) (oi := { dst := some 119, op := .move (.tmp 118), type := _, pos := _, after := _, guard := none }) (v := .bool false) rfl (by kernel_rfl) (by kernel_rfl) (by kernel_rfl) (fun _ _ _ h => h) (Or.inl ⟨by rfl, ?_⟩) hS1a ?_
          · intro wS hSw
            go_simp
          simp only [Act.put, List.setIfInBounds_toArray, List.set_cons_zero, List.set_cons_succ]
          refine wpAnyH_take (i := 5) (oi := { dst := some 120, op := .move (.tmp 6), type := _, pos := _, after := _, guard := some (4, false) }) (v := .pointer (some ⟨ga, 0, none⟩)) rfl (by kernel_rfl) (by kernel_rfl) (by kernel_rfl) (fun _ _ _ h => h) (Or.inl ⟨by rfl, ?_⟩) hS1a ?_
          · intro wS hSw
            go_simp
          simp only [Act.put, List.setIfInBounds_toArray, List.set_cons_zero, List.set_cons_succ]
          refine wpAnyH_take (i := 6) (oi := { dst := some 121, op := .move (.tmp 11), type := _, pos := _, after := _, guard := some (4, false) }) (v := .slice (some ⟨lg, lo, none⟩) k lc) rfl (by kernel_rfl) (by kernel_rfl) (by kernel_rfl) (fun _ _ _ h => h) (Or.inl ⟨by rfl, ?_⟩) hS1a ?_
          · intro wS hSw
            go_simp
          simp only [Act.put, List.setIfInBounds_toArray, List.set_cons_zero, List.set_cons_succ]
          refine wpAnyH_take (i := 7) (oi := { dst := some 122, op := .move (.tmp 13), type := _, pos := _, after := _, guard := some (4, false) }) (v := .int .i64 (i : Int)) rfl (by kernel_rfl) (by kernel_rfl) (by kernel_rfl) (fun _ _ _ h => h) (Or.inl ⟨by rfl, ?_⟩) hS1a ?_
          · intro wS hSw
            go_simp
          simp only [Act.put, List.setIfInBounds_toArray, List.set_cons_zero, List.set_cons_succ]
          refine wpAnyH_take (i := 8) (oi := { dst := some 123, op := .indexAddr 44 (.tmp 121) (.tmp 122), type := _, pos := _, after := _, guard := some (4, false) }) (v := .pointer (some ⟨lg, lo + i, none⟩)) rfl (by kernel_rfl) (by kernel_rfl) (by kernel_rfl) (fun _ _ _ h => h) (Or.inl ⟨by rfl, ?_⟩) hS1a ?_
          · intro wS hSw
            go_simp
          simp only [Act.put, List.setIfInBounds_toArray, List.set_cons_zero, List.set_cons_succ]
          refine wpAnyH_take (i := 9) (oi := { dst := some 124, op := .load 9 (.tmp 123), type := _, pos := _, after := _, guard := some (4, false) }) (v := .string nm) rfl (by kernel_rfl) (by kernel_rfl) (by kernel_rfl) (fun _ _ _ h => h) (Or.inl ⟨by rfl, ?_⟩) hS1a ?_
          · intro wS hSw
            have zc := HCl.out wS hSw; go_simp
          simp only [Act.put, List.setIfInBounds_toArray, List.set_cons_zero, List.set_cons_succ]
          refine wpAnyH_take (i := 11) (oi := { dst := some 126, op := .move (.tmp 8), type := _, pos := _, after := _, guard := some (4, false) }) (v := .pointer (some ⟨gb, 0, none⟩)) rfl (by kernel_rfl) (by kernel_rfl) (by kernel_rfl) (fun _ _ _ h => h) (Or.inl ⟨by rfl, ?_⟩) hS1a ?_
          · intro wS hSw
            go_simp
          simp only [Act.put, List.setIfInBounds_toArray, List.set_cons_zero, List.set_cons_succ]
          refine wpAnyH_take (i := 12) (oi := { dst := some 127, op := .move (.tmp 11), type := _, pos := _, after := _, guard := some (4, false) }) (v := .slice (some ⟨lg, lo, none⟩) k lc) rfl (by kernel_rfl) (by kernel_rfl) (by kernel_rfl) (fun _ _ _ h => h) (Or.inl ⟨by rfl, ?_⟩) hS1a ?_
          · intro wS hSw
            go_simp
          simp only [Act.put, List.setIfInBounds_toArray, List.set_cons_zero, List.set_cons_succ]
          refine wpAnyH_take (i := 13) (oi := { dst := some 128, op := .move (.tmp 13), type := _, pos := _, after := _, guard := some (4, false) }) (v := .int .i64 (i : Int)) rfl (by kernel_rfl) (by kernel_rfl) (by kernel_rfl) (fun _ _ _ h => h) (Or.inl ⟨by rfl, ?_⟩) hS1a ?_
          · intro wS hSw
            go_simp
          simp only [Act.put, List.setIfInBounds_toArray, List.set_cons_zero, List.set_cons_succ]
          refine wpAnyH_take (i := 14) (oi := { dst := some 129, op := .indexAddr 44 (.tmp 127) (.tmp 128), type := _, pos := _, after := _, guard := some (4, false) }) (v := .pointer (some ⟨lg, lo + i, none⟩)) rfl (by kernel_rfl) (by kernel_rfl) (by kernel_rfl) (fun _ _ _ h => h) (Or.inl ⟨by rfl, ?_⟩) hS1a ?_
          · intro wS hSw
            go_simp
          simp only [Act.put, List.setIfInBounds_toArray, List.set_cons_zero, List.set_cons_succ]
          refine wpAnyH_take (i := 15) (oi := { dst := some 130, op := .load 9 (.tmp 129), type := _, pos := _, after := _, guard := some (4, false) }) (v := .string nm) rfl (by kernel_rfl) (by kernel_rfl) (by kernel_rfl) (fun _ _ _ h => h) (Or.inl ⟨by rfl, ?_⟩) hS1a ?_
          · intro wS hSw
            have zc := HCl.out wS hSw; go_simp
          simp only [Act.put, List.setIfInBounds_toArray, List.set_cons_zero, List.set_cons_succ]
          refine wpAnyH_ready (rs := [10]) (by kernel_rfl) (by simp) ?_
          refine AllReadyH.cons (o := { dst := some 125, op := .call { callee := .value (.func 23), args := #[.tmp 120, .tmp 124], argTypes := #[22, 9] }, type := _, pos := _, after := _, guard := some (4, false) }) rfl (fun K hK => ?_) AllReadyH.nil
          rw [if_pos (by rfl)]
          have sv2a := hS1a.size
          go_wp2_with (go_at_call 23; refine (HLa.out x1a hS1a).mono ?_; rintro e x2a ⟨rfl, hb2a⟩)
          have sz2a := hb2a.size
          have hS2a := hS1a.trans (hb2a.mono hS1a.size)
          refine hK.out _ _ hS2a (fun _ => ?_)
          clear hK K
          refine wpAnyH_ready (rs := [16]) (by kernel_rfl) (by simp) ?_
          refine AllReadyH.cons (o := { dst := some 131, op := .call { callee := .value (.func 23), args := #[.tmp 126, .tmp 130], argTypes := #[22, 9] }, type := _, pos := _, after := _, guard := some (4, false) }) rfl (fun K hK => ?_) AllReadyH.nil
          rw [if_pos (by rfl)]
          have sv3a := hS2a.size
          go_wp2_with (go_at_call 23; refine (HLb.out x2a hS2a).mono ?_; rintro e x3a ⟨rfl, hb3a⟩)
          have sz3a := hb3a.size
          have hS3a := hS2a.trans (hb3a.mono hS2a.size)
          refine hK.out _ _ hS3a (fun _ => ?_)
          clear hK K
          refine wpAnyH_take (i := 17) (oi := { dst := some 132, op := .binOp .neq 3 (.tmp 125) (.tmp 131) 3, type := _, pos := _, after := _, guard := some (4, false) }) (v := .bool false) rfl (by kernel_rfl) (by kernel_rfl) (by kernel_rfl) (fun _ _ _ h => h) (Or.inl ⟨by rfl, ?_⟩) hS3a ?_
          · intro wS hSw
            go_simp
          simp only [Act.put, List.setIfInBounds_toArray, List.set_cons_zero, List.set_cons_succ]
          refine wpAnyH_take (i := 18) (oi := { dst := some 133, op := .pick (.tmp 119) (.const (.bool true)) (.tmp 132), type := _, pos := _, after := _, guard := none }) (v := .bool false) rfl (by kernel_rfl) (by kernel_rfl) (by kernel_rfl) (fun _ _ _ h => h) (Or.inl ⟨by rfl, ?_⟩) hS3a ?_
          · intro wS hSw
            go_simp
          simp only [Act.put, List.setIfInBounds_toArray, List.set_cons_zero, List.set_cons_succ]
          refine wpAnyH_done (by kernel_rfl) ?_ _
          have HBn := hidU (HB2.out.trans (hS3a.mono HB2.out.size))
          go_wp2
          go_roundw
          · exact ⟨i + 1, by go_num, by omega, HBn⟩
          · simp [intOf]; omega
        · have HTw := hidU (HT11.out.below Fa hB.out)
          have HBw := hidU (HB11.out.trans (hB.out.mono HB11.out.size))
          obtain ⟨sb, hsb⟩ : ∃ x : Bool, Hid (x = (D.lf == 0)) := ⟨_, (rfl : (D.lf == 0) = _)⟩
          have hss : sb = ((wa : Int) == p) := by
            rw [hsb.out, hwa.out, Bool.eq_iff_iff, beq_iff_eq, beq_iff_eq]
            have := HLf.out.1
            constructor <;> intro q <;> omega
          have H13 := hidU (HTw.out.one.stopped Fa hsb.out.symm)
          have HSe := hidU hss
          clear hss
          go_wp2_with (go_at_call 24; refine H13.out.mono ?_; rintro _ x1 ⟨rfl, hbx⟩; refine Hid.out ?_)
          refine hidU ?_
          have HB1 := hidU (HBw.out.trans (hbx.mono HBw.out.size))
          have H14 := hidU ((HTw.out.below Fa hbx).one.writes Fa (v := (wa : Int)) (by rw [hwa.out]))
          clear hbx H13
          go_wp2_with (go_at_call 25; refine H14.out.mono ?_; rintro _ x2 ⟨rfl, hbx⟩; refine Hid.out ?_)
          refine hidU ?_
          have HB2 := hidU (HB1.out.trans (hbx.mono HB1.out.size))
          have hss := HSe.out
          clear hbx H14
          go_wp2
          go_ret
          exact ⟨by rw [hss]; simp, HB2.out⟩
end Go.Proofs.YtcmkjjlchljffaaDoor

/- Maps whose keys are texts, of elements of any kind. -/
namespace Go.Proofs.YtcmkjjlchljffaaDoor
open Go.RowKit Go.Maps Go.MapKept Go.WideMaps
set_option linter.unusedVariables false

/-- A map's type: the type of its elements, the value of one, the zero value. -/
structure Mt (α : Type) where
  T : TypeId
  E : TypeId
  val : α → Value
  z : Value
  und : Tryd.prog.underlying T = some (.map 9 E)
  hz : ∀ w, (zeroValue E).run Tryd.prog w = .ok z w
theorem u9 : Tryd.prog.underlying 9 = some .string := by kernel_rfl
theorem key9 : Keyed Tryd.prog 9 := string_keyed u9
def keyB {α : Type} (s : ByteArray) (p : ByteArray × α) : Bool := p.1.toList == s.toList
theorem toL_inj {a b : ByteArray} (h : a.toList = b.toList) : a = b := by
  rw [ByteArray.toList_eq, ByteArray.toList_eq] at h
  apply ByteArray.ext
  exact Array.toList_inj.1 h
theorem keyB_iff {α : Type} {s : ByteArray} {p : ByteArray × α} : keyB s p = true ↔ p.1 = s := ⟨fun h => toL_inj (beq_iff_eq.1 h), fun h => by rw [keyB, h]; simp⟩
theorem keyB_not {α : Type} {s : ByteArray} {p : ByteArray × α} : keyB s p = false ↔ p.1 ≠ s := by rw [Bool.eq_false_iff, ne_eq, keyB_iff]
theorem nodup_of_map {α β : Type} (f : α → β) : ∀ {l : List α}, (l.map f).Nodup → l.Nodup
  | [], _ => List.nodup_nil
  | a :: l, h => by
    rw [List.map_cons, List.nodup_cons] at h
    exact List.nodup_cons.2 ⟨fun hm => h.1 (List.mem_map.2 ⟨a, hm, rfl⟩), nodup_of_map f h.2⟩
/-- A map in memory. -/
def MapS {α : Type} (t : Mt α) (w : World) (b : Nat) (m : List (ByteArray × α)) : Prop :=
  ∃ arr clock, w.heap[b]? = some (.map arr clock) ∧ Stamped arr clock ∧ arr.toList.map (fun e => (e.key, e.val)) = m.map (fun p => (Value.string p.1, t.val p.2)) ∧ ∀ p ∈ m, p.1.size ≤ maxLen
def lookM {α : Type} (m : List (ByteArray × α)) (s : ByteArray) : Option α := (m.find? (keyB s)).map (·.2)
def updM {α : Type} (m : List (ByteArray × α)) (s : ByteArray) (x : α) : List (ByteArray × α) := if (lookM m s).isSome then m.map (fun p => if keyB s p then (s, x) else p) else m ++ [(s, x)]
def delM {α : Type} (m : List (ByteArray × α)) (s : ByteArray) : List (ByteArray × α) := m.filter fun p => !keyB s p
section
variable {α : Type} {t : Mt α} {w w' : World} {b : Nat} {m : List (ByteArray × α)} {s : ByteArray} {x : α}
theorem MapS.same (h : MapS t w b m) (e : w'.heap[b]? = w.heap[b]?) : MapS t w' b m := by
  obtain ⟨arr, clock, h1, h2⟩ := h
  exact ⟨arr, clock, e.trans h1, h2⟩
theorem MapS.lt (h : MapS t w b m) : b < w.heap.size := by
  obtain ⟨arr, clock, h1, h2⟩ := h
  exact heapLt h1
theorem MapS.below (h : MapS t w b m) (hb : Below w.heap.size w w') : MapS t w' b m := h.same (hb.block b h.lt)
theorem MapS.made (t : Mt α) (w : World) : MapS t (w.alloc (.map #[] 0)) w.heap.size [] := ⟨#[], 0, _root_.Go.heap_alloc_new w _, ⟨fun _ h => (by cases h), List.nodup_nil, List.nodup_nil⟩, rfl, fun _ h => by cases h⟩
theorem MapS.nodup (h : MapS t w b m) : (m.map (·.1)).Nodup := by
  obtain ⟨arr, clock, h1, ⟨_, _, h2⟩, h3, h4⟩ := h
  have e : arr.toList.map (·.key) = (m.map (·.1)).map Value.string := by
    have := congrArg (List.map Prod.fst) h3
    rw [List.map_map, List.map_map] at this
    rw [List.map_map]
    exact this
  rw [e] at h2
  exact nodup_of_map _ h2
theorem find_of_mem (hn : (m.map (·.1)).Nodup) (h : (s, x) ∈ m) : m.find? (keyB s) = some (s, x) := by
  induction m with
  | nil => cases h
  | cons p m ih =>
    rw [List.map_cons, List.nodup_cons] at hn
    by_cases hp : keyB s p = true
    · rw [List.find?_cons_of_pos hp]
      rcases List.mem_cons.1 h with e | e
      · rw [e]
      · exfalso
        apply hn.1
        rw [keyB_iff.1 hp]
        exact List.mem_map.2 ⟨_, e, rfl⟩
    · rw [List.find?_cons_of_neg hp]
      rcases List.mem_cons.1 h with e | e
      · exact absurd (keyB_iff.2 (by rw [← e])) hp
      · exact ih hn.2 e
/-- What is found. -/
theorem MapS.find (h : MapS t w b m) (hs : s.size ≤ maxLen) : ∃ arr clock, w.heap[b]? = some (.map arr clock) ∧ Stamped arr clock ∧ arr.toList.map (fun e => (e.key, e.val)) = m.map (fun p => (Value.string p.1, t.val p.2)) ∧
    (((Instr.findKey 9 (.string s) arr.toList).run Tryd.prog w = .ok none w ∧ (∀ e ∈ arr.toList, e.key ≠ .string s) ∧ lookM m s = none ∧ ∀ p ∈ m, keyB s p = false) ∨
     ∃ j x, (Instr.findKey 9 (.string s) arr.toList).run Tryd.prog w = .ok (some (j, t.val x)) w ∧ lookM m s = some x ∧ m[j]? = some (s, x) ∧ (arr[j]?).map (·.key) = some (.string s)) := by
  have hnd := h.nodup
  obtain ⟨arr, clock, h1, h2, h3, h4⟩ := h
  refine ⟨arr, clock, h1, h2, h3, ?_⟩
  have hkey : ∀ u : ByteArray, u.size ≤ maxLen → ∃ l, keyOf Tryd.prog 9 (.string u) = some l := fun u hu => ⟨_, keyOf_string_mk u9 hu⟩
  obtain ⟨lx, hlx⟩ := hkey s hs
  have hall : ∀ e ∈ arr.toList, ∃ l, keyOf Tryd.prog 9 e.key = some l := by
    intro e he
    have : (e.key, e.val) ∈ arr.toList.map (fun e => (e.key, e.val)) := List.mem_map.2 ⟨e, he, rfl⟩
    rw [h3] at this
    obtain ⟨p, hp, hq⟩ := List.mem_map.1 this
    injection hq with hq _
    rw [← hq]
    exact hkey _ (h4 p hp)
  rcases key9.find w hlx arr.toList hall with ⟨f1, f2⟩ | ⟨j, e, f1, f2, f3⟩
  · refine .inl ⟨f1, f2, ?_, ?_⟩
    · have : m.find? (keyB s) = none := by
        rw [List.find?_eq_none]
        intro p hp hk
        have : (Value.string p.1, t.val p.2) ∈ arr.toList.map (fun e => (e.key, e.val)) := by rw [h3]; exact List.mem_map.2 ⟨p, hp, rfl⟩
        obtain ⟨e, he, hq⟩ := List.mem_map.1 this
        injection hq with hq _
        exact f2 e he (by rw [hq, keyB_iff.1 hk])
      rw [lookM, this]
      rfl
    · intro p hp
      rw [keyB_not]
      intro hk
      have : (Value.string p.1, t.val p.2) ∈ arr.toList.map (fun e => (e.key, e.val)) := by rw [h3]; exact List.mem_map.2 ⟨p, hp, rfl⟩
      obtain ⟨e, he, hq⟩ := List.mem_map.1 this
      injection hq with hq _
      exact f2 e he (by rw [hq, hk])
  · have hj := congrArg (fun l => l[j]?) h3
    simp only [List.getElem?_map, f2, Option.map_some] at hj
    cases hm : m[j]? with
    | none => rw [hm] at hj; cases hj
    | some p =>
      rw [hm] at hj
      simp only [Option.map_some, Option.some.injEq, Prod.mk.injEq] at hj
      obtain ⟨g1, g2⟩ := hj
      rw [f3] at g1
      injection g1 with g1
      obtain ⟨p1, p2⟩ := p
      simp only at g1 g2
      subst g1
      refine .inr ⟨j, p2, by rw [f1, g2], ?_, hm, ?_⟩
      · rw [lookM, find_of_mem hnd (List.mem_of_getElem? hm)]
        rfl
      · rw [← Array.getElem?_toList, f2]
        simp [f3]
theorem MapS.look (h : MapS t w b m) (hs : s.size ≤ maxLen) (c : Bool) : (Instr.lookup t.T (.map (some b)) (.string s) c).run Tryd.prog w = .ok (if c then .tuple #[((lookM m s).map t.val).getD t.z, .bool (lookM m s).isSome] else ((lookM m s).map t.val).getD t.z) w := by
  obtain ⟨arr, clock, h1, h2, h3, hc⟩ := h.find hs
  obtain ⟨lx, hlx⟩ : ∃ l, keyOf Tryd.prog 9 (.string s) = some l := ⟨_, keyOf_string_mk u9 hs⟩
  rcases hc with ⟨f1, f2, f3, _⟩ | ⟨j, x, f1, f2, f3, f4⟩
  · rw [f3]
    simp [Instr.lookup, run_underlying t.und, MapKept.run_getObj_map h1, key9.check w _ hlx, f1, t.hz, Result.andThen]
  · rw [f2]
    simp [Instr.lookup, run_underlying t.und, MapKept.run_getObj_map h1, key9.check w _ hlx, f1, Result.andThen]
theorem MapS.len (h : MapS t w b m) (ty : TypeId) : (Builtin.len_ #[t.T] ty #[.map (some b)]).run Tryd.prog w = .ok (.int .i64 (m.length : Int)) w := by
  obtain ⟨arr, clock, h1, h2, h3, h4⟩ := h
  have e : arr.size = m.length := by have := congrArg List.length h3; simpa using this
  simp [Builtin.len_, run_underlying t.und, MapKept.run_getObj_map h1, goInt, Result.andThen, e]
theorem key_at (hn : (m.map (·.1)).Nodup) {i j : Nat} {p : ByteArray × α} (hj : m[j]? = some (s, x)) (hi : m[i]? = some p) : keyB s p = true ↔ i = j := by
  have h1 : (m.map (·.1))[j]? = some s := by rw [List.getElem?_map, hj]; rfl
  have h2 : (m.map (·.1))[i]? = some p.1 := by rw [List.getElem?_map, hi]; rfl
  constructor
  · intro hk
    rw [keyB_iff.1 hk] at h2
    have l1 := (List.getElem?_eq_some_iff.1 h2).1
    exact (List.getElem?_inj l1 hn).1 (h2.trans h1.symm)
  · rintro rfl
    rw [hi] at hj
    cases hj
    exact keyB_iff.2 rfl
def setB (w : World) (b : Nat) (o : Obj) : World := { w with heap := w.heap.setIfInBounds b o }
theorem putB {arr : Array MapEntry} {clock : Nat} {o : Obj} (h1 : w.heap[b]? = some (.map arr clock)) : But b w (setB w b o) ∧ (setB w b o).heap.size = w.heap.size ∧ (setB w b o).heap[b]? = some o := by
  have hlt := heapLt h1
  refine ⟨⟨rfl, rfl, rfl, by simp [setB], fun k hk hne => by simp only [setB]; rw [Array.getElem?_setIfInBounds_ne (fun e => hne e.symm)]⟩, by simp [setB], by simp [setB, hlt]⟩
theorem MapS.update (h : MapS t w b m) (hs : s.size ≤ maxLen) (x : α) : ∃ w', (Instr.mapUpdate t.T (.map (some b)) (.string s) (t.val x)).run Tryd.prog w = .ok () w' ∧ MapS t w' b (updM m s x) ∧ But b w w' ∧ w'.heap.size = w.heap.size := by
  have hnd := h.nodup
  have h4 : ∀ p ∈ m, p.1.size ≤ maxLen := by obtain ⟨_, _, _, _, _, h4⟩ := h; exact h4
  obtain ⟨arr, clock, h1, h2, h3, hc⟩ := h.find hs
  obtain ⟨lx, hlx⟩ : ∃ l, keyOf Tryd.prog 9 (.string s) = some l := ⟨_, keyOf_string_mk u9 hs⟩
  have put := fun o => putB (o := o) h1
  rcases hc with ⟨f1, f2, f3, f5⟩ | ⟨j, y, f1, f2, f3, f4⟩
  · obtain ⟨p1, p2, p3⟩ := put (.map (arr.push ⟨.string s, t.val x, clock⟩) (clock + 1))
    refine ⟨_, ?_, ⟨_, _, p3, stamped_push h2 f2, ?_, ?_⟩, p1, p2⟩
    · simp [Instr.mapUpdate, run_underlying t.und, MapKept.run_getObj_map h1, key9.check w _ hlx, f1, Result.andThen, MapKept.run_setObj_map _ h1, setB]
    · rw [updM, f3]
      simp [h3]
    · intro p hp
      rw [updM, f3] at hp
      rcases List.mem_append.1 hp with hp | hp
      · exact h4 p hp
      · simp at hp
        rw [hp]
        exact hs
  · have hk : ((arr[j]?).map (·.key)).getD (.string s) = .string s := by rw [f4]; rfl
    obtain ⟨p1, p2, p3⟩ := put (.map (arr.modify j fun e => { e with key := .string s, val := t.val x }) clock)
    refine ⟨_, ?_, ⟨_, _, p3, stamped_modify h2 j _ (fun _ _ => rfl) (fun e _ he => by rw [he] at f4; simp at f4; exact f4.symm), ?_, ?_⟩, p1, p2⟩
    · simp [Instr.mapUpdate, run_underlying t.und, MapKept.run_getObj_map h1, key9.check w _ hlx, f1, hk, key9.stays w hlx, Result.andThen, MapKept.run_setObj_map _ h1, setB]
    · rw [updM, f2]
      refine List.ext_getElem? fun i => ?_
      have hi := congrArg (fun l => l[i]?) h3
      simp only [List.getElem?_map] at hi
      simp only [List.getElem?_map, Array.getElem?_toList, Array.getElem?_modify, Option.isSome_some, if_true]
      cases hm : m[i]? with
      | none =>
        rw [hm] at hi
        simp only [Option.map_none, Option.map_eq_none_iff, Array.getElem?_toList] at hi
        rw [hi]
        simp
      | some p =>
        rw [hm] at hi
        simp only [Option.map_some] at hi
        rw [Array.getElem?_toList] at hi
        cases ha : arr[i]? with
        | none => rw [ha] at hi; cases hi
        | some e =>
          rw [ha] at hi
          simp only [Option.map_some, Option.some.injEq] at hi
          by_cases hij : i = j
          · subst hij
            have hkb := (key_at hnd f3 hm).2 rfl
            simp [hkb]
          · have hkb : keyB s p = false := by rw [Bool.eq_false_iff]; exact fun hk => hij ((key_at hnd f3 hm).1 hk)
            rw [if_neg (fun e => hij e.symm)]
            simp [hkb, hi]
    · intro p hp
      rw [updM, f2] at hp
      simp only [Option.isSome_some, if_true] at hp
      obtain ⟨q, hq, rfl⟩ := List.mem_map.1 hp
      split
      · exact hs
      · exact h4 q hq
theorem filter_erase : ∀ (m : List (ByteArray × α)) (j : Nat), (∀ i p, m[i]? = some p → (keyB s p = true ↔ i = j)) → m.filter (fun p => !keyB s p) = m.eraseIdx j
  | [], _, _ => by simp
  | p :: m, 0, h => by
    have h0 := (h 0 p rfl).2 rfl
    rw [List.filter_cons_of_neg (by simp [h0]), List.eraseIdx_cons_zero, List.filter_eq_self]
    intro q hq
    obtain ⟨i, hi⟩ := List.getElem?_of_mem hq
    have := h (i + 1) q (by simpa using hi)
    simp only [Nat.add_eq_zero_iff, Nat.succ_ne_self, and_false, iff_false] at this
    simpa using this
  | p :: m, j + 1, h => by
    have h0 : keyB s p = false := by
      rw [Bool.eq_false_iff]
      intro hk
      have := (h 0 p rfl).1 hk
      omega
    rw [List.filter_cons_of_pos (by simp [h0]), List.eraseIdx_cons_succ, filter_erase m j fun i q hq => ?_]
    have := h (i + 1) q (by simpa using hq)
    rw [this]
    omega
theorem MapS.delete (h : MapS t w b m) (hs : s.size ≤ maxLen) (ty : TypeId) : ∃ w', (Builtin.delete_ #[t.T, 9] ty #[.map (some b), .string s]).run Tryd.prog w = .ok (.tuple #[]) w' ∧ MapS t w' b (delM m s) ∧ But b w w' ∧ w'.heap.size = w.heap.size := by
  have hnd := h.nodup
  have h4 : ∀ p ∈ m, p.1.size ≤ maxLen := by obtain ⟨_, _, _, _, _, h4⟩ := h; exact h4
  obtain ⟨arr, clock, h1, h2, h3, hc⟩ := h.find hs
  obtain ⟨lx, hlx⟩ : ∃ l, keyOf Tryd.prog 9 (.string s) = some l := ⟨_, keyOf_string_mk u9 hs⟩
  have put := fun o => putB (o := o) h1
  rcases hc with ⟨f1, f2, f3, f5⟩ | ⟨j, y, f1, f2, f3, f4⟩
  · obtain ⟨p1, p2, p3⟩ := put (.map arr clock)
    refine ⟨_, ?_, ⟨_, _, p3, h2, ?_, fun p hp => h4 p (List.mem_filter.1 hp).1⟩, p1, p2⟩
    · simp [Builtin.delete_, run_underlying t.und, MapKept.run_getObj_map h1, key9.check w _ hlx, f1, Result.andThen, MapKept.run_setObj_map _ h1, setB]
    · rw [delM, List.filter_eq_self.2 (fun p hp => by simp [f5 p hp])]
      exact h3
  · obtain ⟨p1, p2, p3⟩ := put (.map (arr.eraseIdxIfInBounds j) clock)
    have hjs : j < arr.size := by
      have := (List.getElem?_eq_some_iff.1 f3).1
      have e := congrArg List.length h3
      simp at e
      omega
    refine ⟨_, ?_, ⟨_, _, p3, stamped_erase h2 j, ?_, fun p hp => h4 p (List.mem_filter.1 hp).1⟩, p1, p2⟩
    · simp [Builtin.delete_, run_underlying t.und, MapKept.run_getObj_map h1, key9.check w _ hlx, f1, Result.andThen, MapKept.run_setObj_map _ h1, setB]
    · rw [delM, filter_erase m j fun i p hp => key_at hnd f3 hp]
      have hsub : (arr.eraseIdxIfInBounds j).toList = arr.toList.eraseIdx j := by
        unfold Array.eraseIdxIfInBounds
        rw [dif_pos hjs]
        simp
      rw [hsub]
      have : ∀ {β γ : Type} (f : β → γ) (l : List β) (k : Nat), (l.eraseIdx k).map f = (l.map f).eraseIdx k := by
        intro β γ f l
        induction l with
        | nil => intro k; simp
        | cons a l ih => intro k; cases k <;> simp [ih]
      rw [this, this, h3]
end
section
variable {α : Type} (t : Mt α) {o : Oper} {a : Act} {w : World} {Q : Exit → Act → World → Prop} {ops : Array Oper} {rest : List Oper} {b : Nat} {m : List (ByteArray × α)}
theorem wpList_upd (hg : o.guard = none) (mo xo vo : Operand) (hop : o.op = Op.mapUpdate t.T mo xo vo) (s : ByteArray) (x : α) (hm : a.eval mo = .map (some b)) (hx : a.eval xo = .string s) (hv : a.eval vo = t.val x) (h : MapS t w b m) (hs : s.size ≤ maxLen)
    (hK : ∀ w', MapS t w' b (updM m s x) → But b w w' → w'.heap.size = w.heap.size → wpList Tryd.prog ops Q rest (a.put o.dst undef) w') : wpList Tryd.prog ops Q (o :: rest) a w := by
  refine wpList_plain hg fun K' hK' => ?_
  obtain ⟨w', hrun, r1, r2, r3⟩ := h.update hs x
  unfold Oper.wp
  simp [execOp, hop, hm, hx, hv, hrun, Result.andThen]
  exact hK' _ _ (hK w' r1 r2 r3)
theorem wpList_del (hg : o.guard = none) (mo xo : Operand) (hop : o.op = Op.call { callee := Callee.builtin Builtin.delete, args := #[mo, xo], argTypes := #[t.T, 9] }) (s : ByteArray) (hm : a.eval mo = .map (some b)) (hx : a.eval xo = .string s) (h : MapS t w b m) (hs : s.size ≤ maxLen)
    (hK : ∀ w', MapS t w' b (delM m s) → But b w w' → w'.heap.size = w.heap.size → wpList Tryd.prog ops Q rest (a.put o.dst (.tuple #[])) w') : wpList Tryd.prog ops Q (o :: rest) a w := by
  refine wpList_plain hg fun K' hK' => ?_
  obtain ⟨w', hrun, r1, r2, r3⟩ := h.delete hs o.type
  unfold Oper.wp
  simp [execOp, hop, resolve, invoke, builtin, hm, hx, hrun, Result.andThen]
  exact hK' _ _ (hK w' r1 r2 r3)
theorem wpList_look (hg : o.guard = none) (mo xo : Operand) (c : Bool) (hop : o.op = Op.lookup t.T mo xo c) (s : ByteArray) (hm : a.eval mo = .map (some b)) (hx : a.eval xo = .string s) (h : MapS t w b m) (hs : s.size ≤ maxLen) (r : Value)
    (hr : r = if c then .tuple #[((lookM m s).map t.val).getD t.z, .bool (lookM m s).isSome] else ((lookM m s).map t.val).getD t.z) (hK : wpList Tryd.prog ops Q rest (a.put o.dst r) w) : wpList Tryd.prog ops Q (o :: rest) a w := by
  refine wpList_plain hg fun K' hK' => ?_
  have hrun := h.look hs c
  rw [← hr] at hrun
  unfold Oper.wp
  simp [execOp, hop, hm, hx, hrun, Result.andThen]
  exact hK' _ _ hK
end
end Go.Proofs.YtcmkjjlchljffaaDoor

/- The landed disk in memory: its cells, its map of files, each file's bytes in a block of its own. -/
namespace Go.Proofs.YtcmkjjlchljffaaDoor
open Go.RowKit
set_option linter.unusedVariables false

/-- A file of the map: its bytes' slice, the bytes, how many are safe, whether it lasts. -/
structure FM where
  v : Value
  bs : List UInt8
  sf : Nat
  hd : Bool
def FM.val (f : FM) : Value := .agg #[f.v, .int .i64 (f.sf : Int), .bool f.hd]
def FM.cells (f : FM) : List Value := [f.v, .int .i64 (f.sf : Int), .bool f.hd]
def toFi (p : ByteArray × FM) : Fi := ⟨p.1, p.2.bs, p.2.sf, p.2.hd⟩
def mF : Mt FM := ⟨33, 66, FM.val, .agg #[.slice none 0 0, .int .i64 0, .bool false], by kernel_rfl, fun w => by kernel_rfl⟩
abbrev FMap := List (ByteArray × FM)
/-- The blocks of a disk. -/
def FW (g mb : Nat) (m : FMap) : Nat → Prop := fun k => k = g ∨ k = mb ∨ ∃ p ∈ m, p.2.v.ownBlock = some k
/-- The landed disk in memory. -/
structure Ds (B : Nat) (w : World) (g mb : Nat) (m : FMap) (sz : Nat) (lf : Int) (wr : Nat) : Prop where
  at_ : At 35 w g [.pointer (some ⟨g, 0, none⟩), .int .i64 (sz : Int), .map (some mb), .int .i64 lf, .int .i64 (wr : Int)]
  mp : MapS mF w mb m
  own : ∀ p ∈ m, OwnX eB B w p.2.v p.2.bs
  apart : ∀ p ∈ m, ∀ q ∈ m, p.1 ≠ q.1 → ∀ k, p.2.v.ownBlock = some k → q.2.v.ownBlock ≠ some k
  bg : B ≤ g
  bm : B ≤ mb
  ns : ∀ p ∈ m, p.1.size ≤ 40
section
variable {B g mb : Nat} {w w' : World} {m : FMap} {sz wr : Nat} {lf : Int}
theorem Ds.same (h : Ds B w g mb m sz lf wr) (k : ∀ k, FW g mb m k → w'.heap[k]? = w.heap[k]?) : Ds B w' g mb m sz lf wr :=
  ⟨h.at_.same (k g (.inl rfl)), h.mp.same (k mb (.inr (.inl rfl))), fun p hp => (h.own p hp).same fun i hi => k i (.inr (.inr ⟨p, hp, hi⟩)), h.apart, h.bg, h.bm, h.ns⟩
theorem Ds.lt (h : Ds B w g mb m sz lf wr) : ∀ k, FW g mb m k → k < w.heap.size := by
  rintro k (rfl | rfl | ⟨p, hp, hk⟩)
  · exact heapLt h.at_
  · exact h.mp.lt
  · exact ((h.own p hp).block k hk).2.1
theorem Ds.base (h : Ds B w g mb m sz lf wr) : ∀ k, FW g mb m k → B ≤ k := by
  rintro k (rfl | rfl | ⟨p, hp, hk⟩)
  · exact h.bg
  · exact h.bm
  · exact ((h.own p hp).block k hk).1
theorem Ds.below (h : Ds B w g mb m sz lf wr) (hb : Below w.heap.size w w') : Ds B w' g mb m sz lf wr := h.same fun k hk => hb.block k (h.lt k hk)
theorem Ds.ne (h : Ds B w g mb m sz lf wr) : g ≠ mb := by
  intro e
  obtain ⟨arr, clock, h1, _⟩ := h.mp
  have h2 : w.heap[g]? = some (.cells _ 35 (0, 0)) := h.at_
  rw [e, h1] at h2
  cases h2
theorem Ds.neG (h : Ds B w g mb m sz lf wr) {p : ByteArray × FM} (hp : p ∈ m) : p.2.v.ownBlock ≠ some g := fun e => by
  obtain ⟨_, _, cs, hA⟩ := (h.own p hp).block g e
  exact hA.ne h.at_ (show (5 : Nat) ≠ 35 by decide) rfl
theorem Ds.neM (h : Ds B w g mb m sz lf wr) {p : ByteArray × FM} (hp : p ∈ m) : p.2.v.ownBlock ≠ some mb := fun e => by
  obtain ⟨_, _, cs, hA⟩ := (h.own p hp).block mb e
  obtain ⟨arr, clock, h1, _⟩ := h.mp
  have h2 : w.heap[mb]? = some (.cells _ 5 (0, 0)) := hA
  rw [h1] at h2
  cases h2
theorem find_lk (nm : ByteArray) : ∀ m : FMap, (m.map toFi).find? (isN nm) = (m.find? (keyB nm)).map toFi
  | [] => rfl
  | p :: m => by
    rw [List.map_cons]
    cases hk : keyB nm p with
    | true => rw [List.find?_cons_of_pos (by exact hk), List.find?_cons_of_pos hk]; rfl
    | false => rw [List.find?_cons_of_neg (by show ¬ (keyB nm p = true); rw [hk]; simp), List.find?_cons_of_neg (by rw [hk]; simp)]; exact find_lk nm m
theorem look_find {nm : ByteArray} {m : FMap} : (m.map toFi).find? (isN nm) = (lookM m nm).map (fun f => toFi (nm, f)) := by
  rw [find_lk, lookM]
  cases hf : m.find? (keyB nm) with
  | none => rfl
  | some p =>
    have := keyB_iff.1 (List.find?_some hf)
    subst this
    rfl
theorem look_mem {nm : ByteArray} {m : FMap} {f : FM} (h : lookM m nm = some f) : (nm, f) ∈ m := by
  unfold lookM at h
  cases hf : m.find? (keyB nm) with
  | none => rw [hf] at h; cases h
  | some p =>
    rw [hf] at h
    have h1 := keyB_iff.1 (List.find?_some hf)
    injection h with h
    rw [← h, ← h1]
    exact List.mem_of_find?_eq_some hf
theorem isN_inj {a b : ByteArray} {f : Fi} (h : f.nm = b) : isN a f = false ↔ a ≠ b := by
  unfold isN
  rw [h, beq_eq_false_iff_ne, ne_eq, ne_eq]
  exact ⟨fun q e => q (by rw [e]), fun q e => q (toL_inj e).symm⟩
end
/-- What the program's disk is. -/
structure CDv (B : Nat) (w : World) (g mb : Nat) (W F : Nat → Prop) (m : FMap) (d : Dk) : Prop where
  ds : Ds B w g mb m d.sz d.lf d.wr
  fs : (m.map toFi).Perm d.fs
  sub : ∀ k, FW g mb m k → W k
  wf : ∀ k, W k → F k ∧ B ≤ k
  lt : ∀ k, F k → k < w.heap.size
def CDp : CDT := fun B w g W F d => ∃ mb m, CDv B w g mb W F m d
section
variable {B g mb : Nat} {w w' : World} {W F : Nat → Prop} {m : FMap} {d : Dk}
theorem CDv.same (h : CDv B w g mb W F m d) (k : ∀ k, F k → w'.heap[k]? = w.heap[k]?) (hs : w.heap.size ≤ w'.heap.size) : CDv B w' g mb W F m d :=
  ⟨h.ds.same fun i hi => k i (h.wf i (h.sub i hi)).1, h.fs, h.sub, h.wf, fun i hi => Nat.lt_of_lt_of_le (h.lt i hi) hs⟩
/-- Names are apart. -/
theorem apart_of {fs : List Fi} (hn : (fs.map Fi.nm).Nodup) : fs.Pairwise (fun a b => isN a.nm b = false) := by
  rw [List.nodup_iff_pairwise_ne, List.pairwise_map] at hn
  exact hn.imp fun {a b} q => (isN_inj rfl).2 q
theorem CDv.nodup (h : CDv B w g mb W F m d) : (d.fs.map Fi.nm).Nodup := by
  have h1 := h.ds.mp.nodup
  have h2 := h.fs.map Fi.nm
  rw [List.map_map] at h2
  exact h2.nodup_iff.1 h1
theorem find_perm {nm : ByteArray} : ∀ {a b : List Fi}, a.Perm b → (a.map Fi.nm).Nodup → a.find? (isN nm) = b.find? (isN nm) := by
  intro a b hp hn
  cases ha : a.find? (isN nm) with
  | none =>
    symm
    rw [List.find?_eq_none] at ha ⊢
    exact fun x hx => ha x (hp.mem_iff.2 hx)
  | some f =>
    cases hb : b.find? (isN nm) with
    | none =>
      rw [List.find?_eq_none] at hb
      exact absurd (List.find?_some ha) (hb f (hp.mem_iff.1 (List.mem_of_find?_eq_some ha)))
    | some f' =>
      have m1 := List.mem_of_find?_eq_some ha
      have m2 := hp.mem_iff.2 (List.mem_of_find?_eq_some hb)
      have e1 := List.find?_some ha
      have e2 := List.find?_some hb
      have en : f.nm = f'.nm := by
        unfold isN at e1 e2
        rw [beq_iff_eq] at e1 e2
        exact toL_inj (e1.trans e2.symm)
      congr 1
      clear ha hb e1 e2 hp
      revert m1 m2
      induction a with
      | nil => intro m1; cases m1
      | cons x a ih =>
        intro m1 m2
        rw [List.map_cons, List.nodup_cons] at hn
        rcases List.mem_cons.1 m1 with q1 | q1
        · rcases List.mem_cons.1 m2 with q2 | q2
          · rw [q1, q2]
          · exact absurd (List.mem_map.2 ⟨f', q2, by rw [← en, q1]⟩) hn.1
        · rcases List.mem_cons.1 m2 with q2 | q2
          · exact absurd (List.mem_map.2 ⟨f, q1, by rw [en, q2]⟩) hn.1
          · exact ih hn.2 q1 q2
theorem CDv.find (h : CDv B w g mb W F m d) (nm : ByteArray) : d.fs.find? (isN nm) = (lookM m nm).map (fun f => toFi (nm, f)) := by
  rw [← look_find]
  refine (find_perm h.fs ?_).symm
  rw [List.map_map]
  exact h.ds.mp.nodup
end
end Go.Proofs.YtcmkjjlchljffaaDoor

/- The landed disk: what it tells of itself. -/
namespace Go.Proofs.YtcmkjjlchljffaaDoor
open Go.RowKit
set_option linter.unusedVariables false
set_option maxRecDepth 100000

section
variable {g : Nat} {w : World} {c1 c2 c3 c4 : Value}
theorem i35 : ∃ j, Tryd.prog.info? 35 = some j := by
  cases h : Tryd.prog.info? 35 with
  | some j => exact ⟨j, rfl⟩
  | none =>
    have : (Tryd.prog.info? 35).isSome = true := by kernel_rfl
    rw [h] at this; cases this
theorem eq_ptr (a : Addr) (u : World) : (binOp .eql 22 (.pointer (some a)) (.pointer (some a))).run Tryd.prog u = .ok (.bool true) u := by
  obtain ⟨j, hj⟩ := i35
  exact run_eql_ptr_same u a Tryd.underlying22 hj
theorem eq_ptr0 (a : Addr) (u : World) : (binOp .eql 22 (.pointer none) (.pointer (some a))).run Tryd.prog u = .ok (.bool false) u := by
  have h : ∀ d : Nat, (Op.equalIn (d + 1) 22 (.pointer none) (.pointer (some a))).run Tryd.prog u = .ok false u := fun d => by
    simp [Op.equalIn, run_underlying Tryd.underlying22]
  simp only [binOp]
  simp [Op.equal, Op.maxDepth, h 9999]
theorem made_yes (h : At 35 w g [.pointer (some ⟨g, 0, none⟩), c1, c2, c3, c4]) : Calls Tryd.prog 33 #[.pointer (some ⟨g, 0, none⟩)] w fun r w' => r = .returned (.bool true) ∧ w' = w := by
  have q := h.cell 0
  simp only [List.getElem?_cons_zero] at q
  go_enter Tryd.func33, Tryd.ntmps33
  go_wp2
  rw [eq_ptr]
  go_wp2
  go_ret
  exact ⟨rfl, rfl⟩
theorem made_no (h : At 35 w g [.pointer none, c1, c2, c3, c4]) : Calls Tryd.prog 33 #[.pointer (some ⟨g, 0, none⟩)] w fun r w' => r = .returned (.bool false) ∧ w' = w := by
  have q := h.cell 0
  simp only [List.getElem?_cons_zero] at q
  go_enter Tryd.func33, Tryd.ntmps33
  go_wp2
  rw [eq_ptr0]
  go_wp2
  go_ret
  exact ⟨rfl, rfl⟩
theorem made_nil (w : World) : Calls Tryd.prog 33 #[.pointer none] w fun r w' => r = .returned (.bool false) ∧ w' = w := by
  go_enter Tryd.func33, Tryd.ntmps33
  go_wp2
  go_ret
  exact ⟨rfl, rfl⟩
end
section
variable {B g mb : Nat} {w : World} {m : FMap} {sz wr : Nat} {lf : Int}
theorem size_p (h : Ds B w g mb m sz lf wr) : Calls Tryd.prog 22 #[.pointer (some ⟨g, 0, none⟩)] w fun r w' => r = .returned (.int .i64 (sz : Int)) ∧ w' = w := by
  have HM := hidU (made_yes h.at_)
  have q := h.at_.cell 1
  simp only [List.getElem?_cons_zero, List.getElem?_cons_succ] at q
  clear h
  go_enter Tryd.func22, Tryd.ntmps22
  go_wp2_with (go_at_call 33; refine HM.out.mono ?_; rintro _ w1 ⟨rfl, hw⟩; obtain rfl : w = w1 := hw.symm; clear hw)
  go_ret
  exact ⟨rfl, rfl⟩
theorem writes_p (h : Ds B w g mb m sz lf wr) : Calls Tryd.prog 25 #[.pointer (some ⟨g, 0, none⟩)] w fun r w' => r = .returned (.int .i64 (wr : Int)) ∧ w' = w := by
  have HM := hidU (made_yes h.at_)
  have q := h.at_.cell 4
  simp only [List.getElem?_cons_zero, List.getElem?_cons_succ] at q
  clear h
  go_enter Tryd.func25, Tryd.ntmps25
  go_wp2_with (go_at_call 33; refine HM.out.mono ?_; rintro _ w1 ⟨rfl, hw⟩; obtain rfl : w = w1 := hw.symm; clear hw)
  go_ret
  exact ⟨rfl, rfl⟩
theorem stopped_p (h : Ds B w g mb m sz lf wr) : Calls Tryd.prog 24 #[.pointer (some ⟨g, 0, none⟩)] w fun r w' => r = .returned (.bool (lf == 0)) ∧ w' = w := by
  have HM := hidU (made_yes h.at_)
  have q := h.at_.cell 3
  simp only [List.getElem?_cons_zero, List.getElem?_cons_succ] at q
  clear h
  go_enter Tryd.func24, Tryd.ntmps24
  go_wp2_with (go_at_call 33; refine HM.out.mono ?_; rintro _ w1 ⟨rfl, hw⟩; obtain rfl : w = w1 := hw.symm; clear hw)
  go_ret
  exact ⟨rfl, rfl⟩
end
/-- A file's loose bytes. -/
theorem loose_any (f : FM) (n : Nat) (c : Nat) (a : Option Addr) (w : World) (hv : f.v = .slice a n c) (hs : f.sf ≤ 4611686018427387904) (hn : n ≤ 4611686018427387904) : Calls Tryd.prog 51 #[f.val] w fun r w' => r = .returned (.int .i64 ((n : Int) - f.sf)) ∧ Below w.heap.size w w' := by
  obtain ⟨v, bs, sf, hd⟩ := f
  simp only at hv hs
  subst hv
  unfold FM.val
  go_enter Tryd.func51, Tryd.ntmps51
  go_wp2
  go_ret
  exact ⟨rfl, (Below.refl _ w).alloc (Nat.le_refl _) _⟩
end Go.Proofs.YtcmkjjlchljffaaDoor

/- The landed disk: made, New, lacks, Loose. -/
namespace Go.Proofs.YtcmkjjlchljffaaDoor
open Go.RowKit
set_option linter.unusedVariables false
set_option maxRecDepth 100000
set_option maxHeartbeats 3200000

section
variable {B g mb : Nat} {w : World} {m : FMap} {sz wr : Nat} {lf : Int} {nm : ByteArray}
theorem Ds.files (h : Ds B w g mb m sz lf wr) : w.cell? ⟨g, 2, none⟩ = some (.map (some mb)) := by
  have q := h.at_.cell 2
  simpa only [List.getElem?_cons_zero, List.getElem?_cons_succ] using q
def lkZ (m : FMap) (nm : ByteArray) : Int := if (lookM m nm).isSome then 0 else 6
theorem lacks_p (h : Ds B w g mb m sz lf wr) (hs : nm.size ≤ 9223372036854775807) : Calls Tryd.prog 49 #[.pointer (some ⟨g, 0, none⟩), .string nm] w fun r w' => r = .returned (.int .i64 (lkZ m nm)) ∧ Below w.heap.size w w' := by
  have HM := hidU (made_yes h.at_)
  have q := h.files
  have HP := hidU h.mp
  obtain ⟨R, hR⟩ : ∃ R, Hid (R = lkZ m nm) := ⟨_, (rfl : _ = lkZ _ _)⟩
  rw [← hR.out]
  cases hl : lookM m nm with
  | none =>
    have e : R = 6 := by rw [hR.out, lkZ, hl]; rfl
    subst e
    have HL := hidU hl
    clear h hR hl
    go_enter Tryd.func49, Tryd.ntmps49
    go_wp2_with (first
      | (go_at_call 33; refine HM.out.mono ?_; rintro _ w1 ⟨rfl, hw⟩; obtain rfl : w = w1 := hw.symm; clear hw)
      | (refine wpList_look mF rfl (.tmp 14) (.tmp 15) true rfl nm rfl rfl HP.out hs (.tuple #[.agg #[.slice none 0 0, .int .i64 0, .bool false], .bool false]) (by rw [HL.out]; rfl) ?_))
    go_ret
    exact ⟨rfl, (Below.refl _ w).alloc (Nat.le_refl _) _⟩
  | some f =>
    have e : R = 0 := by rw [hR.out, lkZ, hl]; rfl
    subst e
    obtain ⟨a, c, hv, _⟩ := (h.own _ (look_mem hl)).row
    obtain ⟨v, bs, sf, hd⟩ := f
    simp only at hv
    subst hv
    have HL := hidU hl
    obtain ⟨n, hn⟩ : ∃ n, Hid (bs.length = n) := ⟨_, (rfl : bs.length = _)⟩
    rw [hn.out] at HL
    clear h hR hl
    go_enter Tryd.func49, Tryd.ntmps49
    go_wp2_with (first
      | (go_at_call 33; refine HM.out.mono ?_; rintro _ w1 ⟨rfl, hw⟩; obtain rfl : w = w1 := hw.symm; clear hw)
      | (refine wpList_look mF rfl (.tmp 14) (.tmp 15) true rfl nm rfl rfl HP.out hs (.tuple #[.agg #[.slice a n c, .int .i64 (sf : Int), .bool hd], .bool true]) (by rw [HL.out]; rfl) ?_))
    go_ret
    exact ⟨rfl, (Below.refl _ w).alloc (Nat.le_refl _) _⟩
end
end Go.Proofs.YtcmkjjlchljffaaDoor

/- The landed disk: Loose, Stop, made, New. -/
namespace Go.Proofs.YtcmkjjlchljffaaDoor
open Go.RowKit
set_option linter.unusedVariables false
set_option maxRecDepth 100000
set_option maxHeartbeats 3200000

section
variable {B g mb : Nat} {w : World} {m : FMap} {sz wr : Nat} {lf : Int} {nm : ByteArray}
theorem look_parts {f : FM} (h : Ds B w g mb m sz lf wr) (hl : lookM m nm = some f) : ∃ a n c bs sf hd, f = ⟨.slice a n c, bs, sf, hd⟩ ∧ bs.length = n ∧ n ≤ c ∧ c ≤ maxLen ∧ (a = none → c = 0) ∧ Row w a bs ∧ OwnX eB B w (.slice a n c) bs := by
  have ho := h.own _ (look_mem hl)
  obtain ⟨a, c, hv, h1, h2, h3, _, h4⟩ := ho.row
  obtain ⟨v, bs, sf, hd⟩ := f
  simp only at hv
  subst hv
  exact ⟨a, bs.length, c, bs, sf, hd, rfl, rfl, h1, h2, h3, rowB.1 h4, ho⟩
def lsM (m : FMap) (nm : ByteArray) : Int := match lookM m nm with | some f => (f.bs.length : Int) - f.sf | none => 0
theorem loose_p (h : Ds B w g mb m sz lf wr) (hs : nm.size ≤ 9223372036854775807) (hb : ∀ p ∈ m, p.2.bs.length ≤ 4611686018427387904 ∧ p.2.sf ≤ 4611686018427387904) : Calls Tryd.prog 23 #[.pointer (some ⟨g, 0, none⟩), .string nm] w fun r w' => r = .returned (.int .i64 (lsM m nm)) ∧ Below w.heap.size w w' := by
  have HM := hidU (made_yes h.at_)
  have q := h.files
  have HP := hidU h.mp
  obtain ⟨R, hR⟩ : ∃ R, Hid (R = lsM m nm) := ⟨_, (rfl : _ = lsM _ _)⟩
  rw [← hR.out]
  cases hl : lookM m nm with
  | none =>
    have e : R = 0 := by rw [hR.out, lsM, hl]
    subst e
    have HL := hidU hl
    have HC := hidU (loose_any ⟨.slice none 0 0, [], 0, false⟩ 0 0 none w rfl (by decide) (by decide))
    clear h hR hl
    go_enter Tryd.func23, Tryd.ntmps23
    go_wp2_with (first
      | (go_at_call 33; refine HM.out.mono ?_; rintro _ w1 ⟨rfl, hw⟩; obtain rfl : w = w1 := hw.symm; clear hw)
      | (refine wpList_look mF rfl (.tmp 11) (.tmp 12) false rfl nm rfl rfl HP.out hs (.agg #[.slice none 0 0, .int .i64 0, .bool false]) (by rw [HL.out]; rfl) ?_)
      | (go_at_call 51; refine HC.out.mono ?_; rintro _ w1 ⟨rfl, hw⟩))
    go_ret
    exact ⟨rfl, hw⟩
  | some f =>
    obtain ⟨a, n, c, bs, sf, hd, rfl, hn, _, _, _, _, _⟩ := look_parts h hl
    have e : R = (n : Int) - sf := by rw [hR.out, lsM, hl]; simp only; rw [hn]
    subst e
    have HL := hidU hl
    have hbb := hb _ (look_mem hl)
    simp only [hn] at hbb
    have HC := hidU (loose_any ⟨.slice a n c, bs, sf, hd⟩ n c a w rfl hbb.2 hbb.1)
    clear h hR hl hn hb hbb
    go_enter Tryd.func23, Tryd.ntmps23
    go_wp2_with (first
      | (go_at_call 33; refine HM.out.mono ?_; rintro _ w1 ⟨rfl, hw⟩; obtain rfl : w = w1 := hw.symm; clear hw)
      | (refine wpList_look mF rfl (.tmp 11) (.tmp 12) false rfl nm rfl rfl HP.out hs (.agg #[.slice a n c, .int .i64 (sf : Int), .bool hd]) (by rw [HL.out]; rfl) ?_)
      | (go_at_call 51; refine HC.out.mono ?_; rintro _ w1 ⟨rfl, hw⟩))
    go_ret
    exact ⟨rfl, hw⟩
theorem stop_p (z : Int) (h : Ds B w g mb m sz lf wr) : Calls Tryd.prog 18 #[.pointer (some ⟨g, 0, none⟩), .int .i64 z] w fun r w' => r = .returned (.int .i64 (stZ z)) ∧ Ds B w' g mb m sz (if z < 0 then lf else if lf = 0 then 0 else z) wr ∧ But g w w' := by
  have HM := hidU (made_yes h.at_)
  have HS := hidU (stopped_p h)
  have HA := hidU h.at_
  have q := h.at_.cell 3
  simp only [List.getElem?_cons_zero, List.getElem?_cons_succ] at q
  have HK := hidU (fun (w' : World) (y : Int) (hb : But g w w') (hA : At 35 w' g [.pointer (some ⟨g, 0, none⟩), .int .i64 (sz : Int), .map (some mb), .int .i64 y, .int .i64 (wr : Int)]) =>
    (⟨hA, h.mp.same (hb.block _ h.mp.lt fun e => h.ne e.symm), fun p hp => (h.own p hp).same fun i hi => hb.block i ((h.own p hp).block i hi).2.1 (fun e => h.neG hp (e ▸ hi)), h.apart, h.bg, h.bm, h.ns⟩ : Ds B w' g mb m sz y wr))
  have H0 := hidU h
  clear h
  obtain ⟨Z, hZ⟩ : ∃ Z, Hid (Z = stZ z) := ⟨_, (rfl : _ = stZ _)⟩
  rw [← hZ.out]
  by_cases hz : z < 0
  · have e : Z = 2 := by rw [hZ.out, stZ, if_pos hz]
    subst e
    rw [if_pos hz]
    go_enter Tryd.func18, Tryd.ntmps18
    go_wp2_with (first
      | (go_at_call 33; refine HM.out.mono ?_; rintro _ w1 ⟨rfl, hw⟩; obtain rfl : w = w1 := hw.symm; clear hw))
    go_ret
    exact ⟨rfl, H0.out, But.refl _ _⟩
  · have e : Z = 0 := by rw [hZ.out, stZ, if_neg hz]
    subst e
    rw [if_neg hz]
    by_cases hl : lf = 0
    · subst hl
      rw [if_pos rfl]
      go_enter Tryd.func18, Tryd.ntmps18
      go_wp2_with (first
        | (go_at_call 33; refine HM.out.mono ?_; rintro _ w1 ⟨rfl, hw⟩; obtain rfl : w = w1 := hw.symm; clear hw)
        | (go_at_call 24; refine HS.out.mono ?_; rintro _ w1 ⟨rfl, hw⟩; obtain rfl : w = w1 := hw.symm; clear hw))
      go_ret
      exact ⟨rfl, H0.out, But.refl _ _⟩
    · rw [if_neg hl]
      have HS2 : Hid (Calls Tryd.prog 24 #[.pointer (some ⟨g, 0, none⟩)] w fun r w' => r = .returned (.bool false) ∧ w' = w) := by
        refine hidU (HS.out.mono ?_)
        rintro r w' ⟨rfl, h⟩
        exact ⟨by rw [beq_eq_false_iff_ne.2 hl], h⟩
      clear HS
      go_enter Tryd.func18, Tryd.ntmps18
      go_wp2_with (first
        | (go_at_call 33; refine HM.out.mono ?_; rintro _ w1 ⟨rfl, hw⟩; obtain rfl : w = w1 := hw.symm; clear hw)
        | (go_at_call 24; refine HS2.out.mono ?_; rintro _ w1 ⟨rfl, hw⟩; obtain rfl : w = w1 := hw.symm; clear hw)
        | (refine wpList_store1 rfl 3 (.tmp 19) (.tmp 17) rfl g 3 (.int .i64 z) rfl rfl 35 _ HA.out (by simp) i3 rfl rfl ?_; intro w2 hA2 hb2 hs2; simp only [List.set] at hA2))
      go_ret
      exact ⟨rfl, HK.out _ _ hb2 hA2, hb2⟩
end
theorem made_any (p : Option Addr) (x y z : Int) (mb : Nat) (w : World) : Calls Tryd.prog 32 #[.agg #[.pointer p, .int .i64 x, .map (some mb), .int .i64 y, .int .i64 z]] w fun r w' => r = .returned (.pointer (some ⟨w.heap.size, 0, none⟩)) ∧ At 35 w' w.heap.size [.pointer (some ⟨w.heap.size, 0, none⟩), .int .i64 x, .map (some mb), .int .i64 y, .int .i64 z] ∧ Below w.heap.size w w' ∧ w'.heap.size = w.heap.size + 1 := by
  go_enter Tryd.func32, Tryd.ntmps32
  go_wp2
  go_ret
  exact ⟨rfl, _root_.Go.heap_alloc_new w _, (Below.refl _ w).alloc (Nat.le_refl _) _, by simp⟩
theorem new_bad (n : Int) (w : World) (h : n < 1 ∨ 67108864 < n) : Calls Tryd.prog 8 #[.int .i64 n] w fun r w' => r = .returned (.tuple #[.pointer none, .int .i64 2]) ∧ Below w.heap.size w w' := by
  by_cases h1 : n < 1
  · clear h
    go_enter Tryd.func8, Tryd.ntmps8
    go_wp2
    go_ret2
    exact ⟨rfl, Below.refl _ _⟩
  · have h2 : 67108864 < n := h.resolve_left h1
    clear h
    go_enter Tryd.func8, Tryd.ntmps8
    go_wp2
    go_ret2
    exact ⟨rfl, Below.refl _ _⟩
theorem new_ok (n : Nat) (w : World) (h1 : 1 ≤ n) (h2 : n ≤ 67108864) : Calls Tryd.prog 8 #[.int .i64 (n : Int)] w fun r w' => ∃ g mb, r = .returned (.tuple #[.pointer (some ⟨g, 0, none⟩), .int .i64 0]) ∧ Ds w.heap.size w' g mb [] n (-1) 0 ∧ Below w.heap.size w w' := by
  have h1' : ¬ (n : Int) < 1 := by omega
  have h2' : ¬ (67108864 : Int) < n := by omega
  have hM := hidU (MapS.made mF w)
  have hB1 := hidU ((Below.refl w.heap.size w).alloc (Nat.le_refl _) (.map #[] 0))
  have hs1 : (w.alloc (.map #[] 0)).heap.size = w.heap.size + 1 := by simp
  have hmm := @run_makeMap Tryd.prog
  go_enter Tryd.func8, Tryd.ntmps8
  go_wp2_with (go_at_call 32; refine (made_any none n (-1) 0 w.heap.size (w.alloc (.map #[] 0))).mono ?_; rintro _ w1 ⟨rfl, hA, hb, hs⟩)
  go_ret2
  rw [hs1] at hA
  refine ⟨_, w.heap.size, rfl, ⟨hA, hM.out.below hb, fun p hp => (by cases hp), fun p hp => (by cases hp), by omega, Nat.le_refl _, fun p hp => (by cases hp)⟩, hB1.out.trans (hb.mono hB1.out.size)⟩
end Go.Proofs.YtcmkjjlchljffaaDoor

/-
  DERIVED: THE SHELF's CONTRACTS AT THIS DUMP, IN PLAIN WORDS (tools/lay-plain.mjs out of 'YtcmkjjlchljffaaDoorShelf.lean', which tools/lay-shelf.mjs wrote): THE SAME DECLARATIONS UNDER THE SAME NAMES: 'import', 'namespace', 'open', 'def', 'theorem' AND NOTHING ELSE: no command of the shelf's: FOR A HAND-IN. Each laying: the table of numbers ('.._ren') and one theorem, a field a fact of the dump's own or the kernel's comparison; each contract: ONE APPLICATION.
-/
namespace Go.Proofs
open Go.Shelf
def Tryd.lays160_ren : Go.Shelf.Ren := ⟨fun | 160 => 62 | 232 => 68 | 231 => 67 | 227 => 69 | 234 => 71 | 233 => 70 | 236 => 73 | 235 => 72 | 228 => 77 | 271 => 80 | 151 => 79 | 197 => 78 | 120 => 94 | 152 => 93 | 260 => 92 | 137 => 101 | 119 => 102 | 224 => 103 | 225 => 104 | 217 => 106 | 266 => 107 | n => n, fun | 9 => 9 | 4 => 4 | 3 => 3 | 5 => 5 | 117 => 89 | 116 => 88 | 0 => 0 | 124 => 92 | 21 => 21 | 105 => 99 | 46 => 96 | 119 => 122 | 139 => 125 | 138 => 124 | n => n, fun | 3 => 0 | 4 => 1 | n => n⟩
theorem Tryd.lays160 : Go.Proofs.Lays.n160 Tryd.prog Tryd.lays160_ren := {
  mixed := by kernel_rfl
  f119 := Tryd.func102.trans (congrArg some (by kernel_rfl))
  f120 := Tryd.func94.trans (congrArg some (by kernel_rfl))
  f137 := Tryd.func101.trans (congrArg some (by kernel_rfl))
  f151 := Tryd.func79.trans (congrArg some (by kernel_rfl))
  f152 := Tryd.func93.trans (congrArg some (by kernel_rfl))
  f160 := Tryd.func62.trans (congrArg some (by kernel_rfl))
  f197 := Tryd.func78.trans (congrArg some (by kernel_rfl))
  f217 := Tryd.func106.trans (congrArg some (by kernel_rfl))
  f224 := Tryd.func103.trans (congrArg some (by kernel_rfl))
  f225 := Tryd.func104.trans (congrArg some (by kernel_rfl))
  f227 := Tryd.func69.trans (congrArg some (by kernel_rfl))
  f228 := Tryd.func77.trans (congrArg some (by kernel_rfl))
  f231 := Tryd.func67.trans (congrArg some (by kernel_rfl))
  f232 := Tryd.func68.trans (congrArg some (by kernel_rfl))
  f233 := Tryd.func70.trans (congrArg some (by kernel_rfl))
  f234 := Tryd.func71.trans (congrArg some (by kernel_rfl))
  f235 := Tryd.func72.trans (congrArg some (by kernel_rfl))
  f236 := Tryd.func73.trans (congrArg some (by kernel_rfl))
  f260 := Tryd.func92.trans (congrArg some (by kernel_rfl))
  f266 := Tryd.func107.trans (congrArg some (by kernel_rfl))
  f271 := Tryd.func80.trans (congrArg some (by kernel_rfl))
  t0 := Tryd.underlying0
  a0 := Tryd.isAgg0
  z0 := Tryd.sizeOf0
  v0 := Tryd.zeroValue0
  t3 := Tryd.underlying3
  a3 := Tryd.isAgg3
  z3 := Tryd.sizeOf3
  v3 := Tryd.zeroValue3
  t4 := Tryd.underlying4
  a4 := Tryd.isAgg4
  z4 := Tryd.sizeOf4
  v4 := Tryd.zeroValue4
  t5 := Tryd.underlying5
  a5 := Tryd.isAgg5
  z5 := Tryd.sizeOf5
  v5 := Tryd.zeroValue5
  t9 := Tryd.underlying9
  a9 := Tryd.isAgg9
  z9 := Tryd.sizeOf9
  v9 := Tryd.zeroValue9
  t21 := Tryd.underlying21
  a21 := Tryd.isAgg21
  z21 := Tryd.sizeOf21
  v21 := Tryd.zeroValue21
  t46 := Tryd.underlying96
  a46 := Tryd.isAgg96
  z46 := Tryd.sizeOf96
  v46 := Tryd.zeroValue96
  t105 := Tryd.underlying99
  a105 := Tryd.isAgg99
  z105 := Tryd.sizeOf99
  v105 := Tryd.zeroValue99
  t116 := Tryd.underlying88
  a116 := Tryd.isAgg88
  z116 := Tryd.sizeOf88
  t117 := Tryd.underlying89
  a117 := Tryd.isAgg89
  z117 := Tryd.sizeOf89
  v117 := Tryd.zeroValue89
  t119 := Tryd.underlying122
  a119 := Tryd.isAgg122
  z119 := Tryd.sizeOf122
  t124 := Tryd.underlying92
  a124 := Tryd.isAgg92
  z124 := Tryd.sizeOf92
  v124 := Tryd.zeroValue92
  t138 := Tryd.underlying124
  a138 := Tryd.isAgg124
  z138 := Tryd.sizeOf124
  v138 := Tryd.zeroValue124
  t139 := Tryd.underlying125
  a139 := Tryd.isAgg125
  z139 := Tryd.sizeOf125
  v139 := Tryd.zeroValue125
  g3 := by kernel_rfl
  g4 := by kernel_rfl }
open Go.RowKit in
/-- strings.Trim by a set of letters below 128. -/
theorem Tryd.trim_any (s cutset : ByteArray) (w : World) (hs : s.size ≤ 9223372036854775807) (hcs : cutset.size < 4294967281) (hascii : ∀ (j : Nat) b, cutset.data.toList[j]? = some b → b.toNat < 128) :
    Calls Tryd.prog 62 #[.string s, .string cutset] w fun e w' => e = .returned (.string ⟨(Lib.trimS s.data.toList cutset.data.toList).toArray⟩) ∧ Below w.heap.size w w' := Any.strings_Trim_laid Tryd.lays160 (by kernel_rfl) s cutset w hs hcs hascii
def Tryd.laysM316_ren : Go.Shelf.Ren := ⟨fun | 316 => 66 | n => n, fun | 9 => 9 | 3 => 3 | 4 => 4 | 37 => 29 | 0 => 0 | 127 => 97 | 5 => 5 | n => n, fun | n => n⟩
theorem Tryd.laysM316 : Go.Proofs.LaysM.n316 Tryd.prog Tryd.laysM316_ren := {
  mixed := by kernel_rfl
  f316 := Tryd.func66.trans (congrArg some (by kernel_rfl))
  t0 := Tryd.underlying0
  a0 := Tryd.isAgg0
  z0 := Tryd.sizeOf0
  v0 := Tryd.zeroValue0
  t3 := Tryd.underlying3
  a3 := Tryd.isAgg3
  z3 := Tryd.sizeOf3
  v3 := Tryd.zeroValue3
  t4 := Tryd.underlying4
  a4 := Tryd.isAgg4
  z4 := Tryd.sizeOf4
  v4 := Tryd.zeroValue4
  t9 := Tryd.underlying9
  a9 := Tryd.isAgg9
  z9 := Tryd.sizeOf9
  v9 := Tryd.zeroValue9
  t37 := Tryd.underlying29
  a37 := Tryd.isAgg29
  z37 := Tryd.sizeOf29
  v37 := Tryd.zeroValue29
  t127 := Tryd.underlying97
  a127 := Tryd.isAgg97
  z127 := Tryd.sizeOf97
  v127 := Tryd.zeroValue97
  t5 := Tryd.underlying5
  a5 := Tryd.isAgg5
  z5 := Tryd.sizeOf5
  v5 := Tryd.zeroValue5
  i0 := by kernel_rfl
  i3 := by kernel_rfl
  i4 := by kernel_rfl
  i5 := by kernel_rfl
  i9 := by kernel_rfl
  i37 := by kernel_rfl
  i127 := by kernel_rfl }
open Go.RowKit in
/-- strings.Clone's inner call. -/
theorem Tryd.stringslite_Clone (s : ByteArray) (w : World) (hlim : s.size ≤ 281474976710656) :
    Calls Tryd.prog 66 #[.string s] w fun e w' => e = .returned (.string s) ∧ Below w.heap.size w w' := Any.stringslite_Clone Tryd.laysM316 s w hlim
def Tryd.keys59_ren : Go.Shelf.Ren := ⟨fun | 7 => 59 | 10 => 65 | n => n, fun | 23 => 33 | 26 => 9 | 3 => 66 | 28 => 79 | 0 => 0 | 27 => 78 | 33 => 62 | 4 => 4 | n => n, fun | n => n⟩
theorem Tryd.keys59 : Go.Proofs.SlLaysZ.n7 Tryd.prog Tryd.keys59_ren := {
  mixed := by kernel_rfl
  f7 := ⟨Tryd.f59.name, by decide, Tryd.func59.trans (congrArg some (by kernel_rfl))⟩
  f10 := ⟨Tryd.f65.name, by decide, Tryd.func65.trans (congrArg some (by kernel_rfl))⟩
  t0 := Tryd.underlying0
  a0 := Tryd.isAgg0
  z0 := Tryd.sizeOf0
  v0 := Tryd.zeroValue0
  t4 := Tryd.underlying4
  a4 := Tryd.isAgg4
  z4 := Tryd.sizeOf4
  v4 := Tryd.zeroValue4
  t23 := Tryd.underlying33
  a23 := Tryd.isAgg33
  z23 := Tryd.sizeOf33
  v23 := Tryd.zeroValue33
  t26 := Tryd.underlying9
  a26 := Tryd.isAgg9
  z26 := Tryd.sizeOf9
  v26 := Tryd.zeroValue9
  t27 := Tryd.underlying78
  a27 := Tryd.isAgg78
  z27 := Tryd.sizeOf78
  v27 := Tryd.zeroValue78
  t28 := Tryd.underlying79
  a28 := Tryd.isAgg79
  z28 := Tryd.sizeOf79
  v28 := Tryd.zeroValue79
  t33 := Tryd.underlying62
  a33 := Tryd.isAgg62
  z33 := Tryd.sizeOf62
  v33 := Tryd.zeroValue62 }
def Tryd.sorted58_ren : Go.Shelf.Ren := ⟨fun | 6 => 58 | 8 => 63 | 9 => 64 | 11 => 74 | 13 => 76 | 12 => 75 | 23 => 90 | 24 => 91 | 14 => 81 | 15 => 82 | 16 => 83 | 17 => 84 | 18 => 85 | 19 => 86 | 20 => 87 | 21 => 88 | 22 => 89 | 25 => 95 | 26 => 96 | 27 => 97 | 28 => 98 | 29 => 99 | 30 => 100 | 31 => 105 | n => n, fun | 26 => 9 | 28 => 79 | 24 => 44 | 0 => 0 | 3 => 3 | 37 => 96 | 48 => 112 | 50 => 114 | 4 => 4 | 40 => 104 | 39 => 103 | 45 => 109 | 5 => 5 | 9 => 9 | 51 => 116 | 55 => 120 | 57 => 130 | 58 => 131 | 33 => 62 | n => n, fun | n => n⟩
theorem Tryd.sorted58 : Go.Proofs.SlLaysZ.n6 Tryd.prog Tryd.sorted58_ren := {
  mixed := by kernel_rfl
  f6 := ⟨Tryd.f58.name, by decide, Tryd.func58.trans (congrArg some (by kernel_rfl))⟩
  f8 := ⟨Tryd.f63.name, by decide, Tryd.func63.trans (congrArg some (by kernel_rfl))⟩
  f11 := ⟨Tryd.f74.name, by decide, Tryd.func74.trans (congrArg some (by kernel_rfl))⟩
  t0 := Tryd.underlying0
  a0 := Tryd.isAgg0
  z0 := Tryd.sizeOf0
  v0 := Tryd.zeroValue0
  t24 := Tryd.underlying44
  a24 := Tryd.isAgg44
  z24 := Tryd.sizeOf44
  v24 := Tryd.zeroValue44
  t26 := Tryd.underlying9
  a26 := Tryd.isAgg9
  z26 := Tryd.sizeOf9
  v26 := Tryd.zeroValue9
  t28 := Tryd.underlying79
  a28 := Tryd.isAgg79
  z28 := Tryd.sizeOf79
  v28 := Tryd.zeroValue79
  i26 := by kernel_rfl }
def Tryd.sort64_ren : Go.Shelf.Ren := ⟨fun | 6 => 64 | 8 => 76 | 9 => 75 | 19 => 90 | 20 => 91 | 21 => 81 | 22 => 82 | 23 => 83 | 24 => 84 | 25 => 85 | 26 => 86 | 27 => 87 | 28 => 88 | 29 => 89 | 36 => 95 | 31 => 96 | 32 => 97 | 37 => 98 | 38 => 99 | 39 => 100 | 41 => 105 | n => n, fun | 27 => 44 | 29 => 9 | 3 => 3 | 32 => 96 | 26 => 44 | 0 => 0 | 44 => 112 | 46 => 114 | 4 => 4 | 36 => 104 | 35 => 103 | 41 => 109 | 5 => 5 | 9 => 9 | 53 => 116 | 57 => 120 | 63 => 130 | 64 => 131 | n => n, fun | n => n⟩
theorem Tryd.sort64 : Go.Proofs.SlLaysM.n6 Tryd.prog Tryd.sort64_ren := {
  mixed := by kernel_rfl
  f6 := ⟨Tryd.f64.name, by decide, Tryd.func64.trans (congrArg some (by kernel_rfl))⟩
  f8 := Tryd.func76.trans (congrArg some (by kernel_rfl))
  f9 := ⟨Tryd.f75.name, by decide, Tryd.func75.trans (congrArg some (by kernel_rfl))⟩
  f19 := Tryd.func90.trans (congrArg some (by kernel_rfl))
  f20 := Tryd.func91.trans (congrArg some (by kernel_rfl))
  f21 := ⟨Tryd.f81.name, by decide, Tryd.func81.trans (congrArg some (by kernel_rfl))⟩
  f22 := ⟨Tryd.f82.name, by decide, Tryd.func82.trans (congrArg some (by kernel_rfl))⟩
  f23 := ⟨Tryd.f83.name, by decide, Tryd.func83.trans (congrArg some (by kernel_rfl))⟩
  f24 := ⟨Tryd.f84.name, by decide, Tryd.func84.trans (congrArg some (by kernel_rfl))⟩
  f25 := ⟨Tryd.f85.name, by decide, Tryd.func85.trans (congrArg some (by kernel_rfl))⟩
  f26 := ⟨Tryd.f86.name, by decide, Tryd.func86.trans (congrArg some (by kernel_rfl))⟩
  f27 := ⟨Tryd.f87.name, by decide, Tryd.func87.trans (congrArg some (by kernel_rfl))⟩
  f28 := ⟨Tryd.f88.name, by decide, Tryd.func88.trans (congrArg some (by kernel_rfl))⟩
  f29 := ⟨Tryd.f89.name, by decide, Tryd.func89.trans (congrArg some (by kernel_rfl))⟩
  f31 := Tryd.func96.trans (congrArg some (by kernel_rfl))
  f32 := Tryd.func97.trans (congrArg some (by kernel_rfl))
  f36 := ⟨Tryd.f95.name, by decide, Tryd.func95.trans (congrArg some (by kernel_rfl))⟩
  f37 := ⟨Tryd.f98.name, by decide, Tryd.func98.trans (congrArg some (by kernel_rfl))⟩
  f38 := ⟨Tryd.f99.name, by decide, Tryd.func99.trans (congrArg some (by kernel_rfl))⟩
  f39 := ⟨Tryd.f100.name, by decide, Tryd.func100.trans (congrArg some (by kernel_rfl))⟩
  f41 := ⟨Tryd.f105.name, by decide, Tryd.func105.trans (congrArg some (by kernel_rfl))⟩
  t0 := Tryd.underlying0
  a0 := Tryd.isAgg0
  z0 := Tryd.sizeOf0
  v0 := Tryd.zeroValue0
  t3 := Tryd.underlying3
  a3 := Tryd.isAgg3
  z3 := Tryd.sizeOf3
  v3 := Tryd.zeroValue3
  t4 := Tryd.underlying4
  a4 := Tryd.isAgg4
  z4 := Tryd.sizeOf4
  v4 := Tryd.zeroValue4
  t5 := Tryd.underlying5
  a5 := Tryd.isAgg5
  z5 := Tryd.sizeOf5
  v5 := Tryd.zeroValue5
  t9 := Tryd.underlying9
  a9 := Tryd.isAgg9
  z9 := Tryd.sizeOf9
  v9 := Tryd.zeroValue9
  t26 := Tryd.underlying44
  a26 := Tryd.isAgg44
  z26 := Tryd.sizeOf44
  v26 := Tryd.zeroValue44
  t27 := Tryd.underlying44
  a27 := Tryd.isAgg44
  z27 := Tryd.sizeOf44
  v27 := Tryd.zeroValue44
  t29 := Tryd.underlying9
  a29 := Tryd.isAgg9
  z29 := Tryd.sizeOf9
  v29 := Tryd.zeroValue9
  t32 := Tryd.underlying96
  a32 := Tryd.isAgg96
  z32 := Tryd.sizeOf96
  v32 := Tryd.zeroValue96
  t35 := Tryd.underlying103
  a35 := Tryd.isAgg103
  z35 := Tryd.sizeOf103
  v35 := Tryd.zeroValue103
  t36 := Tryd.underlying104
  a36 := Tryd.isAgg104
  z36 := Tryd.sizeOf104
  v36 := Tryd.zeroValue104
  t41 := Tryd.underlying109
  a41 := Tryd.isAgg109
  z41 := Tryd.sizeOf109
  v41 := Tryd.zeroValue109
  t44 := Tryd.underlying112
  a44 := Tryd.isAgg112
  z44 := Tryd.sizeOf112
  v44 := Tryd.zeroValue112
  t46 := Tryd.underlying114
  a46 := Tryd.isAgg114
  z46 := Tryd.sizeOf114
  v46 := Tryd.zeroValue114
  t53 := Tryd.underlying116
  a53 := Tryd.isAgg116
  z53 := Tryd.sizeOf116
  v53 := Tryd.zeroValue116
  t57 := Tryd.underlying120
  a57 := Tryd.isAgg120
  z57 := Tryd.sizeOf120
  v57 := Tryd.zeroValue120
  t63 := Tryd.underlying130
  a63 := Tryd.isAgg130
  z63 := Tryd.sizeOf130
  v63 := Tryd.zeroValue130
  t64 := Tryd.underlying131
  a64 := Tryd.isAgg131
  z64 := Tryd.sizeOf131
  v64 := Tryd.zeroValue131 }
end Go.Proofs

/- The landed disk: copies of texts and of bytes; the map's laws at a single step. -/
namespace Go.Proofs.YtcmkjjlchljffaaDoor
open Go.RowKit
set_option linter.unusedVariables false
set_option maxRecDepth 100000
set_option maxHeartbeats 3200000

theorem str_clone (s : ByteArray) (w : World) (hs : s.size ≤ 281474976710656) : Calls Tryd.prog 61 #[.string s] w fun r w' => r = .returned (.string s) ∧ Below w.heap.size w w' := by
  have HC := hidU (Tryd.stringslite_Clone s w hs)
  go_enter Tryd.func61, Tryd.ntmps61
  go_wp2_with (go_at_call 66; refine HC.out.mono ?_; rintro _ w1 ⟨rfl, hb⟩)
  go_ret
  exact ⟨rfl, hb⟩
theorem clone_nil (n c : Nat) (w : World) : Calls Tryd.prog 50 #[.slice none n c] w fun r w' => r = .returned (.slice none 0 0) ∧ w' = w := by
  have hq : (binOp .eql 29 (.slice none n c) (.slice none 0 0)).run Tryd.prog w = .ok (.bool true) w := Lib.run_eql_slice_nil w 29 _ none n c 0 0 Tryd.underlying29
  go_enter Tryd.func50, Tryd.ntmps50
  go_wp2
  go_ret
  exact ⟨rfl, rfl⟩
theorem clone_some (ad : Addr) (n c : Nat) (bs : List UInt8) (w : World) (h : Row w (some ad) bs) (hn : bs.length = n) (hc : n ≤ c) (hm : n ≤ 140737488355328) :
    Calls Tryd.prog 50 #[.slice (some ad) n c] w fun r w' => ∃ v, r = .returned v ∧ OwnX eB w.heap.size w' v bs ∧ Below w.heap.size w w' := by
  have HR := hidU (rowB.2 h)
  have hq : (binOp .eql 29 (.slice (some ad) n c) (.slice none 0 0)).run Tryd.prog w = .ok (.bool false) w := Lib.run_eql_slice_nil w 29 _ (some ad) n c 0 0 Tryd.underlying29
  clear h
  go_enter Tryd.func50, Tryd.ntmps50
  go_wp2_with (refine wpList_layB0 rfl rfl ?_; intro w1 hO hb hs; refine Hid.out ?_)
  have HR1 := hidU (HR.out.below hb)
  have HO := hidU hO
  have HB := hidU hb
  have hbase : w.heap.size ≤ w1.heap.size := hb.size
  refine hidU ?_
  clear hs hO hb
  go_wp2_with (refine wpList_appX eB rfl (.tmp 5) (.tmp 6) rfl w.heap.size _ _ n c rfl rfl HO.out hn (fun h => by cases h) hc HR1.out (by unfold maxLen; simp; omega) (by show (_ + n) * 1 ≤ _; simp; omega) hbase ?_; intro v' w2 hO2 hg; refine Hid.out ?_)
  have HB2 : Hid (Below w.heap.size w w2) := by
    refine HB.out.trans ?_
    exact (Chg.of_grown (K := fun k => w.heap.size ≤ k) hg (fun k hk => (HO.out.block k hk).1)).below hbase (fun k hk => hk)
  rw [List.nil_append] at hO2
  refine hidU ?_
  clear hg
  go_wp2
  go_ret
  exact ⟨_, rfl, hO2, HB2.out⟩
end Go.Proofs.YtcmkjjlchljffaaDoor

/- The sorted keys of a map, at this seat. -/
namespace Go.Proofs
open Go.RowKit Go.Maps Go.Sort Go.Shelf

/-- slices.Sort's two contracts at this dump, at the fence that asks nothing. -/
theorem Tryd.sorts58 (m : Nat) : AnyZ.SortsIn Tryd.prog Tryd.sorted58_ren Fence.wide m :=
  ⟨fun blk off cap ss W hH hblk hsz => callsIn_wide.2 (AnyM.slices_Sort_string Tryd.sort64 blk off cap ss W hH hblk hsz),
   fun p cap W => callsIn_wide.2 (AnyM.slices_Sort_string_none Tryd.sort64 p cap W)⟩

/-- maps.Keys[map[string]assize/disk.file,string,assize/disk.file], at whatever map, the nil one too: a function value over ONE NEW BLOCK, which holds the map. -/
theorem Tryd.maps_Keys_59 (mb : Option Nat) (W : World) : CallsIn Fence.wide 5 Tryd.prog 59 #[.map mb] W fun e w' => e = .returned (.func (.func 65) #[] #[.pointer (some ⟨W.heap.size, 0, none⟩)]) ∧ w' = W.alloc (.cells #[.map mb] 33) :=
  AnyZ.keys_in Tryd.keys59 Fence.wide 5 trivial rfl mb W

set_option maxHeartbeats 1000000 in
/-- slices.Sorted[string] AT WHAT maps.Keys[map[string]assize/disk.file,string,assize/disk.file] HANDED BACK FOR A MAP THAT IS NOT nil ('w': the world AHEAD of maps.Keys' call): A NEW SLICE THAT HOLDS THE MAP's KEYS, SORTED; nil just where it has none; nothing that lay before has turned. -/
theorem Tryd.slices_Sorted_keys_58_59 {H : Type} (b nn : Nat) (D0 : DataW H) (R : Value → Option (DataW H × List MemPlace)) (w : World) (hown : w.ownsMap Tryd.prog 9 R b nn D0) (hmax : Maps.size D0 ≤ maxLen) (hbytes : Maps.size D0 * 16 ≤ 140737488355328) :
    CallsIn Fence.wide 5 Tryd.prog 58 #[.func (.func 65) #[] #[.pointer (some ⟨w.heap.size, 0, none⟩)]] (w.alloc (.cells #[.map (some b)] 33)) fun e w' => ∃ (v : Value) (ss : List (List UInt8)), e = .returned v ∧ ss.Perm (strKeys D0) ∧
      w'.ownsRow (w.alloc (.cells #[.map (some b)] 33)).heap.size 9 1 v ss.length ((ss.mergeSort (fun x y => decide (x ≤ y))).map encStr) ∧ (v = .slice none 0 0 ↔ ss = []) ∧ Below (w.alloc (.cells #[.map (some b)] 33)).heap.size (w.alloc (.cells #[.map (some b)] 33)) w' := by
  have hbl := hown.lt
  have hseq : SeqGives Fence.wide 2 Tryd.prog 65 #[.pointer (some ⟨w.heap.size, 0, none⟩)] encStr (fun ss => ss.Perm (strKeys D0)) (Maps.size D0) (w.alloc (.cells #[.map (some b)] 33)) :=
    AnyZ.keys_gives (ρ := Tryd.keys59_ren) { Tryd.keys59 with } Fence.wide _ trivial rfl (by omega) w.heap.size b nn D0 _ (by simp) (by simp) (by
      obtain ⟨es, clock, hb, Ft, hs, hD⟩ := hown
      exact ⟨es, clock, (Below.heap_alloc _ _ b hbl).trans hb, Ft, hs, hD⟩)
  exact AnyZ.sorted_in Tryd.sorted58 Fence.wide 5 trivial trivial trivial trivial rfl (by omega) (Tryd.sorts58 _) (enters_of Tryd.func64 (by kernel_rfl) rfl) 65 #[.pointer (some ⟨w.heap.size, 0, none⟩)] trivial (enters_of Tryd.func65 (by kernel_rfl) rfl) _ _ hmax hbytes _ hseq

end Go.Proofs

/- Ranging over a map of texts; the sorted names of a map. -/
namespace Go.Proofs.YtcmkjjlchljffaaDoor
open Go.RowKit Go.Maps Go.MapKept Go.WideMaps
set_option linter.unusedVariables false
set_option maxRecDepth 100000

section
variable {α : Type} {t : Mt α} {w w' : World} {b r : Nat} {m : List (ByteArray × α)}
/-- A range over a map under way: what was told, what is left. -/
def Rg (t : Mt α) (w : World) (b r : Nat) (m dn lf : List (ByteArray × α)) : Prop :=
  ∃ es clock since seen c0, w.heap[b]? = some (.map es clock) ∧ Stamped es clock ∧ es.toList.map (fun e => (e.key, e.val)) = m.map (fun p => (Value.string p.1, t.val p.2)) ∧
    w.heap[r]? = some (.mapIter (some b) since seen c0) ∧ (∀ x ∈ es.toList, x.born < since) ∧ since ≤ c0 ∧ since ≤ clock ∧
    (es.toList.filter fun e => !seen.contains e.born).map (fun e => (e.key, e.val)) = lf.map (fun p => (Value.string p.1, t.val p.2)) ∧ (dn ++ lf).Perm m
theorem Rg.same {dn lf : List (ByteArray × α)} (h : Rg t w b r m dn lf) (e1 : w'.heap[b]? = w.heap[b]?) (e2 : w'.heap[r]? = w.heap[r]?) : Rg t w' b r m dn lf := by
  obtain ⟨es, clock, since, seen, c0, h1, h2, h3, h4, h5⟩ := h
  exact ⟨es, clock, since, seen, c0, e1.trans h1, h2, h3, e2.trans h4, h5⟩
theorem Rg.lt {dn lf : List (ByteArray × α)} (h : Rg t w b r m dn lf) : b < w.heap.size ∧ r < w.heap.size := by
  obtain ⟨es, clock, since, seen, c0, h1, h2, h3, h4, h5⟩ := h
  exact ⟨heapLt h1, heapLt h4⟩
theorem Rg.below {dn lf : List (ByteArray × α)} (h : Rg t w b r m dn lf) (hb : Below w.heap.size w w') : Rg t w' b r m dn lf := h.same (hb.block b h.lt.1) (hb.block r h.lt.2)
theorem Rg.perm {dn lf : List (ByteArray × α)} (h : Rg t w b r m dn lf) : (dn ++ lf).Perm m := by
  obtain ⟨es, clock, since, seen, c0, h1, h2, h3, h4, h5, h6, h7, h8, h9⟩ := h
  exact h9
theorem Rg.left {dn lf : List (ByteArray × α)} (h : Rg t w b r m dn lf) : w.rangeLeft b r = lf.length := by
  obtain ⟨es, clock, since, seen, c0, h1, h2, h3, h4, h5, h6, h7, h8, h9⟩ := h
  have := congrArg List.length h8
  simp only [List.length_map] at this
  simp only [World.rangeLeft, h1, h4, leftOf]
  rw [← this, ← Array.toList_filter, Array.length_toList]
theorem MapS.range (h : MapS t w b m) : ∃ w', (Instr.range t.T (.map (some b))).run Tryd.prog w = .ok (.pointer (some ⟨w.heap.size, 0, none⟩)) w' ∧ Rg t w' b w.heap.size m [] m ∧ Below w.heap.size w w' ∧ w'.heap.size = w.heap.size + 1 := by
  have hlt := h.lt
  obtain ⟨es, clock, h1, h2, h3, h4⟩ := h
  refine ⟨_, run_range_map w t.T 9 t.E b es clock t.und h1, ⟨es, clock, clock, #[], clock, ((MapKept.heap_alloc w _).2 b hlt).trans h1, h2, h3, (MapKept.heap_alloc w _).1, h2.1, Nat.le_refl _, Nat.le_refl _, ?_, by simp⟩, (Below.refl _ w).alloc (Nat.le_refl _) _, by simp⟩
  rw [List.filter_eq_self.2 (fun x _ => by simp)]
  exact h3
theorem filter_split {α : Type} (f g : α → Bool) (l1 l2 : List α) (e : α) (he : g e = false) (h1 : ∀ x ∈ l1 ++ l2, g x = f x) (hf : f e = true) : (l1 ++ e :: l2).filter f = l1.filter f ++ e :: l2.filter f ∧ (l1 ++ e :: l2).filter g = l1.filter f ++ l2.filter f := by
  constructor
  · rw [List.filter_append, List.filter_cons_of_pos hf]
  · rw [List.filter_append, List.filter_cons_of_neg (by rw [he]; simp)]
    congr 1
    · exact List.filter_congr fun x hx => h1 x (List.mem_append.2 (.inl hx))
    · exact List.filter_congr fun x hx => h1 x (List.mem_append.2 (.inr hx))
theorem Rg.next {dn lf : List (ByteArray × α)} (h : Rg t w b r m dn lf) (ty : TypeId) :
    (lf = [] ∧ (Instr.next (.pointer (some ⟨r, 0, none⟩)) false ty).run Tryd.prog w = .ok (.tuple #[.bool false]) w) ∨
    ∃ p lf' w', (Instr.next (.pointer (some ⟨r, 0, none⟩)) false ty).run Tryd.prog w = .ok (.tuple #[.bool true, .string p.1, t.val p.2]) w' ∧ lf.Perm (p :: lf') ∧ Rg t w' b r m (dn ++ [p]) lf' ∧ But r w w' ∧ w'.heap.size = w.heap.size ∧
      (Instr.entry (.pointer (some ⟨r, 0, none⟩))).run Tryd.prog w' = .ok (.tuple #[.string p.1, t.val p.2]) w' := by
  obtain ⟨es, clock, since, seen, c0, h1, h2, h3, h4, h5, h6, h7, h8, h9⟩ := h
  have hst := (stamped_iff es clock).1 h2
  rcases run_next_at (P := Tryd.prog) w ty r b since c0 seen es clock h4 h1 h5 h6 with ⟨h0, hrun⟩ | ⟨e, he, w1, hal, hrun⟩
  · refine .inl ⟨?_, hrun⟩
    have e1 : (es.toList.filter fun e => !seen.contains e.born) = [] := by
      unfold leftOf at h0
      rw [← Array.toList_filter]
      rw [Array.eq_empty_of_size_eq_zero h0]
    rw [e1] at h8
    cases lf with
    | nil => rfl
    | cons a l => cases h8
  · obtain ⟨hem, hes⟩ := mem_left he
    obtain ⟨l1, l2, hl⟩ := List.append_of_mem hem
    have hnd : (es.toList.map (·.born)).Nodup := h2.2.1
    have hne : ∀ x ∈ l1 ++ l2, (x.born == e.born) = false := by
      rw [hl, List.map_append, List.map_cons, List.nodup_append] at hnd
      obtain ⟨n1, n2, n3⟩ := hnd
      rw [List.nodup_cons] at n2
      intro x hx
      rw [beq_eq_false_iff_ne]
      rcases List.mem_append.1 hx with q | q
      · exact n3 _ (List.mem_map.2 ⟨x, q, rfl⟩) _ (.head _)
      · intro e1
        exact n2.1 (e1 ▸ List.mem_map.2 ⟨x, q, rfl⟩)
    obtain ⟨f1, f2⟩ := filter_split (fun x : MapEntry => !seen.contains x.born) (fun x => !(seen.push e.born).contains x.born) l1 l2 e (by rw [contains_push]; simp) (fun x hx => by rw [contains_push, hne x hx, Bool.or_false]) (by rw [hes]; rfl)
    rw [← hl] at f1 f2
    rw [f1, List.map_append, List.map_cons] at h8
    obtain ⟨a1, a2, rfl, b1, b2⟩ := List.map_eq_append_iff.1 h8.symm
    cases a2 with
    | nil => cases b2
    | cons p a2 =>
      rw [List.map_cons] at b2
      injection b2 with b2 b3
      injection b2 with k1 k2
      have hr1 : w1.heap[r]? = some (.mapIter (some b) since seen c0) := by rcases hal with rfl | rfl <;> exact h4
      have hb1 : w1.heap[b]? = some (.map es clock) := by rcases hal with rfl | rfl <;> exact h1
      have hset := heap_set (o' := .mapIter (some b) since (seen.push e.born) clock) hr1
      have hbr : b ≠ r := by rintro rfl; rw [h1] at h4; cases h4
      have hb' := (hset.2 b hbr).trans hb1
      have hen := run_entry_at (P := Tryd.prog) (ChangeMaps.setBlock w1 r (.mapIter (some b) since (seen.push e.born) clock)) r b since seen es clock e hset.1 hb' hem hnd
      rw [← k1, ← k2] at hrun hen
      refine .inr ⟨p, a1 ++ a2, _, hrun, List.perm_middle, ⟨es, clock, since, seen.push e.born, clock, hb', h2, h3, hset.1, h5, h7, h7, ?_, ?_⟩, ?_, ?_, hen⟩
      · rw [f2, List.map_append, List.map_append, b1, b3]
      · rw [List.append_assoc]
        exact (show (dn ++ p :: (a1 ++ a2)).Perm m from (List.Perm.append_left dn (List.perm_middle (l₁ := a1) (l₂ := a2) (a := p)).symm).trans h9)
      · rcases hal with rfl | rfl <;> exact ⟨rfl, rfl, rfl, by simp [ChangeMaps.setBlock], fun i _ hi => hset.2 i hi⟩
      · rcases hal with rfl | rfl <;> simp [ChangeMaps.setBlock]
end
section
variable {α : Type} (t : Mt α) {o : Oper} {a : Act} {w : World} {Q : Exit → Act → World → Prop} {ops : Array Oper} {rest : List Oper} {b r : Nat} {m dn lf : List (ByteArray × α)}
theorem wpList_range (hg : o.guard = none) (mo : Operand) (hop : o.op = Op.range t.T mo) (hm : a.eval mo = .map (some b)) (h : MapS t w b m)
    (hK : ∀ w', Rg t w' b w.heap.size m [] m → Below w.heap.size w w' → w'.heap.size = w.heap.size + 1 → wpList Tryd.prog ops Q rest (a.put o.dst (.pointer (some ⟨w.heap.size, 0, none⟩))) w') : wpList Tryd.prog ops Q (o :: rest) a w := by
  refine wpList_plain hg fun K' hK' => ?_
  obtain ⟨w', hrun, r1, r2, r3⟩ := h.range
  unfold Oper.wp
  simp [execOp, hop, hm, hrun, Result.andThen]
  exact hK' _ _ (hK w' r1 r2 r3)
theorem wpList_next (hg : o.guard = none) (it : Operand) (hop : o.op = Op.next it false) (hit : a.eval it = .pointer (some ⟨r, 0, none⟩)) (h : Rg t w b r m dn lf)
    (hDone : lf = [] → wpList Tryd.prog ops Q rest (a.put o.dst (.tuple #[.bool false])) w)
    (hMore : ∀ p lf' w', lf.Perm (p :: lf') → Rg t w' b r m (dn ++ [p]) lf' → But r w w' → w'.heap.size = w.heap.size →
      (Instr.entry (.pointer (some ⟨r, 0, none⟩))).run Tryd.prog w' = .ok (.tuple #[.string p.1, t.val p.2]) w' → wpList Tryd.prog ops Q rest (a.put o.dst (.tuple #[.bool true, .string p.1, t.val p.2])) w') : wpList Tryd.prog ops Q (o :: rest) a w := by
  refine wpList_plain hg fun K' hK' => ?_
  unfold Oper.wp
  rcases h.next o.type with ⟨h0, hrun⟩ | ⟨p, lf', w', hrun, r1, r2, r3, r4, r5⟩
  · simp [execOp, hop, hit, hrun, Result.andThen]
    exact hK' _ _ (hDone h0)
  · simp [execOp, hop, hit, hrun, Result.andThen]
    exact hK' _ _ (hMore p lf' w' r1 r2 r3 r4 r5)
/-- An update as one step of a region that draws its order. -/
theorem wp_upd {K : Act → World → Prop} (mo xo vo : Operand) (hop : o.op = Op.mapUpdate t.T mo xo vo) (s : ByteArray) (x : α) (hm : a.eval mo = .map (some b)) (hx : a.eval xo = .string s) (hv : a.eval vo = t.val x) (h : MapS t w b m) (hs : s.size ≤ maxLen)
    (hK : ∀ w', MapS t w' b (updM m s x) → But b w w' → w'.heap.size = w.heap.size → K (a.put o.dst undef) w') : o.wp Tryd.prog a w K Q := by
  obtain ⟨w', hrun, r1, r2, r3⟩ := h.update hs x
  unfold Oper.wp
  simp [execOp, hop, hm, hx, hv, hrun, Result.andThen]
  exact hK w' r1 r2 r3
theorem wp_del {K : Act → World → Prop} (mo xo : Operand) (hop : o.op = Op.call { callee := Callee.builtin Builtin.delete, args := #[mo, xo], argTypes := #[t.T, 9] }) (s : ByteArray) (hm : a.eval mo = .map (some b)) (hx : a.eval xo = .string s) (h : MapS t w b m) (hs : s.size ≤ maxLen)
    (hK : ∀ w', MapS t w' b (delM m s) → But b w w' → w'.heap.size = w.heap.size → K (a.put o.dst (.tuple #[])) w') : o.wp Tryd.prog a w K Q := by
  obtain ⟨w', hrun, r1, r2, r3⟩ := h.delete hs o.type
  unfold Oper.wp
  simp [execOp, hop, resolve, invoke, builtin, hm, hx, hrun, Result.andThen]
  exact hK w' r1 r2 r3
end
end Go.Proofs.YtcmkjjlchljffaaDoor
