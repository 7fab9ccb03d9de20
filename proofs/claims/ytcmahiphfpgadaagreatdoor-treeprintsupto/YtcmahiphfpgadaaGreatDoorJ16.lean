/- Joined texts of the proof. -/
import Derived.Test.YtcmahiphfpgadaaGreatDoorJ15
import Derived.Test.YtcmahiphfpgadaaGreatDoorJ13
import Derived.Test.YtcmahiphfpgadaaGreatDoorJ14

/- Whether a program is large is told. -/
namespace Go.Proofs.YtcmahiphfpgadaaGreatDoor
open Go.RowKit
set_option linter.unusedVariables false

def IsB (r : Ending) : Prop := ∃ b : Bool, r = .returned (.bool b)

theorem vr_mid {w : World} {g o : Nat} {v : VT} (h : w.rangeAt g o v.cells) : w.cell? ⟨g, o, none⟩ = some (.string v.nm) := by
  have := h 0 _ rfl
  simpa using this

set_option maxRecDepth 100000 in
set_option maxHeartbeats 6400000 in
theorem large_any (B : Nat) (p : PT) (w : World) (h : p.In B w) (hBw : B ≤ w.heap.size) : Calls Tryz.prog 6 #[.agg p.cells.toArray] w fun r w' => IsB r ∧ Below w.heap.size w w' := by
  have hWt := fun w' h' hB' => weightProgram_any B p w' h' hB'
  obtain ⟨a1, c1, vs, a2, c2, ms, a3, c3, ts⟩ := p
  obtain ⟨hr1, hr2, hr3⟩ := h
  obtain ⟨n1, hn1⟩ : ∃ n, Hid (n = vs.length) := ⟨_, (rfl : vs.length = _)⟩
  obtain ⟨n2, hn2⟩ : ∃ n, Hid (n = ms.length) := ⟨_, (rfl : ms.length = _)⟩
  obtain ⟨n3, hn3⟩ : ∃ n, Hid (n = ts.length) := ⟨_, (rfl : ts.length = _)⟩
  have hl1 := hr1.1
  have hk1 := hr1.2.1
  have hl2 := hr2.1
  have hk2 := hr2.2.1
  have hl3 := hr3.1
  have hk3 := hr3.2.1
  have HR : Hid (RowV B w a1 c1 vs ∧ RowN B w a2 c2 ms ∧ RowT B w a3 c3 ts) := ⟨hr1, hr2, hr3⟩
  have HW : Hid (∀ w', Below w.heap.size w w' → Calls Tryz.prog 27 #[.agg [.slice a1 n1 c1, .slice a2 n2 c2, .slice a3 n3 c3].toArray] w' fun r w'' => IsI r ∧ Below w'.heap.size w' w'') := fun w' hb => by
    rw [hn1.out, hn2.out, hn3.out]
    exact hWt w' ⟨hr1.old (Old.of_below hb hBw), hr2.old (Old.of_below hb hBw), hr3.old (Old.of_below hb hBw)⟩ (by have := hb.size; omega)
  rw [← hn1.out] at hl1 hk1
  rw [← hn2.out] at hl2 hk2
  rw [← hn3.out] at hl3 hk3
  simp only [PT.cells]
  rw [← hn1.out, ← hn2.out, ← hn3.out]
  clear hr1 hr2 hr3 hWt
  go_enter Tryz.func6, Tryz.ntmps6
  go_wp2_with (first
    | ((with_reducible show wpList _ _ _ _ _ _); refine wpList_box_at rfl 26 (.tmp 0) rfl [.slice a1 n1 c1, .slice a2 n2 c2, .slice a3 n3 c3] rfl ?_; intro w1 hA1 hb1 hs1; clear hs1; refine Hid.out ?_))
  refine hidU ?_
  have HA : Hid (At 26 w1 w.heap.size [.slice a1 n1 c1, .slice a2 n2 c2, .slice a3 n3 c3]) := hA1
  clear hA1
  go_wp2_with fail
  go_loopw [3, 4] (fun u j wr => ∃ i : Nat, j = .int .i64 (i : Int) ∧ i ≤ n2 ∧ Hid ((∃ z : Int, u = .int .i64 z) ∧ Below w1.heap.size w1 wr)) (fun u j _ => n2 - (intOf j).toNat)
  case atStart => exact ⟨0, rfl, by omega, ⟨0, rfl⟩, Below.refl _ _⟩
  case round =>
    obtain ⟨i, rfl, hi, hX⟩ := hrel
    obtain ⟨⟨z, rfl⟩, hbr⟩ := hX.out
    have hwr : Below w.heap.size w wr := hb1.trans (hbr.mono hb1.size)
    obtain ⟨q0, q1, q2⟩ := pg_cells (HA.out.below hbr)
    by_cases hc : i < n2
    · obtain ⟨x, hx⟩ : ∃ k, ms[i]? = some k := ⟨ms[i]'(by rw [← hn2.out]; exact hc), by rw [List.getElem?_eq_getElem]⟩
      obtain ⟨g1, o1, rfl, hg1, hr1⟩ := (HR.out.2.1.old (Old.of_below hwr hBw)).at i x hx
      clear hX hx
      go_wp2
      go_roundw
      case rel => exact ⟨i + 1, by go_num, by omega, ⟨_, rfl⟩, hbr⟩
      case measure => simp [intOf]; omega
    · clear hX
      go_wp2_with fail
      go_loopw [3, 5] (fun u j wr => ∃ i : Nat, j = .int .i64 (i : Int) ∧ i ≤ n1 ∧ Hid ((∃ z : Int, u = .int .i64 z) ∧ Below w1.heap.size w1 wr)) (fun u j _ => n1 - (intOf j).toNat)
      case atStart => exact ⟨0, rfl, by omega, ⟨_, rfl⟩, hbr⟩
      case round =>
        clear q0 q1 q2 hbr hwr
        obtain ⟨i, rfl, hi, hX⟩ := hrel
        obtain ⟨⟨z, rfl⟩, hbr⟩ := hX.out
        have hwr : Below w.heap.size w wr := hb1.trans (hbr.mono hb1.size)
        obtain ⟨q0, q1, q2⟩ := pg_cells (HA.out.below hbr)
        by_cases hc : i < n1
        · obtain ⟨x, hx⟩ : ∃ k, vs[i]? = some k := ⟨vs[i]'(by rw [← hn1.out]; exact hc), by rw [List.getElem?_eq_getElem]⟩
          obtain ⟨g1, o1, rfl, hg1, hr1, -⟩ := (HR.out.1.old (Old.of_below hwr hBw)).at i x hx
          have hv := vr_mid hr1
          clear hX hx hr1
          go_wp2
          go_roundw
          case rel => exact ⟨i + 1, by go_num, by omega, ⟨_, rfl⟩, hbr⟩
          case measure => simp [intOf]; omega
        · clear hX
          by_cases hbig : 40 < n3 ∨ 40 < n1 ∨ 40 < n2
          · have hbig' : ¬ (¬ 40 < n3 ∧ ¬ 40 < n1 ∧ ¬ 40 < n2) := by omega
            go_wp2_with fail
            all_goals first
              | (go_ret; exact ⟨⟨true, rfl⟩, hwr⟩)
              | (exfalso; omega)
          · have h1' : ¬ 40 < n3 := by omega
            have h2' : ¬ 40 < n1 := by omega
            have h3' : ¬ 40 < n2 := by omega
            go_wp2_with fail
            go_loopw [3, 6] (fun u j wr => ∃ i : Nat, j = .int .i64 (i : Int) ∧ i ≤ n3 ∧ Hid ((∃ z : Int, u = .int .i64 z) ∧ Below w1.heap.size w1 wr)) (fun u j _ => n3 - (intOf j).toNat)
            case atStart => exact ⟨0, rfl, by omega, ⟨_, rfl⟩, hbr⟩
            case round =>
              clear q0 q1 q2 hbr hwr
              obtain ⟨i, rfl, hi, hX⟩ := hrel
              obtain ⟨⟨z, rfl⟩, hbr⟩ := hX.out
              have hwr : Below w.heap.size w wr := hb1.trans (hbr.mono hb1.size)
              obtain ⟨q0, q1, q2⟩ := pg_cells (HA.out.below hbr)
              by_cases hc : i < n3
              · obtain ⟨x, hx⟩ : ∃ k, ts[i]? = some k := ⟨ts[i]'(by rw [← hn3.out]; exact hc), by rw [List.getElem?_eq_getElem]⟩
                obtain ⟨g1, o1, rfl, hg1, hr1, hin1⟩ := (HR.out.2.2.old (Old.of_below hwr hBw)).at i x hx
                obtain ⟨nm, b1, d1, ls, b2, d2, bs⟩ := x
                obtain ⟨m, hm⟩ : ∃ n, Hid (n = ls.length) := ⟨_, (rfl : ls.length = _)⟩
                obtain ⟨m2, hm2⟩ : ∃ n, Hid (n = bs.length) := ⟨_, (rfl : bs.length = _)⟩
                have hml := hin1.1.1
                have hmk := hin1.1.2.1
                have HV : Hid (RowV B wr b1 d1 ls) := hin1.1
                have hszr : B ≤ wr.heap.size := by have := hwr.size; omega
                simp only [TT.cells] at hr1
                rw [← hm.out, ← hm2.out] at hr1
                have hml : m ≤ 1048576 := by rw [hm.out]; exact hml
                have hmk : m ≤ d1 := by rw [hm.out]; exact hmk
                clear hX hx hin1
                go_wp2_with (first
                  | ((with_reducible show wpList _ _ _ _ _ _); refine wpList_load_mid (P := Tryz.prog) rfl 59 (.tmp 66) rfl g1 (o1 + i * 3) (by first | rfl | (simp; done)) [.string nm, .slice b1 m d1, .slice b2 m2 d2] _ hr1 Tryz.underlying59 rfl i42 ?_)
                  | ((with_reducible show wpList _ _ _ _ _ _); refine wpList_alloc_at rfl 59 rfl _ 3 z42 ?_; intro w2 hA2 hb2 hs2)
                  | ((with_reducible show wpList _ _ _ _ _ _); refine wpList_store_at (P := Tryz.prog) rfl 59 (.tmp 7) (.tmp 67) rfl wr.heap.size [.string nm, .slice b1 m d1, .slice b2 m2 d2] rfl rfl 59 _ hA2 i42 rfl (one59 _ _ _ _ _ _ _) ?_; intro w3 hA3 hb3 hs3; refine Hid.out ?_))
                refine hidU ?_
                have hB3 : Below wr.heap.size wr w3 := hb3.below hb2 (Nat.le_refl _) (by omega)
                have hw13 : Below w1.heap.size w1 w3 := hbr.trans (hB3.mono hbr.size)
                have hlt3 : wr.heap.size < w3.heap.size := hA3.lt
                have HT : Hid (At 59 w3 wr.heap.size [.string nm, .slice b1 m d1, .slice b2 m2 d2] ∧ Below wr.heap.size wr w3) := ⟨hA3, hB3⟩
                obtain ⟨u0, u1, u2⟩ := th_cells hA3
                clear hb3 hb2 hA2 hr1 hs2 hs3 hA3 hB3 q0 q1 q2
                by_cases hmb : 40 < m
                · go_wp2_with fail
                  all_goals first
                    | (go_ret; exact ⟨⟨true, rfl⟩, hb1.trans (hw13.mono hb1.size)⟩)
                    | (exfalso; omega)
                · go_wp2_with fail
                  go_loopw [3, 8] (fun u j wq => ∃ q : Nat, j = .int .i64 (q : Int) ∧ q ≤ m ∧ Hid ((∃ z : Int, u = .int .i64 z) ∧ Below w3.heap.size w3 wq)) (fun u j _ => m - (intOf j).toNat)
                  case atStart => exact ⟨0, rfl, by omega, ⟨_, rfl⟩, Below.refl _ _⟩
                  case round =>
                    clear u0 u1 u2
                    obtain ⟨q, rfl, hq, hX⟩ := hrel
                    obtain ⟨⟨z', rfl⟩, hbq⟩ := hX.out
                    obtain ⟨u0, u1, u2⟩ := th_cells (HT.out.1.below hbq)
                    by_cases hcq : q < m
                    · obtain ⟨x, hx⟩ : ∃ k, ls[q]? = some k := ⟨ls[q]'(by rw [← hm.out]; exact hcq), by rw [List.getElem?_eq_getElem]⟩
                      obtain ⟨g2, o2, rfl, hg2, hr2, -⟩ := (HV.out.old (Old.of_below (HT.out.2.trans (hbq.mono HT.out.2.size)) hszr)).at q x hx
                      have hv := vr_mid hr2
                      clear hX hx hr2
                      go_wp2
                      go_roundw
                      case rel => exact ⟨q + 1, by go_num, by omega, ⟨_, rfl⟩, hbq⟩
                      case measure => simp [intOf]; omega
                    · clear hX
                      have hw1q : Below w1.heap.size w1 wr := hw13.trans (hbq.mono hw13.size)
                      clear HT HV
                      go_wp2
                      go_roundw
                      case rel => exact ⟨i + 1, by go_num, by omega, ⟨_, rfl⟩, hw1q⟩
                      case measure => simp [intOf]; omega
              · have hW := HW.out wr hwr
                clear hX
                by_cases hz : 4000 < z
                · go_wp2_with fail
                  go_ret
                  exact ⟨⟨_, rfl⟩, hwr⟩
                · go_wp2_with fail
                  refine hW.mono ?_
                  rintro r w5 ⟨⟨y, rfl⟩, hb5⟩
                  go_wp2_with fail
                  all_goals
                    (go_ret
                     exact ⟨⟨_, rfl⟩, hwr.trans (hb5.mono hwr.size)⟩)
end Go.Proofs.YtcmahiphfpgadaaGreatDoor

/- The document's own writing over of a program. -/
namespace Go.Proofs.YtcmahiphfpgadaaGreatDoor
open Go.RowKit
set_option linter.unusedVariables false

theorem sum_take_succ {α : Type} (f : α → Nat) : ∀ (l : List α) (i : Nat) (x : α), l[i]? = some x → ((l.take (i + 1)).map f).sum = ((l.take i).map f).sum + f x
 | [], i, x, h => by simp at h
 | e :: r, 0, x, h => by
  simp at h
  subst h
  simp
 | e :: r, i + 1, x, h => by
  have := sum_take_succ f r i x (by simpa using h)
  simp only [List.take_succ_cons, List.map_cons, List.sum_cons]
  omega
theorem sum_take_le {α : Type} (f : α → Nat) : ∀ (l : List α) (i : Nat), ((l.take i).map f).sum ≤ (l.map f).sum
 | [], i => by simp
 | e :: r, 0 => by simp
 | e :: r, i + 1 => by
  have := sum_take_le f r i
  simp only [List.take_succ_cons, List.map_cons, List.sum_cons]
  omega
theorem len_le_sum {α : Type} (f : α → Nat) (h : ∀ x, 1 ≤ f x) : ∀ (l : List α), l.length ≤ (l.map f).sum
 | [] => by simp
 | e :: r => by
  have := len_le_sum f h r
  have := h e
  simp only [List.map_cons, List.sum_cons, List.length_cons]
  omega

end Go.Proofs.YtcmahiphfpgadaaGreatDoor

/- The document's own copy of a program: what its regions do. -/
namespace Go.Proofs.YtcmahiphfpgadaaGreatDoor
open Go.RowKit
set_option linter.unusedVariables false

/-- A row of the call's own stands where nothing of it is written. -/
theorem own_below {base size n : Nat} {E : TypeId} {v : Value} {xs : List Value} {w w' : World} (h : w.ownsRow base E size v n xs) (hb : Below w.heap.size w w') : w'.ownsRow base E size v n xs := by
 obtain ⟨h1, h2 | ⟨g, cap, cur, hv, hg, hc, h3⟩⟩ := id h
 ·exact ⟨h1, .inl h2⟩
 ·have hl : g < w.heap.size := (h.lt g (by rw [hv]; rfl)).2
  exact ⟨h1, .inr ⟨g, cap, cur, hv, hg, (hb.block g hl).trans hc, h3⟩⟩

/-- 'append(v, src...)', of whatever cells, where v is not nil. -/
theorem appW {o : Oper} {a : Act} {K : Act → World → Prop} {Q : Exit → Act → World → Prop} {w : World} (s x : Operand) (T E : TypeId) (z : Value) (size bytes base : Nat) (b : Nat) (src : Option Addr) (m c : Nat) (news : List Value)
  (ho : o.op = .call { callee := .builtin .append, args := #[s, x], argTypes := #[T, T] })
  (ht : Tryz.prog.underlying T = some (.slice E)) (hif : (Tryz.prog.info? E).map (fun i => (i.zero, i.size, i.bytes)) = some (some z, size, bytes)) (hzs : z.cells.size = size) (hsz : 0 < size)
  (hs : a.eval s = .slice (some ⟨b, 0, none⟩) 0 0) (hx : a.eval x = .slice src m c) (hown : w.ownsRow base E size (.slice (some ⟨b, 0, none⟩) 0 0) 0 []) (hl : news.length = m * size) (hnil : src = none → c = 0 ∧ m = 0) (hnews : ∀ ad, src = some ad → ∀ j u, news[j]? = some u → w.cell? (ad.add j) = some u) (h1 : ∀ u ∈ news, u.oneCell' = true)
  (h63 : m ≤ maxLen) (hbytes : m * bytes ≤ 140737488355328) (hbase : base ≤ w.heap.size)
  (h : ∀ g cap w', w'.ownsRow base E size (.slice (some ⟨g, 0, none⟩) m cap) m news → w.grownBy w' (some b) → K (a.put o.dst (.slice (some ⟨g, 0, none⟩) m cap)) w') :
  o.wp Tryz.prog a w K Q := by
 obtain ⟨i0, hi, hz0, hz1, hz2⟩ := info_parts hif
 cases src with
 | none =>
  obtain ⟨rfl, rfl⟩ := hnil rfl
  have hb : news = [] := List.length_eq_zero_iff.mp (by rw [hl, Nat.zero_mul])
  subst hb
  have hrun := run_append_owned_none (P := Tryz.prog) (w := w) base T o.type E i0 size ht hi _ 0 [] hown
  unfold Oper.wp
  simp [execOp, ho, resolve, invoke, builtin, hs, hx, hrun, Result.andThen]
  exact h b 0 w hown ⟨rfl, rfl, rfl, Nat.le_refl _, fun _ _ _ => rfl⟩
 | some ad =>
  refine wp_append_own (w := w) s x T ho base E i0 z size bytes ht hi hz0 hz1 hz2 hzs hsz _ 0 [] hs hown ad m c news hx hl (hnews ad rfl) h1 (by omega) (by rw [Nat.zero_add]; exact hbytes) hbase ?_
  intro v' w' h1 h2 h3
  rw [Nat.zero_add, List.nil_append] at h1
  obtain ⟨hlen, ⟨e, _⟩ | ⟨g, cap, cur, rfl, hg, hcur, hcap, hmx, hsz, htk⟩⟩ := id h1
  ·exact absurd (h3.1 e).1 (by simp)
  ·exact h g cap w' h1 h2

theorem vt_one (vs : List VT) : ∀ u ∈ vs.flatMap VT.cells, u.oneCell' = true := by
 intro u hu
 obtain ⟨v, _, hv⟩ := List.mem_flatMap.1 hu
 exact one56 v.nm v.t v.b u hv
theorem vt_news {B c : Nat} {w : World} {a : Option Addr} {vs : List VT} (h : RowV B w a c vs) : ∀ ad, a = some ad → ∀ (j : Nat) (u : Value), (vs.flatMap VT.cells)[j]? = some u → w.cell? (ad.add j) = some u := by
 rintro ad rfl j u hj
 obtain ⟨h1, h2, h | ⟨g, o, e, hg, hr⟩⟩ := h
 ·subst h
  simp at hj
 ·cases e
  have := flat_range VT.cells3 vs o (fun i v hv => (hr i v hv).1) j u hj
  rw [Addr.add_mid]
  exact this
theorem own_apart {base size n : Nat} {E T : TypeId} {v : Value} {xs cs : List Value} {w : World} {gs : Nat} (h : w.ownsRow base E size v n xs) (hA : At T w gs cs) (hne : E ≠ T) : ∀ g, v.ownBlock = some g → g ≠ gs := by
 intro g hg e
 subst e
 obtain ⟨h1, ⟨h2, h3⟩ | ⟨g', cap, cur, hv, hg', hc, h3⟩⟩ := id h
 ·rw [h2] at hg
  cases hg
 ·rw [hv] at hg
  cases hg
  rw [hA] at hc
  cases hc
  exact hne rfl

/-- What the first region leaves. -/
structure K1 (A : Nat) (x : World) (gs : Nat) (v9 v12 : Value) (vs : List VT) (ms : List ByteArray) : Prop where
 ag : At 26 x gs [v9, v12, .slice none 0 0]
 r1 : ∃ d1 e1, v9 = .slice d1 vs.length e1 ∧ RowV x.heap.size x d1 e1 vs ∧ (vs = [] ∨ ∃ g o, d1 = some ⟨g, o, none⟩ ∧ A ≤ g ∧ g ≠ gs)
 r2 : ∃ d2 e2, v12 = .slice d2 ms.length e2 ∧ RowN x.heap.size x d2 e2 ms ∧ (ms = [] ∨ ∃ g o, d2 = some ⟨g, o, none⟩ ∧ A ≤ g ∧ g ≠ gs)

theorem K1.make {A gs : Nat} {y : World} {b b12 g9 e9 g12 e12 : Nat} {vs : List VT} {ms : List ByteArray} {cs : List Value} (hA : At 26 y gs cs) (hcs : cs.length = 3)
  (h9 : y.ownsRow b 56 3 (.slice (some ⟨g9, 0, none⟩) vs.length e9) vs.length (vs.flatMap VT.cells)) (h12 : y.ownsRow b12 9 1 (.slice (some ⟨g12, 0, none⟩) ms.length e12) ms.length (ms.map Value.string)) (hi : ∀ v ∈ vs, v.In 0 y) (hl : vs.length ≤ 1048576) (hr12 : RowN y.heap.size y (some ⟨g12, 0, none⟩) e12 ms) (hb : A ≤ b) (hg : A ≤ g12) :
  K1 A (y.setCells gs 0 [.slice (some ⟨g9, 0, none⟩) vs.length e9, .slice (some ⟨g12, 0, none⟩) ms.length e12, .slice none 0 0]) gs (.slice (some ⟨g9, 0, none⟩) vs.length e9) (.slice (some ⟨g12, 0, none⟩) ms.length e12) vs ms := by
 have n9 := own_apart h9 hA (by decide) g9 rfl
 have n12 := own_apart h12 hA (by decide) g12 rfl
 have hBut : But gs y (y.setCells gs 0 [.slice (some ⟨g9, 0, none⟩) vs.length e9, .slice (some ⟨g12, 0, none⟩) ms.length e12, .slice none 0 0]) := But.setCells _ 0 _ (But.refl _ _)
 have hsz := size_setCells gs [.slice (some ⟨g9, 0, none⟩) vs.length e9, .slice (some ⟨g12, 0, none⟩) ms.length e12, .slice none 0 0] 0 y
 obtain ⟨c1, c2, c3, rfl⟩ : ∃ c1 c2 c3, cs = [c1, c2, c3] := by
  match cs, hcs with
  | [c1, c2, c3], _ => exact ⟨c1, c2, c3, rfl⟩
 refine ⟨At.setCells _ 0 _ _ hA, ?_, ?_⟩
 ·obtain ⟨a, c, e, hr, ht⟩ := RowV.of_own h9 hi hl
  cases e
  refine ⟨_, _, rfl, ?_, ?_⟩
  ·rw [hsz]
   obtain ⟨h1, h2, h | ⟨g, o, e, hg', hr'⟩⟩ := hr
   ·exact ⟨h1, h2, .inl h⟩
   ·cases e
    refine ⟨h1, h2, .inr ⟨_, _, rfl, hg', fun i v hv => ⟨fun j u hj => ?_, (hr' i v hv).2⟩⟩⟩
    rw [World.cell?_of_block (w := y) (hBut.block _ hg' n9)]
    exact (hr' i v hv).1 j u hj
  ·have := (h9.lt g9 rfl).1
   exact .inr ⟨_, _, rfl, by omega, n9⟩
 ·refine ⟨_, _, rfl, ?_, .inr ⟨_, _, rfl, hg, n12⟩⟩
  rw [hsz]
  obtain ⟨h1, h2, h | ⟨g, o, e, hg', hr'⟩⟩ := hr12
  ·exact ⟨h1, h2, .inl h⟩
  ·cases e
   refine ⟨h1, h2, .inr ⟨_, _, rfl, hg', fun i v hv => ?_⟩⟩
   rw [World.cell?_of_block (w := y) (hBut.block _ hg' n12)]
   exact hr' i v hv

/-- While the threads' row grows. -/
structure KP (gs : Nat) (x0 wr : World) (v9 v12 v : Value) (xs : List Th) (ys : List TT) : Prop where
 ag : At 26 wr gs [v9, v12, v]
 ku : KU x0.heap.size wr v xs ys
 bl : But gs x0 wr
 lt : gs < x0.heap.size
section
variable {gs : Nat} {x0 wr wr' : World} {v9 v12 v : Value} {xs : List Th} {ys : List TT}
theorem KP.below (h : KP gs x0 wr v9 v12 v xs ys) (hb : Below wr.heap.size wr wr') : KP gs x0 wr' v9 v12 v xs ys :=
 ⟨h.ag.below hb, h.ku.below hb, h.bl.trans (But.of_below hb), h.lt⟩
theorem KP.app {y : TT} {g cap : Nat} (h : KP gs x0 wr v9 v12 v xs ys) (hi : y.In wr.heap.size wr) (hy : y.Lies (fun k => x0.heap.size ≤ k ∧ some k ≠ v.ownBlock))
  (ho : wr'.ownsRow x0.heap.size 59 3 (.slice (some ⟨g, 0, none⟩) (ys.length + 1) cap) (ys.length + 1) (flatT ys ++ y.cells)) (hg : wr.grownBy wr' v.ownBlock) (hw : v.ownBlock = some g ∨ g = wr.heap.size) :
  At 26 wr' gs [v9, v12, v] ∧ KP gs x0 (wr'.setCell ⟨gs, 2, none⟩ (.slice (some ⟨g, 0, none⟩) (ys.length + 1) cap)) v9 v12 (.slice (some ⟨g, 0, none⟩) (ys.length + 1) cap) (xs ++ [y.th]) (ys ++ [y]) := by
 have hn : ∀ k, k < x0.heap.size → some k ≠ v.ownBlock := fun k hk e => by have := (h.ku.own.lt k e.symm).1; omega
 have lt := h.lt
 have q2 := h.ag.grown hg (hn gs lt)
 have qk := h.ku.app hi hy ho hg hw
 have qb : But gs x0 wr' := ⟨hg.os.trans h.bl.os, hg.tape.trans h.bl.tape, hg.output.trans h.bl.output, Nat.le_trans h.bl.size hg.size, fun k hk hne => (hg.block k (Nat.lt_of_lt_of_le hk h.bl.size) (hn k hk)).trans (h.bl.block k hk hne)⟩
 have hbut : But gs wr' (wr'.setCell ⟨gs, 2, none⟩ (.slice (some ⟨g, 0, none⟩) (ys.length + 1) cap)) := (But.refl gs wr').setCell 2 _
 exact ⟨q2, q2.set 2 _, qk.keep hbut.size (fun k h1 h2 => hbut.block k h2 (by omega)), qb.trans hbut, lt⟩
end
theorem wp_store_thr {o : Oper} {a : Act} {K : Act → World → Prop} {Q : Exit → Act → World → Prop} {w : World} (x y : Operand) (ho : o.op = .store 24 x y) (g off : Nat) (sa : Option Addr) (m c : Nat)
  (hx : a.eval x = .pointer (some ⟨g, off, none⟩)) (hy : a.eval y = .slice sa m c) (t : TypeId) (old : List Value) (hg : At t w g old) (hold : off < old.length)
  (h : K (a.put o.dst undef) (w.setCell ⟨g, off, none⟩ (.slice sa m c))) : o.wp Tryz.prog a w K Q := by
 have r : w.cell? ⟨g, off, none⟩ = some old[off] := by rw [hg.cell, List.getElem?_eq_getElem hold]
 have f := hg.frozen off
 unfold Oper.wp execOp
 simp only [ho, hx, hy]
 go_simp
 exact h

end Go.Proofs.YtcmahiphfpgadaaGreatDoor
