/- Joined texts of the proof. -/
import Derived.Test.YtcmkjjlchljffaaDoorJ1
import Derived.Maps.AppendAt
import Derived.Maps.OwnSet
import Derived.StringKeys
import Derived.LaidEqlPtr

/- The given answer's disk: Cut, Append. -/
namespace Go.Proofs.YtcmkjjlchljffaaDoor
open Go.RowKit
set_option linter.unusedVariables false

/-- A file's cells are written, in its place; its bytes may lie elsewhere. -/
theorem RDv.setg {B g k c i j : Nat} {w w' : World} {W F F' : Nat → Prop} {ts : List FT} {d d' : Dk} {t t' : FT} {u : Value} {cs : List Value} (h : RDv B w g W F (.slice (some ⟨k, 0, none⟩) ts.length c) ts d) (hA : At 70 w k cs) (ht : ts[i]? = some t) (hy : t'.cells = t.cells.set j u) (hj : j < 4)
    (hA' : At 70 w' k (cs.set (i * 4 + j) u)) (hb : But k w w') (hF : ∀ q, F q → F' q) (hlt : ∀ q, F' q → q < w'.heap.size) (hin : t'.In w' W F') (e1 : d'.sz = d.sz) (e2 : d'.lf = d.lf) (e3 : d'.wr = d.wr) (e4 : (ts.set i t').map FT.fi = d'.fs) : RDv B w' g W F' (.slice (some ⟨k, 0, none⟩) (ts.set i t').length c) (ts.set i t') d' := by
  have hk : W k := h.wv k rfl
  have hkg : g ≠ k := fun e => h.ne (by rw [e]; rfl)
  refine ⟨?_, ?_, e4, fun f hf => ?_, h.wg, h.wv, fun q hq => ⟨hF q (h.wf q hq).1, (h.wf q hq).2⟩, hlt⟩
  · rw [e1, e2, e3, List.length_set]
    exact h.at_.same (hb.block g h.at_.lt hkg)
  · rw [List.length_set]
    exact h.own.put hA ht hy hj hA'
  · rcases List.mem_or_eq_of_mem_set hf with hf | rfl
    · obtain ⟨q1, q2, q3⟩ := h.ins f hf
      exact ⟨q1.same fun ad ha => hb.block _ (h.lt _ (q2 ad ha).1) fun e => (q2 ad ha).2 (e ▸ hk), fun ad ha => ⟨hF _ (q2 ad ha).1, (q2 ad ha).2⟩, q3⟩
    · exact hin
/-- A file's bytes are others now, in a block that is new. -/
theorem RDv.bytes {B g k c i : Nat} {w x0 x2 x3 : World} {W F : Nat → Prop} {ts : List FT} {d : Dk} {t : FT} {v : Value} {cs : List Value} {bs : List UInt8} (h : RDv B w g W F (.slice (some ⟨k, 0, none⟩) ts.length c) ts d) (hA : At 70 w k cs) (ht : ts[i]? = some t) (h0 : w.heap.size ≤ x0.heap.size) (hb : Below w.heap.size w x2)
    (ho : OwnX eB x0.heap.size x2 v bs) (hA' : At 70 x3 k (cs.set (i * 4 + 1) v)) (hb3 : But k x2 x3) : ∃ t1 : FT, t1.bs = bs ∧ t1.nm = t.nm ∧ t1.sf = t.sf ∧ t1.hd = t.hd ∧ RDv B x3 g W (newF F v) (.slice (some ⟨k, 0, none⟩) (ts.set i t1).length c) (ts.set i t1) { d with fs := (ts.set i t1).map FT.fi } ∧ Moves w W F x3 W (newF F v) := by
  obtain ⟨a, cap, rfl, c1, c2, c3, c4, hrow⟩ := ho.row
  have hW : ∀ q, W q → q < w.heap.size := fun q hq => h.lt q (h.wf q hq).1
  have hbk : ∀ q, (Value.slice a bs.length cap).ownBlock = some q → w.heap.size ≤ q ∧ q < x2.heap.size := fun q hq => ⟨Nat.le_trans h0 (ho.block q hq).1, (ho.block q hq).2.1⟩
  refine ⟨⟨t.nm, a, bs, cap, t.sf, t.hd⟩, rfl, rfl, rfl, rfl, (h.below hb).setg (t' := ⟨t.nm, a, bs, cap, t.sf, t.hd⟩) (hA.below hb) ht rfl (j := 1) (by decide) hA' hb3 (fun q hq => .inl hq) ?_ ⟨?_, ?_, c1, c3⟩ rfl rfl rfl rfl, ?_, fun q hq => .inl hq, ?_⟩
  · rintro q (hq | hq)
    · exact Nat.lt_of_lt_of_le (h.lt q hq) (Nat.le_trans hb.size hb3.size)
    · exact Nat.lt_of_lt_of_le (hbk q hq).2 hb3.size
  · refine (rowB.1 hrow).same fun ad ha => hb3.block _ (hbk _ (c4 ad ha)).2 fun e => ?_
    have := (hbk _ (c4 ad ha)).1
    have := hW k (h.wv k rfl)
    omega
  · intro ad ha
    refine ⟨.inr (c4 ad ha), fun e => ?_⟩
    have := (hbk _ (c4 ad ha)).1
    have := hW _ e
    omega
  · exact (Chg.of_below hb).trans (Chg.of_but hb3 (h.wv k rfl))
  · rintro q (hq | hq)
    · exact .inl hq
    · exact .inr (hbk q hq).1
def ctO (d : Dk) (nm : ByteArray) (z : Int) : Dk × Int :=
  match d.fs.find? (isN nm) with
  | none => (d, 6)
  | some f => if z < 0 ∨ (f.bs.length : Int) < z then (d, 2) else if f.sf < f.bs.length then (d, 10) else if d.lf = 0 then (d, 13) else ({ pwD d with fs := setL nm (fun f => { f with bs := f.bs.take z.toNat, sf := z.toNat, hd := true }) d.fs }, 0)
theorem Row.take {w : World} {a : Option Addr} {bs : List UInt8} (h : Row w a bs) (z : Nat) : Row w a (bs.take z) := by
  rcases h with rfl | ⟨b, off, rfl, hc⟩
  · exact .inl (by simp)
  · refine .inr ⟨b, off, rfl, fun j hj => ?_⟩
    rw [List.length_take] at hj
    rw [hc j (by omega)]
    simp [List.getD, List.getElem?_take_of_lt (show j < z by omega)]
end Go.Proofs.YtcmkjjlchljffaaDoor

/- The given answer's disk: Append. -/
namespace Go.Proofs.YtcmkjjlchljffaaDoor
open Go.RowKit
set_option linter.unusedVariables false

theorem Row.same0 {w w' : World} {a : Option Addr} {bs : List UInt8} (h : Row w a bs) (e : bs ≠ [] → ∀ ad, a = some ad → w'.heap[ad.block]? = w.heap[ad.block]?) : Row w' a bs := by
  by_cases hb : bs = []
  · exact .inl hb
  · exact h.same (e hb)
theorem RowX.same0 {α : Type} {e : El α} {w w' : World} {a : Option Addr} {xs : List α} (h : RowX e w a xs) (k : xs ≠ [] → ∀ ad, a = some ad → w'.heap[ad.block]? = w.heap[ad.block]?) : RowX e w' a xs := by
  by_cases hb : xs = []
  · exact .inl hb
  · exact h.same (k hb)

def fil0 (nm : ByteArray) : Fi := ⟨nm, [], 0, false⟩
/-- The files among which a new one may stand. -/
def hasL (nm : ByteArray) (fs : List Fi) : List Fi := if (fs.find? (isN nm)).isNone then insL (fil0 nm) fs else fs
def apO (d : Dk) (nm : ByteArray) (b : List UInt8) : Dk × Int :=
  if nmOk nm = false then (d, 2) else if (d.fs.find? (isN nm) = none ∧ 256 ≤ d.fs.length) ∨ d.sz < usedL d.fs + b.length then (d, 8) else if d.lf = 0 then (d, 13)
  else ({ pwD d with fs := setL nm (fun f => { f with bs := f.bs ++ b }) (hasL nm d.fs) }, 0)
theorem isN_self (nm : ByteArray) (bs : List UInt8) (sf : Nat) (hd : Bool) : isN nm ⟨nm, bs, sf, hd⟩ = true := by simp [isN]
theorem insL_find {nm : ByteArray} : ∀ {fs : List Fi}, fs.find? (isN nm) = none → (insL (fil0 nm) fs).find? (isN nm) = some (fil0 nm)
  | [], _ => by rw [insL, List.find?_cons_of_pos (show isN nm (fil0 nm) = true from isN_self ..)]
  | f :: fs, h => by
    have h1 : isN nm f = false := by
      have := List.find?_eq_none.1 h f List.mem_cons_self
      simpa using this
    have h2 : fs.find? (isN nm) = none := by rw [List.find?_cons_of_neg (by rw [h1]; simp)] at h; exact h
    unfold insL
    split
    · rw [List.find?_cons_of_pos (show isN nm (fil0 nm) = true from isN_self ..)]
    · rw [List.find?_cons_of_neg (by rw [h1]; simp)]
      exact insL_find h2
theorem find_not_none {α : Type} {o : Option α} {f : α} (h : o = some f) : o ≠ none := by rw [h]; simp
set_option maxRecDepth 100000 in
set_option maxHeartbeats 12800000 in
theorem refAppend_any (B g : Nat) (W F : Nat → Prop) (d : Dk) (nm : ByteArray) (ba : Option Addr) (lb bc : Nat) (b : List UInt8) (w : World) (h : RD B w g W F d) (hd : Fine d) (hB : B ≤ w.heap.size) (hnm : nm.size ≤ 9223372036854775807)
    (hrow : Row w ba b) (hlb : lb = b.length) (bC : lb ≤ bc) (bN : ba = none → bc = 0) (hll : lb ≤ 1099511627776) (hap : b ≠ [] → ∀ ad, ba = some ad → ¬ W ad.block ∧ ad.block < w.heap.size) : Calls Tryd.prog 11 #[.pointer (some ⟨g, 0, none⟩), .string nm, .slice ba lb bc] w (PostD B g W F w (apO d nm b)) := by
  have HN := hidU (refName_any nm w hnm)
  have HC := hidU (refAt_any B g W F d nm w h (by have := hd.ln; omega))
  obtain ⟨R, hR⟩ : ∃ R, Hid (R = apO d nm b) := ⟨_, (rfl : _ = apO _ _ _)⟩
  rw [← hR.out]
  have hlb := hidU hlb
  cases hok : nmOk nm with
  | false =>
    rw [hok] at HN
    have e : R = (d, 2) := by rw [hR.out, apO, if_pos hok]
    subst e
    have HH := hidU h
    clear h hd hR hok hap hrow
    go_enter Tryd.func11, Tryd.ntmps11
    go_wp2_with (go_at_call 39; refine HN.mono ?_; rintro _ w1 ⟨rfl, hw⟩; obtain rfl : w = w1 := hw.symm; clear hw)
    go_ret
    exact ⟨rfl, W, F, HH.out, Moves.refl _ _ _⟩
  | true =>
  rw [hok] at HN
  have hR2 : Hid (R = if (d.fs.find? (isN nm) = none ∧ 256 ≤ d.fs.length) ∨ d.sz < usedL d.fs + b.length then (d, 8) else if d.lf = 0 then (d, 13) else ({ pwD d with fs := setL nm (fun f => { f with bs := f.bs ++ b }) (hasL nm d.fs) }, 0)) := by show R = _; rw [hR.out, apO, if_neg (by rw [hok]; simp)]
  clear hR hok
  have hH := h
  obtain ⟨v, ts, h⟩ := h
  obtain ⟨a, c, rfl, hc1, hlook⟩ := h.look
  obtain ⟨m, hm⟩ : ∃ n, Hid (n = ts.length) := ⟨_, (rfl : ts.length = _)⟩
  have cL := (hlook w (Below.refl _ _)).1
  rw [← hm.out] at cL hc1
  have hmd : m = d.fs.length := by rw [hm.out, h.len]
  obtain ⟨u, hu⟩ : ∃ n, n = usedL d.fs := ⟨_, rfl⟩
  obtain ⟨sz, hsz⟩ : ∃ n, n = d.sz := ⟨_, rfl⟩
  have cS := h.at_.cell 0
  simp only [List.getElem?_cons_zero] at cS
  rw [← hsz] at cS
  have HU : Hid (∀ q, Calls Tryd.prog 41 #[.pointer (some ⟨g, 0, none⟩)] (w.drewN q) fun r w' => r = .returned (.int .i64 (u : Int)) ∧ w' = w.drewN q) := fun q => by rw [hu]; exact refUsed_any B g W F d (w.drewN q) (hH.drewN q) (by have := hd.ln; omega) (by have := hd.us; have := hd.sz; omega)
  have hus : u ≤ 67108864 ∧ sz ≤ 67108864 ∧ m ≤ 256 := by rw [hu, hsz, hmd]; have := hd.us; have := hd.sz; have := hd.ln; exact ⟨by omega, by omega, by omega⟩
  obtain ⟨hus1, hus2, hus3⟩ := hus
  rw [← hmd, ← hu, ← hsz, ← hlb.out] at hR2
  have hsum : IntKind.i64.wrap ((u : Int) + (lb : Int)) = (u : Int) + (lb : Int) := by rw [IntKind.wrap_i64]; omega
  have hCalls : ∀ q, RDv B (w.drewN q) g W F (.slice a ts.length c) ts d := fun q => h.drewN q
  have HRow := hidU hrow
  have HAp := hidU hap
  clear hrow hap hlook
  cases hf : d.fs.find? (isN nm) with
  | none =>
    rw [atZ_none hf] at HC
    by_cases h256 : 256 ≤ m
    · have e : R = (d, 8) := by rw [hR2.out, if_pos (.inl ⟨hf, h256⟩)]
      subst e
      have HH := hidU hH
      have hdec : decide ((256 : Int) ≤ (m : Int)) = true := decide_eq_true (by omega)
      clear h hH hd hR2 hf hCalls hmd hu hsz hsum
      go_enter Tryd.func11, Tryd.ntmps11
      go_wp2_with (first | (go_at_call 39; refine HN.mono ?_; rintro _ w1 ⟨rfl, hw⟩; obtain rfl : w = w1 := hw.symm; clear hw) | (go_at_call 40; refine HC.mono ?_; rintro _ w1 ⟨rfl, hw⟩; obtain rfl : w = w1 := hw.symm; clear hw))
      go_quiet (fail)
      go_wp2
      go_ret
      exact ⟨rfl, W, F, HH.out.drewN _, Moves.of_below (below_drN (Below.refl _ _))⟩
    have hdec : decide ((256 : Int) ≤ (m : Int)) = false := decide_eq_false (by omega)
    have hnot : ¬ (d.fs.find? (isN nm) = none ∧ 256 ≤ m) := fun h => h256 h.2
    by_cases hbig : sz < u + lb
    · have e : R = (d, 8) := by rw [hR2.out, if_pos (.inr hbig)]
      subst e
      have HH := hidU hH
      have hgt : decide ((sz : Int) < (u : Int) + (lb : Int)) = true := decide_eq_true (by omega)
      clear h hH hd hR2 hf hCalls hmd hu hsz hnot
      go_enter Tryd.func11, Tryd.ntmps11
      go_wp2_with (first | (go_at_call 39; refine HN.mono ?_; rintro _ w1 ⟨rfl, hw⟩; obtain rfl : w = w1 := hw.symm; clear hw) | (go_at_call 40; refine HC.mono ?_; rintro _ w1 ⟨rfl, hw⟩; obtain rfl : w = w1 := hw.symm; clear hw))
      go_quiet ((go_at_call 41; exact Calls.quiet_of_same (HU.out _)))
      go_wp2
      go_ret
      exact ⟨rfl, W, F, HH.out.drewN _, Moves.of_below (below_drN (Below.refl _ _))⟩
    have hgt : decide ((sz : Int) < (u : Int) + (lb : Int)) = false := decide_eq_false (by omega)
    have hR4 : Hid (R = if d.lf = 0 then (d, 13) else ({ pwD d with fs := setL nm (fun f => { f with bs := f.bs ++ b }) (hasL nm d.fs) }, 0)) := by show R = _; rw [hR2.out, if_neg (fun q => q.elim hnot hbig)]
    clear hR2
    by_cases h0 : d.lf = 0
    · have e : R = (d, 13) := by rw [hR4.out, if_pos h0]
      subst e
      have HH := hidU hH
      have HP : Hid (∀ q, Calls Tryd.prog 42 #[.pointer (some ⟨g, 0, none⟩)] (w.drewN q) fun r w' => r = .returned (.bool false) ∧ w' = w.drewN q) := fun q => refPower_no B g W F d (w.drewN q) (hH.drewN q) h0
      clear h hH hd hR4 hf hCalls hmd hu hsz hnot h0
      go_enter Tryd.func11, Tryd.ntmps11
      go_wp2_with (first | (go_at_call 39; refine HN.mono ?_; rintro _ w1 ⟨rfl, hw⟩; obtain rfl : w = w1 := hw.symm; clear hw) | (go_at_call 40; refine HC.mono ?_; rintro _ w1 ⟨rfl, hw⟩; obtain rfl : w = w1 := hw.symm; clear hw))
      go_quiet ((go_at_call 41; exact Calls.quiet_of_same (HU.out _)))
      go_wp2_with (go_at_call 42; refine (HP.out _).mono ?_; rintro _ w2 ⟨rfl, hw2⟩; subst hw2)
      go_ret
      exact ⟨rfl, W, F, HH.out.drewN _, Moves.of_below (below_drN (Below.refl _ _))⟩
    have e : Hid (R = ({ pwD d with fs := setL nm (fun f => { f with bs := f.bs ++ b }) (hasL nm d.fs) }, 0)) := by show R = _; rw [hR4.out, if_neg h0]
    have HP : Hid (∀ q, Calls Tryd.prog 42 #[.pointer (some ⟨g, 0, none⟩)] (w.drewN q) fun r w' => r = .returned (.bool true) ∧ RDv B w' g W F (.slice a ts.length c) ts (pwD d) ∧ But g (w.drewN q) w' ∧ w'.heap.size = (w.drewN q).heap.size) := fun q => refPower_yes B g W F _ ts d (w.drewN q) (hCalls q) h0 hd.lf hd.lg hd.wr
    have hWg := h.wg
    have HD := hidU hd
    have he2 : R.2 = 0 := by rw [e.out]
    clear h hH hd hR4 hCalls hmd hu hsz hnot h0
    obtain ⟨t0, ht0⟩ : ∃ t0 : FT, t0 = ⟨nm, none, [], 0, 0, false⟩ := ⟨_, rfl⟩
    have hcells : t0.cells = [.string nm, .slice none 0 0, .int .i64 0, .bool false] := by rw [ht0]; rfl
    have HT0 := hidU ht0
    have HPu : Hid (∀ x, RDv B x g W F (.slice a ts.length c) ts (pwD d) → B ≤ x.heap.size → Calls Tryd.prog 43 #[.pointer (some ⟨g, 0, none⟩), .agg [Value.string nm, .slice none 0 0, .int .i64 0, .bool false].toArray] x fun r w' => r = .returned (.tuple #[]) ∧ ∃ v2, RDv B w' g (newW g v2) (newF F v2) v2 (insF t0 ts) (putD (pwD d) t0.fi) ∧ Moves x W F w' (newW g v2) (newF F v2)) := fun x hx hb => by
      rw [← hcells]
      exact refPut_any B g W F _ ts (pwD d) t0 x hx (by show d.fs.length ≤ _; have := HD.out.ln; omega) hb (by rw [HT0.out]; exact ⟨.inl rfl, (fun ad h => by cases h), Nat.le_refl _, fun _ => rfl⟩)
    clear hcells ht0
    go_enter Tryd.func11, Tryd.ntmps11
    go_wp2_with (first | (go_at_call 39; refine HN.mono ?_; rintro _ w1 ⟨rfl, hw⟩; obtain rfl : w = w1 := hw.symm; clear hw) | (go_at_call 40; refine HC.mono ?_; rintro _ w1 ⟨rfl, hw⟩; obtain rfl : w = w1 := hw.symm; clear hw))
    go_quiet ((go_at_call 41; exact Calls.quiet_of_same (HU.out _)))
    go_wp2_with (go_at_call 42; refine (HP.out _).mono ?_; rintro _ wp ⟨rfl, hp1, hbp, hsp⟩; refine Hid.out ?_)
    refine hidU ?_
    have hbp' : But g w wp := ⟨hbp.os, hbp.tape, hbp.output, hbp.size, hbp.block⟩
    have HPp := hidU (HPu.out wp hp1 (Nat.le_trans hB hbp'.size))
    have HMp : Hid (Moves w W F wp W F) := ⟨Chg.of_but hbp' hWg, fun _ h => .inl h, fun _ h => .inl h⟩
    clear hbp hsp hbp' HPu HP HU HN cL cS
    go_wp2_with (first | (refine wpList_build_at rfl 70 _ rfl [Value.string nm, .slice none 0 0, .int .i64 0, .bool false] (by kernel_rfl) ?_) | (go_at_call 43; refine HPp.mono ?_; rintro _ w1 ⟨rfl, v1, h1, m1⟩; refine Hid.out ?_))
    refine hidU ?_
    have hfi : t0.fi = fil0 nm := by rw [HT0.out]; rfl
    have HF : Hid ((putD (pwD d) t0.fi).fs.find? (isN nm) = some (fil0 nm)) := by rw [hfi]; exact insL_find hf
    obtain ⟨i, hi, _, _⟩ := atZ_some HF.out
    have hl1 : (putD (pwD d) t0.fi).fs.length ≤ 1048576 := by
      rw [← h1.fs, List.length_map]
      have := (Ga.len (i := ts.length) (b := true) (l := insF t0 ts) (ts := ts) (f := t0) ⟨fun h => (by cases h), fun _ => by simp⟩ (Nat.le_refl _))
      rw [← hm.out] at this
      omega
    have HC1 := hidU (refAt_any B g _ _ _ nm w1 ⟨_, _, h1⟩ hl1)
    rw [hi] at HC1
    have HI := hidU hi
    have HMw := hidU (HMp.out.trans m1)
    obtain ⟨W1, hW1⟩ : ∃ x, x = newW g v1 := ⟨_, rfl⟩
    obtain ⟨F1, hF1⟩ : ∃ x, x = newF F v1 := ⟨_, rfl⟩
    obtain ⟨d1, hd1⟩ : ∃ x, x = putD (pwD d) t0.fi := ⟨_, rfl⟩
    obtain ⟨ts1, hts1⟩ : ∃ x, x = insF t0 ts := ⟨_, rfl⟩
    rw [← hW1, ← hF1] at HMw h1
    rw [← hd1] at h1 HF HI
    rw [← hts1] at h1
    have HE : Hid (R.1 = { d1 with fs := setL nm (fun f => { f with bs := f.bs ++ b }) d1.fs }) := by
      show _ = _
      rw [e.out, hd1, hfi]
      have e9 : hasL nm d.fs = insL (fil0 nm) d.fs := by rw [hasL, hf]; rfl
      rw [e9]
      rfl
    have hm1 : ts1.length ≤ 1048576 := by rw [h1.len, hd1]; exact hl1
    have hfl : (fil0 nm).bs.length ≤ 67108864 := Nat.zero_le _
    obtain ⟨f1, hf1⟩ : ∃ x, x = fil0 nm := ⟨_, rfl⟩
    rw [← hf1] at HF hfl
    clear HPp HMp m1 hW1 hF1 hd1 hts1 hf1 hfi hl1 hi HT0 hp1 HC hf hm
    go_wp2_with (go_at_call 40; refine HC1.mono ?_; rintro _ w2 ⟨rfl, hw⟩; obtain rfl : w1 = w2 := hw.symm; clear hw)
    obtain ⟨i', k, c', t, cs, hi', ht', htf', hil, hv', hc', hA, hcs, q0, q1, q2, q3⟩ := h1.file (nm := nm) HF.out
    subst hv'
    obtain rfl : i = i' := by have := hi'.out; rw [HI.out] at this; omega
    have cL := h1.at_.cell 1
    simp only [List.getElem?_cons_succ, List.getElem?_cons_zero] at cL
    obtain ⟨m, hm⟩ : ∃ n, Hid (n = ts1.length) := ⟨_, (rfl : ts1.length = _)⟩
    rw [← hm.out] at cL hm1 hil hc'
    obtain ⟨ad, had⟩ : ∃ n, Hid (n = t.ad) := ⟨_, (rfl : t.ad = _)⟩
    obtain ⟨cp, hcp⟩ : ∃ n, Hid (n = t.cp) := ⟨_, (rfl : t.cp = _)⟩
    obtain ⟨n, hn⟩ : ∃ n, Hid (n = t.bs.length) := ⟨_, (rfl : t.bs.length = _)⟩
    have hnl : n ≤ 67108864 := by rw [hn.out]; have := htf'.out; rw [← this] at hfl; exact hfl
    have IN := h1.ins t (List.mem_of_getElem? ht'.out)
    have I3 := IN.2.2.1
    have I4 := IN.2.2.2
    rw [← hn.out, ← hcp.out] at I3
    rw [← had.out, ← hcp.out] at I4
    rw [← hn.out, ← had.out, ← hcp.out] at q1
    have HTi := ht'
    have HTf := htf'
    have H1 := hidU h1
    have HA := hidU hA
    have HCL : Hid (i * 4 + 3 < cs.length) := by show _ < _; rw [hcs.out]; omega
    have HRb : Hid (∀ x, Below w1.heap.size w1 x → RowX eB x ba b) := fun x hx => rowB.2 ((HRow.out.same0 fun hne ad ha => HMw.out.chg.block _ (HAp.out hne ad ha).2 (HAp.out hne ad ha).1).below hx)
    have HRw0 := hidU HRow
    clear HRow
    have HRow : Hid (∀ x, Below w1.heap.size w1 x → RowX eB x ad t.bs) := fun x hx => rowB.2 (IN.1.below hx |> (had.out ▸ ·))
    obtain ⟨c, hcc⟩ : ∃ x, x = c' := ⟨_, rfl⟩
    rw [← hcc] at cL hc' H1
    clear h1 hA hcs q0 q2 q3 hi' ht' htf' hcc HAp IN
    go_wp2
    have hS0a : Below w1.heap.size w1 w1.drew := Below.drew (Below.refl _ _)
    refine wp_region_S (S := fun xS => Below w1.heap.size w1 xS) (St := [19]) (by kernel_rfl) hS0a ?_
    obtain ⟨x0a, hx0⟩ : ∃ x, x = w1.drew := ⟨_, rfl⟩
    rw [← hx0] at hS0a  ⊢
    clear hx0
    intro hH
    refine wpAnyS_pure (i := 0) (oi := { dst := some 48, op := .move (.tmp 0), type := _, pos := _, after := _, guard := none }) (v := .pointer (some ⟨g, 0, none⟩)) rfl (by kernel_rfl) (by kernel_rfl) (by kernel_rfl) (by kernel_rfl) (fun _ _ _ h => h) (Or.inl ⟨by rfl, ?_⟩) hH (fun hH => ?_)
    · intro wS hSw
      go_simp
    simp only [Act.put, List.setIfInBounds_toArray, List.set_cons_zero, List.set_cons_succ]
    refine wpAnyS_pure (i := 1) (oi := { dst := some 49, op := .nilCheck (.tmp 48), type := _, pos := _, after := _, guard := none }) (v := .pointer (some ⟨g, 0, none⟩)) rfl (by kernel_rfl) (by kernel_rfl) (by kernel_rfl) (by kernel_rfl) (fun _ _ _ h => h) (Or.inl ⟨by rfl, ?_⟩) hH (fun hH => ?_)
    · intro wS hSw
      go_simp
    simp only [Act.put, List.setIfInBounds_toArray, List.set_cons_zero, List.set_cons_succ]
    refine wpAnyS_pure (i := 2) (oi := { dst := some 50, op := .fieldAddr 61 (.tmp 49) 1, type := _, pos := _, after := _, guard := none }) (v := .pointer (some ⟨g, 1, none⟩)) rfl (by kernel_rfl) (by kernel_rfl) (by kernel_rfl) (by kernel_rfl) (fun _ _ _ h => h) (Or.inl ⟨by rfl, ?_⟩) hH (fun hH => ?_)
    · intro wS hSw
      go_simp
    simp only [Act.put, List.setIfInBounds_toArray, List.set_cons_zero, List.set_cons_succ]
    refine wpAnyS_take [17, 18, 19] (i := 3) (oi := { dst := some 51, op := .load 59 (.tmp 50), type := _, pos := _, after := _, guard := none }) (v := .slice (some ⟨k, 0, none⟩) m c) rfl (by kernel_rfl) (by kernel_rfl) (by kernel_rfl) (by kernel_rfl) (by kernel_rfl) (by kernel_rfl) (by kernel_rfl) (fun _ _ _ h => h) (Or.inl ⟨by rfl, ?_⟩) hH (fun hH => ?_)
    · intro wS hSw
      have z0 := (hSw.cell (lt_of_cell cL)).trans cL
      go_simp
    simp only [Act.put, List.setIfInBounds_toArray, List.set_cons_zero, List.set_cons_succ]
    refine wpAnyS_pure (i := 4) (oi := { dst := some 52, op := .move (.tmp 7), type := _, pos := _, after := _, guard := none }) (v := .int .i64 (i : Int)) rfl (by kernel_rfl) (by kernel_rfl) (by kernel_rfl) (by kernel_rfl) (fun _ _ _ h => h) (Or.inl ⟨by rfl, ?_⟩) hH (fun hH => ?_)
    · intro wS hSw
      go_simp
    simp only [Act.put, List.setIfInBounds_toArray, List.set_cons_zero, List.set_cons_succ]
    refine wpAnyS_pure (i := 6) (oi := { dst := some 54, op := .move (.tmp 0), type := _, pos := _, after := _, guard := none }) (v := .pointer (some ⟨g, 0, none⟩)) rfl (by kernel_rfl) (by kernel_rfl) (by kernel_rfl) (by kernel_rfl) (fun _ _ _ h => h) (Or.inl ⟨by rfl, ?_⟩) hH (fun hH => ?_)
    · intro wS hSw
      go_simp
    simp only [Act.put, List.setIfInBounds_toArray, List.set_cons_zero, List.set_cons_succ]
    refine wpAnyS_pure (i := 7) (oi := { dst := some 55, op := .nilCheck (.tmp 54), type := _, pos := _, after := _, guard := none }) (v := .pointer (some ⟨g, 0, none⟩)) rfl (by kernel_rfl) (by kernel_rfl) (by kernel_rfl) (by kernel_rfl) (fun _ _ _ h => h) (Or.inl ⟨by rfl, ?_⟩) hH (fun hH => ?_)
    · intro wS hSw
      go_simp
    simp only [Act.put, List.setIfInBounds_toArray, List.set_cons_zero, List.set_cons_succ]
    refine wpAnyS_pure (i := 8) (oi := { dst := some 56, op := .fieldAddr 61 (.tmp 55) 1, type := _, pos := _, after := _, guard := none }) (v := .pointer (some ⟨g, 1, none⟩)) rfl (by kernel_rfl) (by kernel_rfl) (by kernel_rfl) (by kernel_rfl) (fun _ _ _ h => h) (Or.inl ⟨by rfl, ?_⟩) hH (fun hH => ?_)
    · intro wS hSw
      go_simp
    simp only [Act.put, List.setIfInBounds_toArray, List.set_cons_zero, List.set_cons_succ]
    refine wpAnyS_take [11, 12, 13, 14, 16, 17, 18, 19] (i := 9) (oi := { dst := some 57, op := .load 59 (.tmp 56), type := _, pos := _, after := _, guard := none }) (v := .slice (some ⟨k, 0, none⟩) m c) rfl (by kernel_rfl) (by kernel_rfl) (by kernel_rfl) (by kernel_rfl) (by kernel_rfl) (by kernel_rfl) (by kernel_rfl) (fun _ _ _ h => h) (Or.inl ⟨by rfl, ?_⟩) hH (fun hH => ?_)
    · intro wS hSw
      have z0 := (hSw.cell (lt_of_cell cL)).trans cL
      go_simp
    simp only [Act.put, List.setIfInBounds_toArray, List.set_cons_zero, List.set_cons_succ]
    refine wpAnyS_pure (i := 10) (oi := { dst := some 58, op := .move (.tmp 7), type := _, pos := _, after := _, guard := none }) (v := .int .i64 (i : Int)) rfl (by kernel_rfl) (by kernel_rfl) (by kernel_rfl) (by kernel_rfl) (fun _ _ _ h => h) (Or.inl ⟨by rfl, ?_⟩) hH (fun hH => ?_)
    · intro wS hSw
      go_simp
    simp only [Act.put, List.setIfInBounds_toArray, List.set_cons_zero, List.set_cons_succ]
    refine wpAnyS_pure (i := 11) (oi := { dst := some 59, op := .indexAddr 59 (.tmp 57) (.tmp 58), type := _, pos := _, after := _, guard := none }) (v := .pointer (some ⟨k, i * 4, none⟩)) rfl (by kernel_rfl) (by kernel_rfl) (by kernel_rfl) (by kernel_rfl) (fun _ _ _ h => h) (Or.inl ⟨by rfl, ?_⟩) hH (fun hH => ?_)
    · intro wS hSw
      go_simp
    simp only [Act.put, List.setIfInBounds_toArray, List.set_cons_zero, List.set_cons_succ]
    refine wpAnyS_pure (i := 12) (oi := { dst := some 60, op := .fieldAddr 70 (.tmp 59) 1, type := _, pos := _, after := _, guard := none }) (v := .pointer (some ⟨k, i * 4 + 1, none⟩)) rfl (by kernel_rfl) (by kernel_rfl) (by kernel_rfl) (by kernel_rfl) (fun _ _ _ h => h) (Or.inl ⟨by rfl, ?_⟩) hH (fun hH => ?_)
    · intro wS hSw
      go_simp
    simp only [Act.put, List.setIfInBounds_toArray, List.set_cons_zero, List.set_cons_succ]
    refine wpAnyS_take [14, 16, 17, 18, 19] (i := 13) (oi := { dst := some 61, op := .load 29 (.tmp 60), type := _, pos := _, after := _, guard := none }) (v := .slice ad n cp) rfl (by kernel_rfl) (by kernel_rfl) (by kernel_rfl) (by kernel_rfl) (by kernel_rfl) (by kernel_rfl) (by kernel_rfl) (fun _ _ _ h => h) (Or.inl ⟨by rfl, ?_⟩) hH (fun hH => ?_)
    · intro wS hSw
      have z0 := (hSw.cell (lt_of_cell q1)).trans q1
      go_simp
    simp only [Act.put, List.setIfInBounds_toArray, List.set_cons_zero, List.set_cons_succ]
    refine wpAnyS_pure (i := 15) (oi := { dst := some 63, op := .move (.tmp 2), type := _, pos := _, after := _, guard := none }) (v := .slice ba lb bc) rfl (by kernel_rfl) (by kernel_rfl) (by kernel_rfl) (by kernel_rfl) (fun _ _ _ h => h) (Or.inl ⟨by rfl, ?_⟩) hH (fun hH => ?_)
    · intro wS hSw
      go_simp
    simp only [Act.put, List.setIfInBounds_toArray, List.set_cons_zero, List.set_cons_succ]
    refine wpAnyS_ready (rs := [5]) (by kernel_rfl) (by simp) ?_
    refine AllReadyS.cons (o := { dst := some 53, op := .buildSlice 29 0 #[], type := _, pos := _, after := _, guard := none }) rfl (fun K hK => ?_) AllReadyS.nil
    rw [if_pos (by rfl)]
    refine wp_layB0 rfl ?_
    intro x1a ho1a hb1a hs1a
    have hz1a : x0a.heap.size ≤ x1a.heap.size := hb1a.size
    have hS1a := hS0a.trans (hb1a.mono hS0a.size)
    refine hK.out _ _ (Hold.of hS1a) (fun hH => ?_)
    clear hK K
    refine wpAnyS_ready (rs := [14]) (by kernel_rfl) (by simp) ?_
    refine AllReadyS.cons (o := { dst := some 62, op := .call { callee := .builtin .append, args := #[.tmp 53, .tmp 61], argTypes := #[29, 29] }, type := _, pos := _, after := _, guard := none }) rfl (fun K hK => ?_) AllReadyS.nil
    rw [if_pos (by rfl)]
    refine wp_appX eB (.tmp 53) (.tmp 61) rfl x0a.heap.size _ ad n cp rfl rfl ho1a hn.out.symm I4 I3 (HRow.out x1a hS1a) (by rw [List.length_nil]; unfold maxLen; omega) (by rw [List.length_nil]; show (0 + n) * 1 ≤ _; omega) (by have := hS1a.size; have := (hz1a : x0a.heap.size ≤ x1a.heap.size); omega) ?_
    intro v2a x2a ho2a hg2a
    have hz2a : x0a.heap.size ≤ x2a.heap.size := Nat.le_trans hz1a hg2a.size
    have hS2a := Below.grown hS1a hg2a hS1a.size (fun q hq => Nat.le_trans hS0a.size (ho1a.block q hq).1)
    refine hK.out _ _ (Hold.of hS2a) (fun hH => ?_)
    clear hK K
    refine wpAnyS_ready (rs := [16]) (by kernel_rfl) (by simp) ?_
    refine AllReadyS.cons (o := { dst := some 64, op := .call { callee := .builtin .append, args := #[.tmp 62, .tmp 63], argTypes := #[29, 29] }, type := _, pos := _, after := _, guard := none }) rfl (fun K hK => ?_) AllReadyS.nil
    rw [if_pos (by rfl)]
    refine wp_appX eB (.tmp 62) (.tmp 63) rfl x0a.heap.size _ ba lb bc rfl rfl ho2a hlb.out.symm bN bC (HRb.out x2a hS2a) (by rw [List.nil_append, ← hn.out]; unfold maxLen; omega) (by rw [List.nil_append, ← hn.out]; show (n + lb) * 1 ≤ _; omega) (by have := hS2a.size; have := (hz2a : x0a.heap.size ≤ x2a.heap.size); omega) ?_
    intro v3a x3a ho3a hg3a
    have hz3a : x0a.heap.size ≤ x3a.heap.size := Nat.le_trans hz2a hg3a.size
    have hS3a := Below.grown hS2a hg3a hS2a.size (fun q hq => Nat.le_trans hS0a.size (ho2a.block q hq).1)
    refine hK.out _ _ (Hold.of hS3a) (fun hH => ?_)
    clear hK K
    refine wpAnyS_pure (i := 17) (oi := { dst := some 65, op := .indexAddr 59 (.tmp 51) (.tmp 52), type := _, pos := _, after := _, guard := none }) (v := .pointer (some ⟨k, i * 4, none⟩)) rfl (by kernel_rfl) (by kernel_rfl) (by kernel_rfl) (by kernel_rfl) (fun _ _ _ h => h) (Or.inl ⟨by rfl, ?_⟩) hH (fun hH => ?_)
    · intro wS hSw
      go_simp
    simp only [Act.put, List.setIfInBounds_toArray, List.set_cons_zero, List.set_cons_succ]
    refine wpAnyS_pure (i := 18) (oi := { dst := some 66, op := .fieldAddr 70 (.tmp 65) 1, type := _, pos := _, after := _, guard := none }) (v := .pointer (some ⟨k, i * 4 + 1, none⟩)) rfl (by kernel_rfl) (by kernel_rfl) (by kernel_rfl) (by kernel_rfl) (fun _ _ _ h => h) (Or.inl ⟨by rfl, ?_⟩) hH (fun hH => ?_)
    · intro wS hSw
      go_simp
    simp only [Act.put, List.setIfInBounds_toArray, List.set_cons_zero, List.set_cons_succ]
    refine wpAnyS_ready (rs := [19]) (by kernel_rfl) (by simp) ?_
    refine AllReadyS.cons (o := { dst := none, op := .store 29 (.tmp 66) (.tmp 64), type := _, pos := _, after := _, guard := none }) rfl (fun K hK => ?_) AllReadyS.nil
    rw [if_pos (by rfl)]
    obtain ⟨hv1, hv2⟩ := ho3a.cells
    refine wp_store_one 29 (.tmp 66) (.tmp 64) rfl k (i * 4 + 1) v3a rfl rfl 70 _ (HA.out.below hS3a) (by have := HCL.out; omega) i30 hv1 hv2 ?_
    intro x4a hA4a hb4a hs4a
    refine hK.out _ _ (Hold.over (s := 19) (by decide) (by rfl)) (fun hH => ?_)
    clear hK K
    refine wpAnyS_done (by kernel_rfl) ?_ _
    simp only [Act.put]
    obtain ⟨t1, b1, b2, b3, b4, H3, M3⟩ := H1.out.bytes HA.out HTi.out hS0a.size hS3a ho3a hA4a hb4a
    rw [List.nil_append] at b1
    have H4 : Hid (RDv B x4a g W1 (newF F1 v3a) (.slice (some ⟨k, 0, none⟩) (ts1.set i t1).length c) (ts1.set i t1) R.1) := by
      have e3 : R.1 = { d1 with fs := (ts1.set i t1).map FT.fi } := by
        rw [HE.out, setL_at HF.out HI.out, List.map_set, H1.out.fs, ← HTf.out]
        simp only [FT.fi, b1, b2, b3, b4]
      show RDv _ _ _ _ _ _ _ _
      rw [e3]
      exact H3
    have HM4 := hidU (HMw.out.trans M3)
    clear cL q1 hA4a hb4a hs4a hS0a hS1a hS2a hS3a hH ho1a ho2a ho3a hg2a hg3a hb1a hs1a hz1a hz2a hz3a hv1 hv2 H3 M3 HRow HA H1
    go_wp2
    go_ret
    refine ⟨?_, W1, _, ⟨_, _, H4.out⟩, HM4.out⟩
    rw [he2]
    rfl
  | some f =>
    obtain ⟨i, hi, hfi, _⟩ := atZ_some hf
    rw [hi] at HC
    have hnot : ¬ (d.fs.find? (isN nm) = none ∧ 256 ≤ m) := fun h => find_not_none hf h.1
    have hdi : decide ((i : Int) < 0) = false := decide_eq_false (by omega)
    by_cases hbig : sz < u + lb
    · have e : R = (d, 8) := by rw [hR2.out, if_pos (.inr hbig)]
      subst e
      have HH := hidU hH
      have hgt : decide ((sz : Int) < (u : Int) + (lb : Int)) = true := decide_eq_true (by omega)
      clear h hH hd hR2 hf hCalls hmd hu hsz hnot
      go_enter Tryd.func11, Tryd.ntmps11
      go_wp2_with (first | (go_at_call 39; refine HN.mono ?_; rintro _ w1 ⟨rfl, hw⟩; obtain rfl : w = w1 := hw.symm; clear hw) | (go_at_call 40; refine HC.mono ?_; rintro _ w1 ⟨rfl, hw⟩; obtain rfl : w = w1 := hw.symm; clear hw))
      go_quiet ((go_at_call 41; exact Calls.quiet_of_same (HU.out _)))
      go_wp2
      go_ret
      exact ⟨rfl, W, F, HH.out.drewN _, Moves.of_below (below_drN (Below.refl _ _))⟩
    have hgt : decide ((sz : Int) < (u : Int) + (lb : Int)) = false := decide_eq_false (by omega)
    have hR4 : Hid (R = if d.lf = 0 then (d, 13) else ({ pwD d with fs := setL nm (fun f => { f with bs := f.bs ++ b }) (hasL nm d.fs) }, 0)) := by show R = _; rw [hR2.out, if_neg (fun q => q.elim hnot hbig)]
    clear hR2
    by_cases h0 : d.lf = 0
    · have e : R = (d, 13) := by rw [hR4.out, if_pos h0]
      subst e
      have HH := hidU hH
      have HP : Hid (∀ q, Calls Tryd.prog 42 #[.pointer (some ⟨g, 0, none⟩)] (w.drewN q) fun r w' => r = .returned (.bool false) ∧ w' = w.drewN q) := fun q => refPower_no B g W F d (w.drewN q) (hH.drewN q) h0
      clear h hH hd hR4 hf hCalls hmd hu hsz hnot h0
      go_enter Tryd.func11, Tryd.ntmps11
      go_wp2_with (first | (go_at_call 39; refine HN.mono ?_; rintro _ w1 ⟨rfl, hw⟩; obtain rfl : w = w1 := hw.symm; clear hw) | (go_at_call 40; refine HC.mono ?_; rintro _ w1 ⟨rfl, hw⟩; obtain rfl : w = w1 := hw.symm; clear hw))
      go_quiet ((go_at_call 41; exact Calls.quiet_of_same (HU.out _)))
      go_wp2_with (go_at_call 42; refine (HP.out _).mono ?_; rintro _ w2 ⟨rfl, hw2⟩; subst hw2)
      go_ret
      exact ⟨rfl, W, F, HH.out.drewN _, Moves.of_below (below_drN (Below.refl _ _))⟩
    have e : Hid (R = ({ pwD d with fs := setL nm (fun f => { f with bs := f.bs ++ b }) (hasL nm d.fs) }, 0)) := by show R = _; rw [hR4.out, if_neg h0]
    have HP : Hid (∀ q, Calls Tryd.prog 42 #[.pointer (some ⟨g, 0, none⟩)] (w.drewN q) fun r w' => r = .returned (.bool true) ∧ RDv B w' g W F (.slice a ts.length c) ts (pwD d) ∧ But g (w.drewN q) w' ∧ w'.heap.size = (w.drewN q).heap.size) := fun q => refPower_yes B g W F _ ts d (w.drewN q) (hCalls q) h0 hd.lf hd.lg hd.wr
    have hWg := h.wg
    have HD := hidU hd
    have he2 : R.2 = 0 := by rw [e.out]
    clear h hH hd hR4 hCalls hmd hu hsz hnot h0
    have hfl : f.bs.length ≤ 67108864 := by have := mem_used (List.mem_of_getElem? hfi); have := HD.out.us; have := HD.out.sz; omega
    have HF0 := hidU hf
    have HI0 := hidU hi
    clear hfi
    go_enter Tryd.func11, Tryd.ntmps11
    go_wp2_with (first | (go_at_call 39; refine HN.mono ?_; rintro _ w1 ⟨rfl, hw⟩; obtain rfl : w = w1 := hw.symm; clear hw) | (go_at_call 40; refine HC.mono ?_; rintro _ w1 ⟨rfl, hw⟩; obtain rfl : w = w1 := hw.symm; clear hw))
    go_quiet ((go_at_call 41; exact Calls.quiet_of_same (HU.out _)))
    go_wp2_with (go_at_call 42; refine (HP.out _).mono ?_; rintro _ w1 ⟨rfl, h1, hbp, hsp⟩; refine Hid.out ?_)
    refine hidU ?_
    have hbp' : But g w w1 := ⟨hbp.os, hbp.tape, hbp.output, hbp.size, hbp.block⟩
    have HMw : Hid (Moves w W F w1 W F) := ⟨Chg.of_but hbp' hWg, fun _ h => .inl h, fun _ h => .inl h⟩
    obtain ⟨W1, hW1⟩ : ∃ x, x = W := ⟨_, rfl⟩
    obtain ⟨F1, hF1⟩ : ∃ x, x = F := ⟨_, rfl⟩
    obtain ⟨d1, hd1⟩ : ∃ x, x = pwD d := ⟨_, rfl⟩
    obtain ⟨ts1, hts1⟩ : ∃ x, x = ts := ⟨_, rfl⟩
    have HMw' : Hid (Moves w W F w1 W1 F1) := by rw [hW1, hF1]; exact HMw
    rw [← hd1, ← hts1] at h1
    obtain ⟨v1, hv1⟩ : ∃ x, x = Value.slice a ts1.length c := ⟨_, rfl⟩
    rw [← hv1] at h1
    have h1' : RDv B w1 g W1 F1 v1 ts1 d1 := by rw [hW1, hF1]; exact h1
    have HF : Hid (d1.fs.find? (isN nm) = some f) := by rw [hd1]; exact HF0
    have HI : Hid (atZ d1.fs nm = (i : Int)) := by rw [hd1]; exact HI0
    have HE : Hid (R.1 = { d1 with fs := setL nm (fun f => { f with bs := f.bs ++ b }) d1.fs }) := by
      show _ = _
      rw [e.out, hd1]
      have e9 : hasL nm d.fs = d.fs := by rw [hasL, HF0.out]; rfl
      rw [e9]
      rfl
    have hm1 : ts1.length ≤ 1048576 := by rw [h1.len, hd1]; have := HD.out.ln; show d.fs.length ≤ _; omega
    clear hbp hsp hbp' HP HU HN cL cS HMw h1 hW1 hF1 hd1 hts1 hv1 hf hi HF0 HI0 HC hm
    have h1 := h1'
    have HMw := HMw'
    obtain ⟨f1, hf1⟩ : ∃ x, x = f := ⟨_, rfl⟩
    rw [← hf1] at HF hfl
    clear h1' HMw' hf1
    go_wp2
    obtain ⟨i', k, c', t, cs, hi', ht', htf', hil, hv', hc', hA, hcs, q0, q1, q2, q3⟩ := h1.file (nm := nm) HF.out
    subst hv'
    obtain rfl : i = i' := by have := hi'.out; rw [HI.out] at this; omega
    have cL := h1.at_.cell 1
    simp only [List.getElem?_cons_succ, List.getElem?_cons_zero] at cL
    obtain ⟨m, hm⟩ : ∃ n, Hid (n = ts1.length) := ⟨_, (rfl : ts1.length = _)⟩
    rw [← hm.out] at cL hm1 hil hc'
    obtain ⟨ad, had⟩ : ∃ n, Hid (n = t.ad) := ⟨_, (rfl : t.ad = _)⟩
    obtain ⟨cp, hcp⟩ : ∃ n, Hid (n = t.cp) := ⟨_, (rfl : t.cp = _)⟩
    obtain ⟨n, hn⟩ : ∃ n, Hid (n = t.bs.length) := ⟨_, (rfl : t.bs.length = _)⟩
    have hnl : n ≤ 67108864 := by rw [hn.out]; have := htf'.out; rw [← this] at hfl; exact hfl
    have IN := h1.ins t (List.mem_of_getElem? ht'.out)
    have I3 := IN.2.2.1
    have I4 := IN.2.2.2
    rw [← hn.out, ← hcp.out] at I3
    rw [← had.out, ← hcp.out] at I4
    rw [← hn.out, ← had.out, ← hcp.out] at q1
    have HTi := ht'
    have HTf := htf'
    have H1 := hidU h1
    have HA := hidU hA
    have HCL : Hid (i * 4 + 3 < cs.length) := by show _ < _; rw [hcs.out]; omega
    have HRb : Hid (∀ x, Below w1.heap.size w1 x → RowX eB x ba b) := fun x hx => rowB.2 ((HRow.out.same0 fun hne ad ha => HMw.out.chg.block _ (HAp.out hne ad ha).2 (HAp.out hne ad ha).1).below hx)
    have HRw0 := hidU HRow
    clear HRow
    have HRow : Hid (∀ x, Below w1.heap.size w1 x → RowX eB x ad t.bs) := fun x hx => rowB.2 (IN.1.below hx |> (had.out ▸ ·))
    obtain ⟨c, hcc⟩ : ∃ x, x = c' := ⟨_, rfl⟩
    rw [← hcc] at cL hc' H1
    clear h1 hA hcs q0 q2 q3 hi' ht' htf' hcc HAp IN
    go_wp2
    have hS0a : Below w1.heap.size w1 w1.drew := Below.drew (Below.refl _ _)
    refine wp_region_S (S := fun xS => Below w1.heap.size w1 xS) (St := [19]) (by kernel_rfl) hS0a ?_
    obtain ⟨x0a, hx0⟩ : ∃ x, x = w1.drew := ⟨_, rfl⟩
    rw [← hx0] at hS0a  ⊢
    clear hx0
    intro hH
    refine wpAnyS_pure (i := 0) (oi := { dst := some 48, op := .move (.tmp 0), type := _, pos := _, after := _, guard := none }) (v := .pointer (some ⟨g, 0, none⟩)) rfl (by kernel_rfl) (by kernel_rfl) (by kernel_rfl) (by kernel_rfl) (fun _ _ _ h => h) (Or.inl ⟨by rfl, ?_⟩) hH (fun hH => ?_)
    · intro wS hSw
      go_simp
    simp only [Act.put, List.setIfInBounds_toArray, List.set_cons_zero, List.set_cons_succ]
    refine wpAnyS_pure (i := 1) (oi := { dst := some 49, op := .nilCheck (.tmp 48), type := _, pos := _, after := _, guard := none }) (v := .pointer (some ⟨g, 0, none⟩)) rfl (by kernel_rfl) (by kernel_rfl) (by kernel_rfl) (by kernel_rfl) (fun _ _ _ h => h) (Or.inl ⟨by rfl, ?_⟩) hH (fun hH => ?_)
    · intro wS hSw
      go_simp
    simp only [Act.put, List.setIfInBounds_toArray, List.set_cons_zero, List.set_cons_succ]
    refine wpAnyS_pure (i := 2) (oi := { dst := some 50, op := .fieldAddr 61 (.tmp 49) 1, type := _, pos := _, after := _, guard := none }) (v := .pointer (some ⟨g, 1, none⟩)) rfl (by kernel_rfl) (by kernel_rfl) (by kernel_rfl) (by kernel_rfl) (fun _ _ _ h => h) (Or.inl ⟨by rfl, ?_⟩) hH (fun hH => ?_)
    · intro wS hSw
      go_simp
    simp only [Act.put, List.setIfInBounds_toArray, List.set_cons_zero, List.set_cons_succ]
    refine wpAnyS_take [17, 18, 19] (i := 3) (oi := { dst := some 51, op := .load 59 (.tmp 50), type := _, pos := _, after := _, guard := none }) (v := .slice (some ⟨k, 0, none⟩) m c) rfl (by kernel_rfl) (by kernel_rfl) (by kernel_rfl) (by kernel_rfl) (by kernel_rfl) (by kernel_rfl) (by kernel_rfl) (fun _ _ _ h => h) (Or.inl ⟨by rfl, ?_⟩) hH (fun hH => ?_)
    · intro wS hSw
      have z0 := (hSw.cell (lt_of_cell cL)).trans cL
      go_simp
    simp only [Act.put, List.setIfInBounds_toArray, List.set_cons_zero, List.set_cons_succ]
    refine wpAnyS_pure (i := 4) (oi := { dst := some 52, op := .move (.tmp 7), type := _, pos := _, after := _, guard := none }) (v := .int .i64 (i : Int)) rfl (by kernel_rfl) (by kernel_rfl) (by kernel_rfl) (by kernel_rfl) (fun _ _ _ h => h) (Or.inl ⟨by rfl, ?_⟩) hH (fun hH => ?_)
    · intro wS hSw
      go_simp
    simp only [Act.put, List.setIfInBounds_toArray, List.set_cons_zero, List.set_cons_succ]
    refine wpAnyS_pure (i := 6) (oi := { dst := some 54, op := .move (.tmp 0), type := _, pos := _, after := _, guard := none }) (v := .pointer (some ⟨g, 0, none⟩)) rfl (by kernel_rfl) (by kernel_rfl) (by kernel_rfl) (by kernel_rfl) (fun _ _ _ h => h) (Or.inl ⟨by rfl, ?_⟩) hH (fun hH => ?_)
    · intro wS hSw
      go_simp
    simp only [Act.put, List.setIfInBounds_toArray, List.set_cons_zero, List.set_cons_succ]
    refine wpAnyS_pure (i := 7) (oi := { dst := some 55, op := .nilCheck (.tmp 54), type := _, pos := _, after := _, guard := none }) (v := .pointer (some ⟨g, 0, none⟩)) rfl (by kernel_rfl) (by kernel_rfl) (by kernel_rfl) (by kernel_rfl) (fun _ _ _ h => h) (Or.inl ⟨by rfl, ?_⟩) hH (fun hH => ?_)
    · intro wS hSw
      go_simp
    simp only [Act.put, List.setIfInBounds_toArray, List.set_cons_zero, List.set_cons_succ]
    refine wpAnyS_pure (i := 8) (oi := { dst := some 56, op := .fieldAddr 61 (.tmp 55) 1, type := _, pos := _, after := _, guard := none }) (v := .pointer (some ⟨g, 1, none⟩)) rfl (by kernel_rfl) (by kernel_rfl) (by kernel_rfl) (by kernel_rfl) (fun _ _ _ h => h) (Or.inl ⟨by rfl, ?_⟩) hH (fun hH => ?_)
    · intro wS hSw
      go_simp
    simp only [Act.put, List.setIfInBounds_toArray, List.set_cons_zero, List.set_cons_succ]
    refine wpAnyS_take [11, 12, 13, 14, 16, 17, 18, 19] (i := 9) (oi := { dst := some 57, op := .load 59 (.tmp 56), type := _, pos := _, after := _, guard := none }) (v := .slice (some ⟨k, 0, none⟩) m c) rfl (by kernel_rfl) (by kernel_rfl) (by kernel_rfl) (by kernel_rfl) (by kernel_rfl) (by kernel_rfl) (by kernel_rfl) (fun _ _ _ h => h) (Or.inl ⟨by rfl, ?_⟩) hH (fun hH => ?_)
    · intro wS hSw
      have z0 := (hSw.cell (lt_of_cell cL)).trans cL
      go_simp
    simp only [Act.put, List.setIfInBounds_toArray, List.set_cons_zero, List.set_cons_succ]
    refine wpAnyS_pure (i := 10) (oi := { dst := some 58, op := .move (.tmp 7), type := _, pos := _, after := _, guard := none }) (v := .int .i64 (i : Int)) rfl (by kernel_rfl) (by kernel_rfl) (by kernel_rfl) (by kernel_rfl) (fun _ _ _ h => h) (Or.inl ⟨by rfl, ?_⟩) hH (fun hH => ?_)
    · intro wS hSw
      go_simp
    simp only [Act.put, List.setIfInBounds_toArray, List.set_cons_zero, List.set_cons_succ]
    refine wpAnyS_pure (i := 11) (oi := { dst := some 59, op := .indexAddr 59 (.tmp 57) (.tmp 58), type := _, pos := _, after := _, guard := none }) (v := .pointer (some ⟨k, i * 4, none⟩)) rfl (by kernel_rfl) (by kernel_rfl) (by kernel_rfl) (by kernel_rfl) (fun _ _ _ h => h) (Or.inl ⟨by rfl, ?_⟩) hH (fun hH => ?_)
    · intro wS hSw
      go_simp
    simp only [Act.put, List.setIfInBounds_toArray, List.set_cons_zero, List.set_cons_succ]
    refine wpAnyS_pure (i := 12) (oi := { dst := some 60, op := .fieldAddr 70 (.tmp 59) 1, type := _, pos := _, after := _, guard := none }) (v := .pointer (some ⟨k, i * 4 + 1, none⟩)) rfl (by kernel_rfl) (by kernel_rfl) (by kernel_rfl) (by kernel_rfl) (fun _ _ _ h => h) (Or.inl ⟨by rfl, ?_⟩) hH (fun hH => ?_)
    · intro wS hSw
      go_simp
    simp only [Act.put, List.setIfInBounds_toArray, List.set_cons_zero, List.set_cons_succ]
    refine wpAnyS_take [14, 16, 17, 18, 19] (i := 13) (oi := { dst := some 61, op := .load 29 (.tmp 60), type := _, pos := _, after := _, guard := none }) (v := .slice ad n cp) rfl (by kernel_rfl) (by kernel_rfl) (by kernel_rfl) (by kernel_rfl) (by kernel_rfl) (by kernel_rfl) (by kernel_rfl) (fun _ _ _ h => h) (Or.inl ⟨by rfl, ?_⟩) hH (fun hH => ?_)
    · intro wS hSw
      have z0 := (hSw.cell (lt_of_cell q1)).trans q1
      go_simp
    simp only [Act.put, List.setIfInBounds_toArray, List.set_cons_zero, List.set_cons_succ]
    refine wpAnyS_pure (i := 15) (oi := { dst := some 63, op := .move (.tmp 2), type := _, pos := _, after := _, guard := none }) (v := .slice ba lb bc) rfl (by kernel_rfl) (by kernel_rfl) (by kernel_rfl) (by kernel_rfl) (fun _ _ _ h => h) (Or.inl ⟨by rfl, ?_⟩) hH (fun hH => ?_)
    · intro wS hSw
      go_simp
    simp only [Act.put, List.setIfInBounds_toArray, List.set_cons_zero, List.set_cons_succ]
    refine wpAnyS_ready (rs := [5]) (by kernel_rfl) (by simp) ?_
    refine AllReadyS.cons (o := { dst := some 53, op := .buildSlice 29 0 #[], type := _, pos := _, after := _, guard := none }) rfl (fun K hK => ?_) AllReadyS.nil
    rw [if_pos (by rfl)]
    refine wp_layB0 rfl ?_
    intro x1a ho1a hb1a hs1a
    have hz1a : x0a.heap.size ≤ x1a.heap.size := hb1a.size
    have hS1a := hS0a.trans (hb1a.mono hS0a.size)
    refine hK.out _ _ (Hold.of hS1a) (fun hH => ?_)
    clear hK K
    refine wpAnyS_ready (rs := [14]) (by kernel_rfl) (by simp) ?_
    refine AllReadyS.cons (o := { dst := some 62, op := .call { callee := .builtin .append, args := #[.tmp 53, .tmp 61], argTypes := #[29, 29] }, type := _, pos := _, after := _, guard := none }) rfl (fun K hK => ?_) AllReadyS.nil
    rw [if_pos (by rfl)]
    refine wp_appX eB (.tmp 53) (.tmp 61) rfl x0a.heap.size _ ad n cp rfl rfl ho1a hn.out.symm I4 I3 (HRow.out x1a hS1a) (by rw [List.length_nil]; unfold maxLen; omega) (by rw [List.length_nil]; show (0 + n) * 1 ≤ _; omega) (by have := hS1a.size; have := (hz1a : x0a.heap.size ≤ x1a.heap.size); omega) ?_
    intro v2a x2a ho2a hg2a
    have hz2a : x0a.heap.size ≤ x2a.heap.size := Nat.le_trans hz1a hg2a.size
    have hS2a := Below.grown hS1a hg2a hS1a.size (fun q hq => Nat.le_trans hS0a.size (ho1a.block q hq).1)
    refine hK.out _ _ (Hold.of hS2a) (fun hH => ?_)
    clear hK K
    refine wpAnyS_ready (rs := [16]) (by kernel_rfl) (by simp) ?_
    refine AllReadyS.cons (o := { dst := some 64, op := .call { callee := .builtin .append, args := #[.tmp 62, .tmp 63], argTypes := #[29, 29] }, type := _, pos := _, after := _, guard := none }) rfl (fun K hK => ?_) AllReadyS.nil
    rw [if_pos (by rfl)]
    refine wp_appX eB (.tmp 62) (.tmp 63) rfl x0a.heap.size _ ba lb bc rfl rfl ho2a hlb.out.symm bN bC (HRb.out x2a hS2a) (by rw [List.nil_append, ← hn.out]; unfold maxLen; omega) (by rw [List.nil_append, ← hn.out]; show (n + lb) * 1 ≤ _; omega) (by have := hS2a.size; have := (hz2a : x0a.heap.size ≤ x2a.heap.size); omega) ?_
    intro v3a x3a ho3a hg3a
    have hz3a : x0a.heap.size ≤ x3a.heap.size := Nat.le_trans hz2a hg3a.size
    have hS3a := Below.grown hS2a hg3a hS2a.size (fun q hq => Nat.le_trans hS0a.size (ho2a.block q hq).1)
    refine hK.out _ _ (Hold.of hS3a) (fun hH => ?_)
    clear hK K
    refine wpAnyS_pure (i := 17) (oi := { dst := some 65, op := .indexAddr 59 (.tmp 51) (.tmp 52), type := _, pos := _, after := _, guard := none }) (v := .pointer (some ⟨k, i * 4, none⟩)) rfl (by kernel_rfl) (by kernel_rfl) (by kernel_rfl) (by kernel_rfl) (fun _ _ _ h => h) (Or.inl ⟨by rfl, ?_⟩) hH (fun hH => ?_)
    · intro wS hSw
      go_simp
    simp only [Act.put, List.setIfInBounds_toArray, List.set_cons_zero, List.set_cons_succ]
    refine wpAnyS_pure (i := 18) (oi := { dst := some 66, op := .fieldAddr 70 (.tmp 65) 1, type := _, pos := _, after := _, guard := none }) (v := .pointer (some ⟨k, i * 4 + 1, none⟩)) rfl (by kernel_rfl) (by kernel_rfl) (by kernel_rfl) (by kernel_rfl) (fun _ _ _ h => h) (Or.inl ⟨by rfl, ?_⟩) hH (fun hH => ?_)
    · intro wS hSw
      go_simp
    simp only [Act.put, List.setIfInBounds_toArray, List.set_cons_zero, List.set_cons_succ]
    refine wpAnyS_ready (rs := [19]) (by kernel_rfl) (by simp) ?_
    refine AllReadyS.cons (o := { dst := none, op := .store 29 (.tmp 66) (.tmp 64), type := _, pos := _, after := _, guard := none }) rfl (fun K hK => ?_) AllReadyS.nil
    rw [if_pos (by rfl)]
    obtain ⟨hv1, hv2⟩ := ho3a.cells
    refine wp_store_one 29 (.tmp 66) (.tmp 64) rfl k (i * 4 + 1) v3a rfl rfl 70 _ (HA.out.below hS3a) (by have := HCL.out; omega) i30 hv1 hv2 ?_
    intro x4a hA4a hb4a hs4a
    refine hK.out _ _ (Hold.over (s := 19) (by decide) (by rfl)) (fun hH => ?_)
    clear hK K
    refine wpAnyS_done (by kernel_rfl) ?_ _
    simp only [Act.put]
    obtain ⟨t1, b1, b2, b3, b4, H3, M3⟩ := H1.out.bytes HA.out HTi.out hS0a.size hS3a ho3a hA4a hb4a
    rw [List.nil_append] at b1
    have H4 : Hid (RDv B x4a g W1 (newF F1 v3a) (.slice (some ⟨k, 0, none⟩) (ts1.set i t1).length c) (ts1.set i t1) R.1) := by
      have e3 : R.1 = { d1 with fs := (ts1.set i t1).map FT.fi } := by
        rw [HE.out, setL_at HF.out HI.out, List.map_set, H1.out.fs, ← HTf.out]
        simp only [FT.fi, b1, b2, b3, b4]
      show RDv _ _ _ _ _ _ _ _
      rw [e3]
      exact H3
    have HM4 := hidU (HMw.out.trans M3)
    clear cL q1 hA4a hb4a hs4a hS0a hS1a hS2a hS3a hH ho1a ho2a ho3a hg2a hg3a hb1a hs1a hz1a hz2a hz3a hv1 hv2 H3 M3 HRow HA H1
    go_wp2
    go_ret
    refine ⟨?_, W1, _, ⟨_, _, H4.out⟩, HM4.out⟩
    rw [he2]
    rfl
end Go.Proofs.YtcmkjjlchljffaaDoor

/- Where a row that grows lies; the given answer's disk copied. -/
namespace Go.Proofs.YtcmkjjlchljffaaDoor
open Go.RowKit
set_option linter.unusedVariables false

section
variable {α : Type} {o : Oper} {a : Act} {w : World} {K : Act → World → Prop} {Q : Exit → Act → World → Prop} {xs ys : List α}
theorem wp_appY (e : El α) (s x : Operand) (ho : o.op = .call { callee := .builtin .append, args := #[s, x], argTypes := #[e.T, e.T] }) (base : Nat) (v : Value) (b : Option Addr) (m c : Nat)
    (hs : a.eval s = v) (hx : a.eval x = .slice b m c) (hown : OwnX e base w v xs) (hm : ys.length = m) (hnil : b = none → c = 0) (hc : m ≤ c) (hrow : RowX e w b ys) (h63 : xs.length + m ≤ maxLen) (hl : (xs.length + m) * e.by_ ≤ 140737488355328) (hbase : base ≤ w.heap.size)
    (h : ∀ v' w', OwnX e base w' v' (xs ++ ys) → w.grownBy w' v.ownBlock → (v'.ownBlock = v.ownBlock ∨ v'.ownBlock = some w.heap.size) → K (a.put o.dst v') w') : o.wp Tryd.prog a w K Q := by
  obtain ⟨i0, hi, hz0, hz1, hz2⟩ := info_parts e.info
  cases b with
  | none =>
    obtain rfl : c = 0 := hnil rfl
    obtain rfl : m = 0 := by omega
    have hf : ys = [] := List.length_eq_zero_iff.1 hm
    subst hf
    have := h v w (by rw [List.append_nil]; exact hown) ⟨rfl, rfl, rfl, Nat.le_refl _, fun _ _ _ => rfl⟩ (.inl rfl)
    have hrun := run_append_owned_none (P := Tryd.prog) (w := w) base e.T o.type e.E i0 e.n e.und hi v xs.length (e.flat xs) hown
    unfold Oper.wp
    simp [execOp, ho, resolve, invoke, builtin, hs, hx, hrun, Result.andThen]
    exact this
  | some ad =>
    have hnews : ∀ j u, (e.flat ys)[j]? = some u → w.cell? (ad.add j) = some u := by
      intro j u hj
      rcases hrow with h0 | ⟨g, off, hb, hr⟩
      · rw [h0] at hj; simp [El.flat] at hj
      · cases hb
        rw [add_none]
        exact hr j u hj
    obtain ⟨v', w', hr, h2, h3, _, h5⟩ := run_append_own_at (P := Tryd.prog) w base e.T o.type e.E i0 _ e.n e.by_ e.und hi hz0 hz1 hz2 e.zs e.pos v xs.length (e.flat xs) hown ad m c (e.flat ys) (by rw [flat_len, hm]) hnews (flat_one e ys) h63 hl hbase
    have := h v' w' (by unfold OwnX; rw [List.length_append, hm, flat_app]; exact h2) h3 h5
    unfold Oper.wp execOp
    simp only [ho, resolve, invoke, builtin, Sem.run_bind, Sem.run_pure, Result.andThen_ok, List.map_toArray, List.map_cons, List.map_nil, hs, hx, hr]
    exact this
theorem wpList_appY {ops : Array Oper} {rest : List Oper} (e : El α) (hgd : o.guard = none) (s x : Operand) (ho : o.op = .call { callee := .builtin .append, args := #[s, x], argTypes := #[e.T, e.T] }) (base : Nat) (v : Value) (b : Option Addr) (m c : Nat)
    (hs : a.eval s = v) (hx : a.eval x = .slice b m c) (hown : OwnX e base w v xs) (hm : ys.length = m) (hnil : b = none → c = 0) (hc : m ≤ c) (hrow : RowX e w b ys) (h63 : xs.length + m ≤ maxLen) (hl : (xs.length + m) * e.by_ ≤ 140737488355328) (hbase : base ≤ w.heap.size)
    (h : ∀ v' w', OwnX e base w' v' (xs ++ ys) → w.grownBy w' v.ownBlock → (v'.ownBlock = v.ownBlock ∨ v'.ownBlock = some w.heap.size) → wpList Tryd.prog ops Q rest (a.put o.dst v') w') : wpList Tryd.prog ops Q (o :: rest) a w :=
  wpList_plain hgd fun _ hK => wp_appY e s x ho base v b m c hs hx hown hm hnil hc hrow h63 hl hbase fun v' w' h1 h2 h3 => hK _ _ (h v' w' h1 h2 h3)
theorem wpList_layF0 {ops : Array Oper} {rest : List Oper} (hgd : o.guard = none) (ho : o.op = .buildSlice 59 0 #[])
    (h : ∀ w', OwnX eF w.heap.size w' (.slice (some ⟨w.heap.size, 0, none⟩) 0 0) [] → Below w.heap.size w w' → w'.heap.size = w.heap.size + 1 → wpList Tryd.prog ops Q rest (a.put o.dst (.slice (some ⟨w.heap.size, 0, none⟩) 0 0)) w') : wpList Tryd.prog ops Q (o :: rest) a w := by
  refine wpList_plain hgd fun K hK => ?_
  have := hK _ _ (h _ (own_lay0 eF w) ((Below.refl _ w).alloc (Nat.le_refl _) _) (by simp))
  unfold Oper.wp execOp
  rw [ho]
  go_simp
  exact this
end
theorem u65 : ∃ d, Tryd.prog.underlying 60 = some d ∧ d.isRow = true := by
  have h : (Tryd.prog.underlying 60).map (·.isRow) = some true := by kernel_rfl
  cases hq : Tryd.prog.underlying 60 with
  | none => rw [hq] at h; cases h
  | some d => rw [hq] at h; simp at h; exact ⟨d, rfl, h⟩
theorem At.rng {t : TypeId} {w : World} {g : Nat} {cs : List Value} (h : At t w g cs) : w.rangeAt g 0 cs := fun j v hj => by rw [Nat.zero_add, h.cell]; exact hj
theorem z65 : (Tryd.prog.info? 61).map (fun i => (i.zero, i.size)) = some (some (.agg [Value.int .i64 0, .slice none 0 0, .int .i64 0, .int .i64 0].toArray), 4) := by kernel_rfl
/-- What a copy of a disk reads. -/
def cloF (W F : Nat → Prop) (gc : Nat) (v : Value) : Nat → Prop := fun k => (F k ∧ ¬ W k) ∨ k = gc ∨ v.ownBlock = some k
end Go.Proofs.YtcmkjjlchljffaaDoor

/- The given answer's disk: Crash. -/
namespace Go.Proofs.YtcmkjjlchljffaaDoor
open Go.RowKit
set_option linter.unusedVariables false

def eI : El Int := ⟨52, 3, 1, 8, .int .i64 0, fun z => [.int .i64 z], fun _ => rfl, fun x v hv => by simp at hv; subst hv; rfl, by kernel_rfl, by kernel_rfl, rfl, by decide⟩
/-- How many loose bytes are kept. -/
def kpN (torn : List Int) (k lo : Nat) : Nat := match torn[k]? with | none => 0 | some x => (min (max x 0) (lo : Int)).toNat
/-- What a crash leaves of a file, and the next number of torn. -/
def crOne (torn : List Int) (k : Nat) (f : Fi) : Fi × Nat :=
  if f.sf < f.bs.length then (⟨f.nm, f.bs.take (f.sf + kpN torn k (f.bs.length - f.sf)), (f.bs.take (f.sf + kpN torn k (f.bs.length - f.sf))).length, f.hd⟩, k + 1) else (f, k)
def crK (torn : List Int) (k : Nat) (f : Fi) : Bool := decide (¬ f.sf < f.bs.length) || ((crOne torn k f).1.hd || decide (0 < (crOne torn k f).1.bs.length))
def crL (torn : List Int) : Nat → List Fi → List Fi
  | _, [] => []
  | k, f :: fs => (if crK torn k f then [(crOne torn k f).1] else []) ++ crL torn (crOne torn k f).2 fs
def crD (d : Dk) (torn : List Int) : Dk := { d with fs := crL torn 0 d.fs, lf := -1 }
def InC (w0 : World) (W F : Nat → Prop) (wr : World) (v : Value) (t : FT) : Prop :=
  Row wr t.ad t.bs ∧ (∀ ad, t.ad = some ad → ad.block < wr.heap.size ∧ ((F ad.block ∧ ¬ W ad.block) ∨ w0.heap.size ≤ ad.block) ∧ v.ownBlock ≠ some ad.block) ∧ t.bs.length ≤ t.cp ∧ (t.ad = none → t.cp = 0)
section
variable {w0 wr x : World} {W F : Nat → Prop} {v v' : Value} {t : FT}
theorem InC.below (h : InC w0 W F wr v t) (hb : Below wr.heap.size wr x) : InC w0 W F x v t :=
  ⟨h.1.below hb, fun ad ha => ⟨Nat.lt_of_lt_of_le (h.2.1 ad ha).1 hb.size, (h.2.1 ad ha).2⟩, h.2.2⟩
theorem InC.grow (h : InC w0 W F wr v t) (hg : wr.grownBy x v.ownBlock) (hv : v'.ownBlock = v.ownBlock ∨ v'.ownBlock = some wr.heap.size) : InC w0 W F x v' t :=
  ⟨h.1.same fun ad ha => hg.block _ (h.2.1 ad ha).1 (fun e => (h.2.1 ad ha).2.2 e.symm), fun ad ha => ⟨Nat.lt_of_lt_of_le (h.2.1 ad ha).1 hg.size, (h.2.1 ad ha).2.1, fun e => by
    rcases hv with q | q
    · exact (h.2.1 ad ha).2.2 (q ▸ e)
    · rw [q] at e
      injection e with e
      have := (h.2.1 ad ha).1
      omega⟩, h.2.2⟩
end
/-- All blocks that are new may be read. -/
def frF (F : Nat → Prop) (w w' : World) : Nat → Prop := fun k => F k ∨ (w.heap.size ≤ k ∧ k < w'.heap.size)
theorem RDv.anew2 {B g : Nat} {w w2 w3 : World} {W F : Nat → Prop} {v v2 : Value} {ts ts2 : List FT} {d d2 : Dk} (h : RDv B w g W F v ts d) (hB : B ≤ w.heap.size) (ho : OwnX eF w.heap.size w2 v2 ts2) (hb : Below w.heap.size w w2) (hin : ∀ t ∈ ts2, InC w W F w2 v2 t)
    (hA : At 61 w3 g [.int .i64 (d2.sz : Int), v2, .int .i64 d2.lf, .int .i64 (d2.wr : Int)]) (hg : But g w2 w3) (hf : ts2.map FT.fi = d2.fs) : RDv B w3 g (newW g v2) (frF F w w3) v2 ts2 d2 ∧ Moves w W F w3 (newW g v2) (frF F w w3) := by
  have hgl : g < w.heap.size := h.at_.lt
  have hown := fun k hk => ho.block k hk
  have hne : ∀ k, v2.ownBlock = some k → k ≠ g := fun k hk e => by have := (hown k hk).1; omega
  have hs := hg.size
  refine ⟨⟨hA, (ho.same fun k hk => hg.block k (hown k hk).2.1 (hne k hk)).less hB, hf, fun t ht => ?_, .inl rfl, fun k hk => .inr hk, ?_, ?_⟩, ⟨?_, ?_, ?_⟩⟩
  · obtain ⟨q1, q2, q3, q4⟩ := hin t ht
    have hng : ∀ ad, t.ad = some ad → ad.block ≠ g := fun ad ha e => by
      rcases (q2 ad ha).2.1 with p | p
      · exact p.2 (e ▸ h.wg)
      · omega
    refine ⟨q1.same fun ad ha => hg.block _ (q2 ad ha).1 (hng ad ha), fun ad ha => ⟨?_, ?_⟩, q3, q4⟩
    · rcases (q2 ad ha).2.1 with p | p
      · exact .inl p.1
      · exact .inr ⟨p, by have := (q2 ad ha).1; omega⟩
    · rintro (e | e)
      · exact hng ad ha e
      · exact (q2 ad ha).2.2 e
  · rintro k (rfl | hk)
    · exact ⟨.inl (h.wf k h.wg).1, (h.wf k h.wg).2⟩
    · exact ⟨.inr ⟨(hown k hk).1, by have := (hown k hk).2.1; omega⟩, Nat.le_trans hB (hown k hk).1⟩
  · rintro k (hk | hk)
    · exact Nat.lt_of_lt_of_le (h.lt k hk) (Nat.le_trans hb.size hg.size)
    · exact hk.2
  · exact (Chg.of_below hb).trans (Chg.of_but hg h.wg)
  · rintro k (rfl | hk)
    · exact .inl h.wg
    · exact .inr (hown k hk).1
  · rintro k (hk | hk)
    · exact .inl hk
    · exact .inr hk.1
end Go.Proofs.YtcmkjjlchljffaaDoor

/- The kit's functions over rows: OverBytes, OverTexts, SameTexts. -/
namespace Go.Proofs.YtcmkjjlchljffaaDoor
open Go.RowKit
set_option linter.unusedVariables false

def AllU (cs : List Value) : Prop := ∀ (i : Nat) (v : Value), cs[i]? = some v → ∃ c : UInt8, v = .int .u8 (c.toNat : Int)
def AllS (cs : List Value) : Prop := ∀ (i : Nat) (v : Value), cs[i]? = some v → ∃ s : ByteArray, v = .string s ∧ s.size ≤ 4611686018427387904
theorem i5 : (Tryd.prog.info? 5).map (·.size) = some 1 := by kernel_rfl
theorem bits_ov_all : ∀ c : Fin 256, bits .xor .u8 ((c.val : Nat) : Int) 90 = (((UInt8.ofNat c.val) ^^^ 90).toNat : Int) := by decide +kernel
theorem bits_ov (c : UInt8) : bits .xor .u8 (c.toNat : Int) 90 = ((c ^^^ 90).toNat : Int) := by
  have := bits_ov_all ⟨c.toNat, UInt8.toNat_lt c⟩
  simp only [UInt8.ofNat_toNat] at this
  exact this
set_option maxRecDepth 100000 in
set_option maxHeartbeats 1600000 in
theorem overB (g n : Nat) (cs : List Value) (w : World) (hA : At 5 w g cs) (hU : AllU cs) (hn : n ≤ cs.length) (hl : cs.length ≤ 9223372036854775807) :
    Calls Tryd.prog 47 #[.slice (some ⟨g, 0, none⟩) n cs.length] w fun e w' => e = .returned (.tuple #[]) ∧ But g w w' ∧ w'.heap.size = w.heap.size := by
  obtain ⟨C, hC⟩ : ∃ C, C = cs.length := ⟨_, rfl⟩
  have HI : Hid (At 5 w g cs ∧ cs.length = C ∧ AllU cs) := ⟨hA, hC.symm, hU⟩
  rw [← hC] at hn hl ⊢
  clear hA hU hC
  have hs1 := fun W => run_slice_to W (some ⟨g, 0, none⟩) n C C (C : Int) rfl (Nat.le_refl _)
  go_enter Tryd.func47, Tryd.ntmps47
  go_wp2
  go_loopw [3] (fun t wr => ∃ (k : Nat), k ≤ C ∧ t = .int .i64 k ∧ Hid (But g w wr ∧ wr.heap.size = w.heap.size ∧ ∃ cs, At 5 wr g cs ∧ cs.length = C ∧ AllU cs)) (fun t _ => C - (intOf t).toNat)
  case atStart => exact ⟨0, Nat.zero_le _, rfl, But.refl _ _, rfl, cs, HI.out⟩
  case round =>
    obtain ⟨k, hk, rfl, hR⟩ := hrel
    by_cases hlt : k < C
    · obtain ⟨h1, h2, cs', hA, hl', hU⟩ := hR.out
      obtain ⟨u, hu⟩ : ∃ u, cs'[k]? = some u := ⟨_, List.getElem?_eq_getElem (by omega)⟩
      obtain ⟨c, rfl⟩ := hU k u hu
      have hcell : wr.cell? ⟨g, k, none⟩ = some (.int .u8 (c.toNat : Int)) := by rw [hA.cell]; exact hu
      have hb := bits_ov c
      have hcl : c.toNat < 256 := by have := UInt8.toNat_lt c; omega
      have H1 := hidU h1
      have H2 := hidU h2
      have HU := hidU hU
      clear h1 h2 hU hR hu
      go_wp2_with (refine wpList_store1 rfl 5 (.tmp 21) (.tmp 20) rfl g k (.int .u8 ((c ^^^ 90).toNat : Int)) rfl rfl 5 _ hA (by omega) i5 rfl rfl ?_; intro y hAy hby hsy; refine Hid.out ?_)
      refine hidU ?_
      have HR : Hid (But g w y ∧ y.heap.size = w.heap.size ∧ ∃ cs, At 5 y g cs ∧ cs.length = C ∧ AllU cs) := ⟨H1.out.trans hby, hsy.trans H2.out, _, hAy, by rw [List.length_set]; exact hl', fun i v hv => by
        by_cases hik : i = k
        · subst hik
          rw [List.getElem?_set_self (by omega)] at hv
          cases hv
          exact ⟨_, rfl⟩
        · rw [List.getElem?_set_ne (fun e => hik e.symm)] at hv
          exact HU.out i v hv⟩
      clear hAy hby hsy hA
      go_wp2
      go_roundw
      case rel => exact ⟨k + 1, by omega, by go_num, HR⟩
      case measure => simp [intOf]; omega
    · go_wp2
      go_end0
      exact ⟨rfl, hR.out.1, hR.out.2.1⟩
set_option maxRecDepth 100000 in
theorem over0 (a : Option Addr) (w : World) : Calls Tryd.prog 47 #[.slice a 0 0] w fun e w' => e = .returned (.tuple #[]) ∧ w' = w := by
  have hs1 := fun W => run_slice_to W a 0 0 0 0 rfl (Nat.le_refl _)
  go_enter Tryd.func47, Tryd.ntmps47
  go_wp2
  go_loopw [3] (fun t wr => t = .int .i64 0 ∧ wr = w) (fun t _ => 0)
  case atStart => exact ⟨rfl, rfl⟩
  case round =>
    obtain ⟨rfl, rfl⟩ := hrel
    go_wp2
    go_end0
    exact ⟨rfl, rfl⟩
theorem size9 (w : World) : (sizeOf 9).run Tryd.prog w = .ok 1 w := by kernel_rfl
theorem run_slice52 (w : World) (a : Option Addr) (len cap h : Nat) (x : Int) (hx : x = (h : Int)) (hh : h ≤ cap) :
    (Instr.slice 44 (.slice a len cap) none (some (.int .i64 x)) none).run Tryd.prog w = .ok (.slice a h cap) w := by
  have hu : Tryd.prog.underlying 44 = some (.slice 9) := eS.und
  have he : Tryd.prog.elem 44 = 9 := by simp [Program.elem, hu]
  rw [run_slice_h w 44 a len cap (by rw [he]; exact hu) .i64 x (by omega) (by omega), he, size9]
  have hz : ∀ p : Addr, p.add 0 = p := fun p => by cases p; simp [Addr.add]
  have hm : a.map (fun p => p.add 0) = a := by cases a <;> simp [hz]
  simp only [Result.andThen, sliced, Nat.zero_mul, hm, Nat.sub_zero]
  rw [show x.toNat = h by omega]
  simp
set_option maxRecDepth 100000 in
set_option maxHeartbeats 1600000 in
theorem overS (g n : Nat) (cs : List Value) (w : World) (hA : At 9 w g cs) (hU : AllS cs) (hn : n ≤ cs.length) (hl : cs.length ≤ 9223372036854775807) :
    Calls Tryd.prog 46 #[.slice (some ⟨g, 0, none⟩) n cs.length] w fun e w' => e = .returned (.tuple #[]) ∧ But g w w' ∧ w'.heap.size = w.heap.size := by
  obtain ⟨C, hC⟩ : ∃ C, C = cs.length := ⟨_, rfl⟩
  have HI : Hid (At 9 w g cs ∧ cs.length = C ∧ ∀ (i : Nat) (v : Value), 0 ≤ i → cs[i]? = some v → ∃ s : ByteArray, v = .string s ∧ s.size ≤ 4611686018427387904) := ⟨hA, hC.symm, fun i v _ h => hU i v h⟩
  rw [← hC] at hn hl ⊢
  clear hA hU hC
  have hs1 := fun W => run_slice52 W (some ⟨g, 0, none⟩) n C C (C : Int) rfl (Nat.le_refl _)
  go_enter Tryd.func46, Tryd.ntmps46
  go_wp2
  go_loopw [3] (fun t wr => ∃ (k : Nat), k ≤ C ∧ t = .int .i64 k ∧ Hid (But g w wr ∧ wr.heap.size = w.heap.size ∧ ∃ cs, At 9 wr g cs ∧ cs.length = C ∧ ∀ (i : Nat) (v : Value), k ≤ i → cs[i]? = some v → ∃ s : ByteArray, v = .string s ∧ s.size ≤ 4611686018427387904)) (fun t _ => C - (intOf t).toNat)
  case atStart => exact ⟨0, Nat.zero_le _, rfl, But.refl _ _, rfl, cs, HI.out⟩
  case round =>
    obtain ⟨k, hk, rfl, hR⟩ := hrel
    by_cases hlt : k < C
    · obtain ⟨h1, h2, cs', hA, hl', hU⟩ := hR.out
      obtain ⟨u, hu⟩ : ∃ u, cs'[k]? = some u := ⟨_, List.getElem?_eq_getElem (by omega)⟩
      obtain ⟨s, rfl, hsz⟩ := hU k u (Nat.le_refl _) hu
      have hcell : wr.cell? ⟨g, k, none⟩ = some (.string s) := by rw [hA.cell]; exact hu
      have H1 := hidU h1
      have H2 := hidU h2
      have HU := hidU hU
      have hcat : ¬ ((9223372036854775807 : Int) < (s.size : Int) + 1) := by omega
      clear h1 h2 hU hR hu
      go_wp2_with (refine wpList_store1 rfl 9 (.tmp 21) (.tmp 20) rfl g k (.string (s ++ ⟨#[33]⟩)) rfl rfl 9 _ hA (by omega) i9 rfl rfl ?_; intro y hAy hby hsy; refine Hid.out ?_)
      refine hidU ?_
      have HR : Hid (But g w y ∧ y.heap.size = w.heap.size ∧ ∃ cs, At 9 y g cs ∧ cs.length = C ∧ ∀ (i : Nat) (v : Value), k + 1 ≤ i → cs[i]? = some v → ∃ s : ByteArray, v = .string s ∧ s.size ≤ 4611686018427387904) := ⟨H1.out.trans hby, hsy.trans H2.out, _, hAy, by rw [List.length_set]; exact hl', fun i v hi hv => by
        rw [List.getElem?_set_ne (by omega)] at hv
        exact HU.out i v (by omega) hv⟩
      clear hAy hby hsy hA
      go_wp2
      go_roundw
      case rel => exact ⟨k + 1, by omega, by go_num, HR⟩
      case measure => simp [intOf]; omega
    · go_wp2
      go_end0
      exact ⟨rfl, hR.out.1, hR.out.2.1⟩
set_option maxRecDepth 100000 in
theorem overS0 (a : Option Addr) (w : World) : Calls Tryd.prog 46 #[.slice a 0 0] w fun e w' => e = .returned (.tuple #[]) ∧ w' = w := by
  have hs1 := fun W => run_slice52 W a 0 0 0 0 rfl (Nat.le_refl _)
  go_enter Tryd.func46, Tryd.ntmps46
  go_wp2
  go_loopw [3] (fun t wr => t = .int .i64 0 ∧ wr = w) (fun t _ => 0)
  case atStart => exact ⟨rfl, rfl⟩
  case round =>
    obtain ⟨rfl, rfl⟩ := hrel
    go_wp2
    go_end0
    exact ⟨rfl, rfl⟩
/-- Are two rows of texts the same? -/
def sameS (xs ys : List ByteArray) : Bool := xs.map ByteArray.toList == ys.map ByteArray.toList
set_option maxRecDepth 100000 in
set_option maxHeartbeats 3200000 in
theorem sameTexts_any (xs ys : List ByteArray) (a b : Option Addr) (c1 c2 : Nat) (w : World) (h1 : RowX eS w a xs) (h2 : RowX eS w b ys) (k1 : xs.length ≤ c1) (k2 : ys.length ≤ c2) (hl : xs.length ≤ 1099511627776) (hl2 : ys.length ≤ 1099511627776) :
    Calls Tryd.prog 30 #[.slice a xs.length c1, .slice b ys.length c2] w fun r w' => r = .returned (.bool (sameS xs ys)) ∧ Below w.heap.size w w' ∧ w'.heap = w.heap := by
  obtain ⟨R, hR⟩ : ∃ R, Hid (R = sameS xs ys) := ⟨_, (rfl : _ = sameS _ _)⟩
  rw [← hR.out]
  obtain ⟨m, hm⟩ : ∃ n, Hid (n = xs.length) := ⟨_, (rfl : xs.length = _)⟩
  obtain ⟨n, hn⟩ : ∃ n, Hid (n = ys.length) := ⟨_, (rfl : ys.length = _)⟩
  have H1 := hidU h1
  have H2 := hidU h2
  rw [← hm.out] at k1 hl ⊢
  rw [← hn.out] at k2 hl2 ⊢
  clear h1 h2
  by_cases hmn : m = n
  · subst hmn
    go_enter Tryd.func30, Tryd.ntmps30
    go_wp2
    go_loopw [5] (fun j wr => ∃ i : Nat, j = .int .i64 (i : Int) ∧ i ≤ m ∧ Hid (Below w.heap.size w wr ∧ wr.heap = w.heap) ∧ Hid (∀ q x y, q < i → xs[q]? = some x → ys[q]? = some y → x.toList = y.toList)) (fun j _ => m - (intOf j).toNat)
    case atStart => exact ⟨0, rfl, by omega, ⟨Below.refl _ _, rfl⟩, fun q x y h => by omega⟩
    case round =>
      obtain ⟨i, rfl, hi, hB, hX⟩ := hrel
      by_cases hc : i < m
      · obtain ⟨x, hx⟩ : ∃ x, xs[i]? = some x := ⟨_, List.getElem?_eq_getElem (by rw [← hm.out]; exact hc)⟩
        obtain ⟨y, hy⟩ : ∃ x, ys[i]? = some x := ⟨_, List.getElem?_eq_getElem (by rw [← hn.out]; exact hc)⟩
        obtain ⟨g1, o1, rfl, hr1⟩ := (H1.out.below hB.out.1).at hx
        obtain ⟨g2, o2, rfl, hr2⟩ := (H2.out.below hB.out.1).at hy
        have q1 : wr.cell? ⟨g1, o1 + i, none⟩ = some (.string x) := by have := hr1 0 _ rfl; rwa [show o1 + i * eS.n + 0 = o1 + i from (by show o1 + i * 1 + 0 = _; omega)] at this
        have q2 : wr.cell? ⟨g2, o2 + i, none⟩ = some (.string y) := by have := hr2 0 _ rfl; rwa [show o2 + i * eS.n + 0 = o2 + i from (by show o2 + i * 1 + 0 = _; omega)] at this
        have HX := hidU hx
        have HY := hidU hy
        clear hr1 hr2 hx hy
        cases hb : (x.toList == y.toList) with
        | true =>
          have HE : Hid (x.toList = y.toList) := beq_iff_eq.1 hb
          go_wp2
          go_quiet (fail)
          go_wp2
          go_roundw
          case rel =>
            refine ⟨i + 1, by go_num, by omega, ⟨below_drN hB.out.1, hB.out.2⟩, fun q u v hq hu hv => ?_⟩
            by_cases hqi : q = i
            · subst hqi
              rw [HX.out] at hu
              rw [HY.out] at hv
              cases hu
              cases hv
              exact HE.out
            · exact hX.out q u v (by omega) hu hv
          case measure => simp [intOf]; omega
        | false =>
          have hRf : R = false := by
            rw [hR.out, sameS, beq_eq_false_iff_ne]
            intro e
            have e2 := congrArg (fun l => l[i]?) e
            simp only [List.getElem?_map, HX.out, HY.out, Option.map_some, Option.some.injEq] at e2
            rw [e2] at hb
            simp at hb
          subst hRf
          clear hX hR
          go_wp2
          go_quiet (fail)
          go_wp2
          go_ret
          exact ⟨rfl, below_drN hB.out.1, hB.out.2⟩
      · have hRf : R = true := by
          rw [hR.out, sameS, beq_iff_eq]
          refine List.ext_getElem? fun q => ?_
          rw [List.getElem?_map, List.getElem?_map]
          cases hx : xs[q]? with
          | none =>
            have := List.getElem?_eq_none_iff.1 hx
            rw [List.getElem?_eq_none (by rw [← hn.out, hm.out]; exact this)]
          | some x =>
            have hlt := (List.getElem?_eq_some_iff.1 hx).1
            have hlt2 : q < ys.length := by rw [← hn.out, hm.out]; exact hlt
            rw [List.getElem?_eq_getElem hlt2]
            simp only [Option.map_some, Option.some.injEq]
            exact hX.out q x _ (by rw [← hm.out] at hlt; omega) hx (List.getElem?_eq_getElem hlt2)
        subst hRf
        clear hX hR
        go_wp2
        go_ret
        exact ⟨rfl, hB.out⟩
  · have hRf : R = false := by
      rw [hR.out, sameS, beq_eq_false_iff_ne]
      intro e
      have := congrArg List.length e
      simp only [List.length_map] at this
      rw [← hm.out, ← hn.out] at this
      exact hmn this
    subst hRf
    have hne : ¬ ((m : Int) = (n : Int)) := by omega
    clear hR
    go_enter Tryd.func30, Tryd.ntmps30
    go_wp2
    go_ret
    exact ⟨rfl, Below.refl _ _, rfl⟩
end Go.Proofs.YtcmkjjlchljffaaDoor

/- What the program's disk must tell, as a face: its predicate in memory and its contracts; rows with their room. -/
namespace Go.Proofs.YtcmkjjlchljffaaDoor
open Go.RowKit
set_option linter.unusedVariables false

/-- A row that was told: all that it has room for may be written over. -/
def RoomS (U : Prop) (base : Nat) (w : World) (v : Value) (xs : List ByteArray) : Prop := (xs = [] ∧ ∃ a, v = .slice a 0 0) ∨ (OwnX eS base w v xs ∧ (U → ∀ k cs, v.ownBlock = some k → At 9 w k cs → AllS cs))
def RoomB (U : Prop) (base : Nat) (w : World) (v : Value) (bs : List UInt8) : Prop := (bs = [] ∧ ∃ a, v = .slice a 0 0) ∨ (OwnX eB base w v bs ∧ (U → ∀ k cs, v.ownBlock = some k → At 5 w k cs → AllU cs))
section
variable {U : Prop} {base : Nat} {w w' : World} {v : Value} {xs : List ByteArray} {bs : List UInt8}
theorem RoomS.below (h : RoomS U base w v xs) (hb : Below w.heap.size w w') : RoomS U base w' v xs := by
  rcases h with h | ⟨h1, h2⟩
  · exact .inl h
  · refine .inr ⟨h1.below hb, fun hu k cs hk hA => ?_⟩
    obtain ⟨_, hl, _⟩ := h1.block k hk
    exact h2 hu k cs hk (hA.same (hb.block k hl).symm)
theorem RoomB.below (h : RoomB U base w v bs) (hb : Below w.heap.size w w') : RoomB U base w' v bs := by
  rcases h with h | ⟨h1, h2⟩
  · exact .inl h
  · refine .inr ⟨h1.below hb, fun hu k cs hk hA => ?_⟩
    obtain ⟨_, hl, _⟩ := h1.block k hk
    exact h2 hu k cs hk (hA.same (hb.block k hl).symm)
theorem RoomS.row (h : RoomS U base w v xs) : ∃ a cap, v = .slice a xs.length cap ∧ xs.length ≤ cap ∧ RowX eS w a xs := by
  rcases h with ⟨rfl, a, rfl⟩ | ⟨h1, _⟩
  · exact ⟨a, 0, rfl, Nat.le_refl _, .inl rfl⟩
  · obtain ⟨a, cap, e, c1, _, _, _, r⟩ := h1.row
    exact ⟨a, cap, e, c1, r⟩
theorem RoomB.row (h : RoomB U base w v bs) : ∃ a cap, v = .slice a bs.length cap ∧ bs.length ≤ cap ∧ Row w a bs := by
  rcases h with ⟨rfl, a, rfl⟩ | ⟨h1, _⟩
  · exact ⟨a, 0, rfl, Nat.le_refl _, .inl rfl⟩
  · obtain ⟨a, cap, e, c1, _, _, _, r⟩ := h1.row
    exact ⟨a, cap, e, c1, rowB.1 r⟩
theorem roomS_over (h : RoomS True base w v xs) : Calls Tryd.prog 46 #[v] w fun e w' => e = .returned (.tuple #[]) ∧ ∃ K : Nat → Prop, Chg K w w' ∧ ∀ k, K k → base ≤ k ∧ ∃ cs, At 9 w k cs := by
  rcases h with ⟨rfl, a, rfl⟩ | ⟨⟨_, ⟨rfl, _⟩ | ⟨g, cap, cur, rfl, hg, hh, hc, hm, hs, ht⟩⟩, h2⟩
  · refine (overS0 a w).mono ?_
    rintro e w' ⟨rfl, rfl⟩
    exact ⟨rfl, fun _ => False, Chg.refl _ _, fun _ h => h.elim⟩
  · refine (overS0 none w).mono ?_
    rintro e w' ⟨rfl, rfl⟩
    exact ⟨rfl, fun _ => False, Chg.refl _ _, fun _ h => h.elim⟩
  · have hA : At 9 w g cur.toList := (show w.heap[g]? = some (.cells cur.toList.toArray 9 (0, 0)) from hh)
    have hl : cur.toList.length = cap := by rw [Array.length_toList, hs]; exact Nat.mul_one _
    have := overS g xs.length cur.toList w hA (h2 trivial g _ rfl hA) (by rw [hl]; exact hc) (by rw [hl]; exact hm)
    rw [hl] at this
    refine this.mono ?_
    rintro e w' ⟨rfl, hb, _⟩
    exact ⟨rfl, fun k => k = g, Chg.of_but hb rfl, fun k hk => ⟨hk ▸ hg, cur.toList, hk ▸ hA⟩⟩
theorem RoomB.chg {K : Nat → Prop} (h : RoomB U base w v bs) (hb : Chg K w w') (hK : ∀ k, K k → ∃ cs, At 9 w k cs) : RoomB U base w' v bs := by
  rcases h with h | ⟨h1, h2⟩
  · exact .inl h
  · have hs : ∀ k, v.ownBlock = some k → w'.heap[k]? = w.heap[k]? := fun k hk => by
      obtain ⟨_, hl, cs, hA⟩ := h1.block k hk
      refine hb.block k hl fun hq => ?_
      obtain ⟨cs', hA'⟩ := hK k hq
      exact hA.ne hA' (show (5 : Nat) ≠ 9 by decide) rfl
    exact .inr ⟨h1.same hs, fun hu k cs hk hA => h2 hu k cs hk (hA.same (hs k hk).symm)⟩
theorem roomB_over (h : RoomB True base w v bs) (hbs : base ≤ w.heap.size) : Calls Tryd.prog 47 #[v] w fun e w' => e = .returned (.tuple #[]) ∧ Below base w w' := by
  rcases h with ⟨rfl, a, rfl⟩ | ⟨⟨_, ⟨rfl, _⟩ | ⟨g, cap, cur, rfl, hg, hh, hc, hm, hs, ht⟩⟩, h2⟩
  · refine (over0 a w).mono ?_
    rintro e w' ⟨rfl, rfl⟩
    exact ⟨rfl, Below.refl _ _⟩
  · refine (over0 none w).mono ?_
    rintro e w' ⟨rfl, rfl⟩
    exact ⟨rfl, Below.refl _ _⟩
  · have hA : At 5 w g cur.toList := (show w.heap[g]? = some (.cells cur.toList.toArray 5 (0, 0)) from hh)
    have hl : cur.toList.length = cap := by rw [Array.length_toList, hs]; exact Nat.mul_one _
    have := overB g bs.length cur.toList w hA (h2 trivial g _ rfl hA) (by rw [hl]; exact hc) (by rw [hl]; exact hm)
    rw [hl] at this
    refine this.mono ?_
    rintro e w' ⟨rfl, hb, _⟩
    exact ⟨rfl, hb.below (Below.refl base w) hg hbs⟩
end
abbrev CDT := Nat → World → Nat → (Nat → Prop) → (Nat → Prop) → Dk → Prop
/-- What a call of the program's disk leaves. -/
def PostC (CD : CDT) (B g : Nat) (W F : Nat → Prop) (w : World) (o : Dk × Int) (r : Ending) (w' : World) : Prop := r = .returned (.int .i64 o.2) ∧ ∃ W' F', CD B w' g W' F' o.1 ∧ Moves w W F w' W' F'
/-- The names of a disk's files, rising. -/
def Sorted (fs : List Fi) : Prop := fs.Pairwise fun a b => ltN a.nm b.nm = true
abbrev ptr (g : Nat) : Value := .pointer (some ⟨g, 0, none⟩)
/-- What the program's disk must tell. -/
structure Face (U : Prop) (CD : CDT) : Prop where
  newBad : ∀ {n : Int} {w}, (n < 1 ∨ 67108864 < n) → Calls Tryd.prog 8 #[.int .i64 n] w fun r w' => r = .returned (.tuple #[.pointer none, .int .i64 2]) ∧ Below w.heap.size w w'
  newOk : ∀ {n : Nat} {w} (B : Nat), 1 ≤ n → n ≤ 67108864 → B ≤ w.heap.size → Calls Tryd.prog 8 #[.int .i64 (n : Int)] w fun r w' => ∃ g W F, r = .returned (.tuple #[ptr g, .int .i64 0]) ∧ CD B w' g W F ⟨n, [], -1, 0⟩ ∧ Below w.heap.size w w' ∧ ∀ k, F k → w.heap.size ≤ k
  same : ∀ {B w w' g W F d}, CD B w g W F d → (∀ k, F k → w'.heap[k]? = w.heap[k]?) → w.heap.size ≤ w'.heap.size → CD B w' g W F d
  lt : ∀ {B w g W F d}, CD B w g W F d → ∀ k, F k → k < w.heap.size
  wf : ∀ {B w g W F d}, CD B w g W F d → ∀ k, W k → F k ∧ B ≤ k
  names : ∀ {B w g W F d}, CD B w g W F d → Fine d → Sorted d.fs → Calls Tryd.prog 20 #[ptr g] w fun r w' => ∃ v, r = .returned v ∧ RoomS U w.heap.size w' v (d.fs.map Fi.nm) ∧ Below w.heap.size w w'
  readNo : ∀ {B w g W F d nm}, CD B w g W F d → Fine d → nm.size ≤ 9223372036854775807 → d.fs.find? (isN nm) = none → Calls Tryd.prog 13 #[ptr g, .string nm] w fun r w' => r = .returned (.tuple #[.slice none 0 0, .int .i64 6]) ∧ Below w.heap.size w w'
  readYes : ∀ {B w g W F d nm f}, CD B w g W F d → Fine d → nm.size ≤ 9223372036854775807 → d.fs.find? (isN nm) = some f → Calls Tryd.prog 13 #[ptr g, .string nm] w fun r w' => ∃ v, r = .returned (.tuple #[v, .int .i64 0]) ∧ RoomB U w.heap.size w' v f.bs ∧ Below w.heap.size w w'
  used : ∀ {B w g W F d}, CD B w g W F d → Fine d → Calls Tryd.prog 21 #[ptr g] w fun r w' => r = .returned (.int .i64 (usedL d.fs : Int)) ∧ Below w.heap.size w w'
  size : ∀ {B w g W F d}, CD B w g W F d → Calls Tryd.prog 22 #[ptr g] w fun r w' => r = .returned (.int .i64 (d.sz : Int)) ∧ Below w.heap.size w w'
  loose : ∀ {B w g W F d nm}, CD B w g W F d → Fine d → nm.size ≤ 9223372036854775807 → Calls Tryd.prog 23 #[ptr g, .string nm] w fun r w' => r = .returned (.int .i64 (lsD d.fs nm)) ∧ Below w.heap.size w w'
  stopped : ∀ {B w g W F d}, CD B w g W F d → Calls Tryd.prog 24 #[ptr g] w fun r w' => r = .returned (.bool (d.lf == 0)) ∧ Below w.heap.size w w'
  writes : ∀ {B w g W F d}, CD B w g W F d → Calls Tryd.prog 25 #[ptr g] w fun r w' => r = .returned (.int .i64 (d.wr : Int)) ∧ Below w.heap.size w w'
  append : ∀ {B w g W F d nm ba lb bc b}, CD B w g W F d → Fine d → Sorted d.fs → B ≤ w.heap.size → nm.size ≤ 9223372036854775807 → Row w ba b → lb = b.length → lb ≤ bc → (ba = none → bc = 0) → lb ≤ 1099511627776 → (b ≠ [] → ∀ ad, ba = some ad → ¬ W ad.block ∧ ad.block < w.heap.size) → Calls Tryd.prog 10 #[ptr g, .string nm, .slice ba lb bc] w (PostC CD B g W F w (apO d nm b))
  cut : ∀ {B w g W F d nm z}, CD B w g W F d → Fine d → Sorted d.fs → B ≤ w.heap.size → nm.size ≤ 9223372036854775807 → Calls Tryd.prog 14 #[ptr g, .string nm, .int .i64 z] w (PostC CD B g W F w (ctO d nm z))
  sync : ∀ {B w g W F d nm}, CD B w g W F d → Fine d → Sorted d.fs → B ≤ w.heap.size → nm.size ≤ 9223372036854775807 → Calls Tryd.prog 15 #[ptr g, .string nm] w (PostC CD B g W F w (syO d nm))
  rename : ∀ {B w g W F d nm to}, CD B w g W F d → Fine d → Sorted d.fs → B ≤ w.heap.size → nm.size ≤ 9223372036854775807 → to.size ≤ 9223372036854775807 → Calls Tryd.prog 16 #[ptr g, .string nm, .string to] w (PostC CD B g W F w (rnO d nm to))
  remove : ∀ {B w g W F d nm}, CD B w g W F d → Fine d → Sorted d.fs → B ≤ w.heap.size → nm.size ≤ 9223372036854775807 → Calls Tryd.prog 17 #[ptr g, .string nm] w (PostC CD B g W F w (rmO d nm))
  stop : ∀ {B w g W F d z}, CD B w g W F d → B ≤ w.heap.size → Calls Tryd.prog 18 #[ptr g, .int .i64 z] w (PostC CD B g W F w (stD d z, stZ z))
  crash : ∀ {B w g W F d ta nt tc torn}, CD B w g W F d → Fine d → Sorted d.fs → B ≤ w.heap.size → RowX eI w ta torn → nt = torn.length → nt ≤ tc → nt ≤ 9223372036854775807 → (∀ ad, ta = some ad → ¬ W ad.block ∧ ad.block < w.heap.size) → Calls Tryd.prog 19 #[ptr g, .slice ta nt tc] w (PostC CD B g W F w (crD d torn, 0))
  clone : ∀ {B w g W F d}, CD B w g W F d → Fine d → B ≤ w.heap.size → Calls Tryd.prog 26 #[ptr g] w fun r w' => ∃ gc W' F', r = .returned (ptr gc) ∧ CD B w' gc W' F' d ∧ Below w.heap.size w w' ∧ (∀ k, W' k → w.heap.size ≤ k) ∧ (∀ k, F' k → (F k ∧ ¬ W k) ∨ w.heap.size ≤ k)
theorem Face.below {U : Prop} {CD : CDT} (h : Face U CD) {B g : Nat} {w w' : World} {W F : Nat → Prop} {d : Dk} (hc : CD B w g W F d) (hb : Below w.heap.size w w') : CD B w' g W F d := h.same hc (fun k hk => hb.block k (h.lt hc k hk)) hb.size
end Go.Proofs.YtcmkjjlchljffaaDoor

/- Maps whose keys are texts, of elements of any kind. -/
namespace Go.Proofs.YtcmkjjlchljffaaDoor
open Go.RowKit Go.Maps Go.MapKept Go.WideMaps
set_option linter.unusedVariables false

/-- A map's type: the type of its elements, the value of one, the zero value. -/
structure Mt (α : Type) where
  T : TypeId
  E : TypeId
  val : α → Value
  z : Value
  und : Tryd.prog.underlying T = some (.map 9 E)
  hz : ∀ w, (zeroValue E).run Tryd.prog w = .ok z w
theorem u9 : Tryd.prog.underlying 9 = some .string := by kernel_rfl
theorem key9 : Keyed Tryd.prog 9 := string_keyed u9
def keyB {α : Type} (s : ByteArray) (p : ByteArray × α) : Bool := p.1.toList == s.toList
theorem toL_inj {a b : ByteArray} (h : a.toList = b.toList) : a = b := by
  rw [ByteArray.toList_eq, ByteArray.toList_eq] at h
  apply ByteArray.ext
  exact Array.toList_inj.1 h
theorem keyB_iff {α : Type} {s : ByteArray} {p : ByteArray × α} : keyB s p = true ↔ p.1 = s := ⟨fun h => toL_inj (beq_iff_eq.1 h), fun h => by rw [keyB, h]; simp⟩
theorem keyB_not {α : Type} {s : ByteArray} {p : ByteArray × α} : keyB s p = false ↔ p.1 ≠ s := by rw [Bool.eq_false_iff, ne_eq, keyB_iff]
theorem nodup_of_map {α β : Type} (f : α → β) : ∀ {l : List α}, (l.map f).Nodup → l.Nodup
  | [], _ => List.nodup_nil
  | a :: l, h => by
    rw [List.map_cons, List.nodup_cons] at h
    exact List.nodup_cons.2 ⟨fun hm => h.1 (List.mem_map.2 ⟨a, hm, rfl⟩), nodup_of_map f h.2⟩
/-- A map in memory. -/
def MapS {α : Type} (t : Mt α) (w : World) (b : Nat) (m : List (ByteArray × α)) : Prop :=
  ∃ arr clock, w.heap[b]? = some (.map arr clock) ∧ Stamped arr clock ∧ arr.toList.map (fun e => (e.key, e.val)) = m.map (fun p => (Value.string p.1, t.val p.2)) ∧ ∀ p ∈ m, p.1.size ≤ maxLen
def lookM {α : Type} (m : List (ByteArray × α)) (s : ByteArray) : Option α := (m.find? (keyB s)).map (·.2)
def updM {α : Type} (m : List (ByteArray × α)) (s : ByteArray) (x : α) : List (ByteArray × α) := if (lookM m s).isSome then m.map (fun p => if keyB s p then (s, x) else p) else m ++ [(s, x)]
def delM {α : Type} (m : List (ByteArray × α)) (s : ByteArray) : List (ByteArray × α) := m.filter fun p => !keyB s p
section
variable {α : Type} {t : Mt α} {w w' : World} {b : Nat} {m : List (ByteArray × α)} {s : ByteArray} {x : α}
theorem MapS.same (h : MapS t w b m) (e : w'.heap[b]? = w.heap[b]?) : MapS t w' b m := by
  obtain ⟨arr, clock, h1, h2⟩ := h
  exact ⟨arr, clock, e.trans h1, h2⟩
theorem MapS.lt (h : MapS t w b m) : b < w.heap.size := by
  obtain ⟨arr, clock, h1, h2⟩ := h
  exact heapLt h1
theorem MapS.below (h : MapS t w b m) (hb : Below w.heap.size w w') : MapS t w' b m := h.same (hb.block b h.lt)
theorem MapS.made (t : Mt α) (w : World) : MapS t (w.alloc (.map #[] 0)) w.heap.size [] := ⟨#[], 0, _root_.Go.heap_alloc_new w _, ⟨fun _ h => (by cases h), List.nodup_nil, List.nodup_nil⟩, rfl, fun _ h => by cases h⟩
theorem MapS.nodup (h : MapS t w b m) : (m.map (·.1)).Nodup := by
  obtain ⟨arr, clock, h1, ⟨_, _, h2⟩, h3, h4⟩ := h
  have e : arr.toList.map (·.key) = (m.map (·.1)).map Value.string := by
    have := congrArg (List.map Prod.fst) h3
    rw [List.map_map, List.map_map] at this
    rw [List.map_map]
    exact this
  rw [e] at h2
  exact nodup_of_map _ h2
theorem find_of_mem (hn : (m.map (·.1)).Nodup) (h : (s, x) ∈ m) : m.find? (keyB s) = some (s, x) := by
  induction m with
  | nil => cases h
  | cons p m ih =>
    rw [List.map_cons, List.nodup_cons] at hn
    by_cases hp : keyB s p = true
    · rw [List.find?_cons_of_pos hp]
      rcases List.mem_cons.1 h with e | e
      · rw [e]
      · exfalso
        apply hn.1
        rw [keyB_iff.1 hp]
        exact List.mem_map.2 ⟨_, e, rfl⟩
    · rw [List.find?_cons_of_neg hp]
      rcases List.mem_cons.1 h with e | e
      · exact absurd (keyB_iff.2 (by rw [← e])) hp
      · exact ih hn.2 e
/-- What is found. -/
theorem MapS.find (h : MapS t w b m) (hs : s.size ≤ maxLen) : ∃ arr clock, w.heap[b]? = some (.map arr clock) ∧ Stamped arr clock ∧ arr.toList.map (fun e => (e.key, e.val)) = m.map (fun p => (Value.string p.1, t.val p.2)) ∧
    (((Instr.findKey 9 (.string s) arr.toList).run Tryd.prog w = .ok none w ∧ (∀ e ∈ arr.toList, e.key ≠ .string s) ∧ lookM m s = none ∧ ∀ p ∈ m, keyB s p = false) ∨
     ∃ j x, (Instr.findKey 9 (.string s) arr.toList).run Tryd.prog w = .ok (some (j, t.val x)) w ∧ lookM m s = some x ∧ m[j]? = some (s, x) ∧ (arr[j]?).map (·.key) = some (.string s)) := by
  have hnd := h.nodup
  obtain ⟨arr, clock, h1, h2, h3, h4⟩ := h
  refine ⟨arr, clock, h1, h2, h3, ?_⟩
  have hkey : ∀ u : ByteArray, u.size ≤ maxLen → ∃ l, keyOf Tryd.prog 9 (.string u) = some l := fun u hu => ⟨_, keyOf_string_mk u9 hu⟩
  obtain ⟨lx, hlx⟩ := hkey s hs
  have hall : ∀ e ∈ arr.toList, ∃ l, keyOf Tryd.prog 9 e.key = some l := by
    intro e he
    have : (e.key, e.val) ∈ arr.toList.map (fun e => (e.key, e.val)) := List.mem_map.2 ⟨e, he, rfl⟩
    rw [h3] at this
    obtain ⟨p, hp, hq⟩ := List.mem_map.1 this
    injection hq with hq _
    rw [← hq]
    exact hkey _ (h4 p hp)
  rcases key9.find w hlx arr.toList hall with ⟨f1, f2⟩ | ⟨j, e, f1, f2, f3⟩
  · refine .inl ⟨f1, f2, ?_, ?_⟩
    · have : m.find? (keyB s) = none := by
        rw [List.find?_eq_none]
        intro p hp hk
        have : (Value.string p.1, t.val p.2) ∈ arr.toList.map (fun e => (e.key, e.val)) := by rw [h3]; exact List.mem_map.2 ⟨p, hp, rfl⟩
        obtain ⟨e, he, hq⟩ := List.mem_map.1 this
        injection hq with hq _
        exact f2 e he (by rw [hq, keyB_iff.1 hk])
      rw [lookM, this]
      rfl
    · intro p hp
      rw [keyB_not]
      intro hk
      have : (Value.string p.1, t.val p.2) ∈ arr.toList.map (fun e => (e.key, e.val)) := by rw [h3]; exact List.mem_map.2 ⟨p, hp, rfl⟩
      obtain ⟨e, he, hq⟩ := List.mem_map.1 this
      injection hq with hq _
      exact f2 e he (by rw [hq, hk])
  · have hj := congrArg (fun l => l[j]?) h3
    simp only [List.getElem?_map, f2, Option.map_some] at hj
    cases hm : m[j]? with
    | none => rw [hm] at hj; cases hj
    | some p =>
      rw [hm] at hj
      simp only [Option.map_some, Option.some.injEq, Prod.mk.injEq] at hj
      obtain ⟨g1, g2⟩ := hj
      rw [f3] at g1
      injection g1 with g1
      obtain ⟨p1, p2⟩ := p
      simp only at g1 g2
      subst g1
      refine .inr ⟨j, p2, by rw [f1, g2], ?_, hm, ?_⟩
      · rw [lookM, find_of_mem hnd (List.mem_of_getElem? hm)]
        rfl
      · rw [← Array.getElem?_toList, f2]
        simp [f3]
theorem MapS.look (h : MapS t w b m) (hs : s.size ≤ maxLen) (c : Bool) : (Instr.lookup t.T (.map (some b)) (.string s) c).run Tryd.prog w = .ok (if c then .tuple #[((lookM m s).map t.val).getD t.z, .bool (lookM m s).isSome] else ((lookM m s).map t.val).getD t.z) w := by
  obtain ⟨arr, clock, h1, h2, h3, hc⟩ := h.find hs
  obtain ⟨lx, hlx⟩ : ∃ l, keyOf Tryd.prog 9 (.string s) = some l := ⟨_, keyOf_string_mk u9 hs⟩
  rcases hc with ⟨f1, f2, f3, _⟩ | ⟨j, x, f1, f2, f3, f4⟩
  · rw [f3]
    simp [Instr.lookup, run_underlying t.und, MapKept.run_getObj_map h1, key9.check w _ hlx, f1, t.hz, Result.andThen]
  · rw [f2]
    simp [Instr.lookup, run_underlying t.und, MapKept.run_getObj_map h1, key9.check w _ hlx, f1, Result.andThen]
theorem MapS.len (h : MapS t w b m) (ty : TypeId) : (Builtin.len_ #[t.T] ty #[.map (some b)]).run Tryd.prog w = .ok (.int .i64 (m.length : Int)) w := by
  obtain ⟨arr, clock, h1, h2, h3, h4⟩ := h
  have e : arr.size = m.length := by have := congrArg List.length h3; simpa using this
  simp [Builtin.len_, run_underlying t.und, MapKept.run_getObj_map h1, goInt, Result.andThen, e]
theorem key_at (hn : (m.map (·.1)).Nodup) {i j : Nat} {p : ByteArray × α} (hj : m[j]? = some (s, x)) (hi : m[i]? = some p) : keyB s p = true ↔ i = j := by
  have h1 : (m.map (·.1))[j]? = some s := by rw [List.getElem?_map, hj]; rfl
  have h2 : (m.map (·.1))[i]? = some p.1 := by rw [List.getElem?_map, hi]; rfl
  constructor
  · intro hk
    rw [keyB_iff.1 hk] at h2
    have l1 := (List.getElem?_eq_some_iff.1 h2).1
    exact (List.getElem?_inj l1 hn).1 (h2.trans h1.symm)
  · rintro rfl
    rw [hi] at hj
    cases hj
    exact keyB_iff.2 rfl
def setB (w : World) (b : Nat) (o : Obj) : World := { w with heap := w.heap.setIfInBounds b o }
theorem putB {arr : Array MapEntry} {clock : Nat} {o : Obj} (h1 : w.heap[b]? = some (.map arr clock)) : But b w (setB w b o) ∧ (setB w b o).heap.size = w.heap.size ∧ (setB w b o).heap[b]? = some o := by
  have hlt := heapLt h1
  refine ⟨⟨rfl, rfl, rfl, by simp [setB], fun k hk hne => by simp only [setB]; rw [Array.getElem?_setIfInBounds_ne (fun e => hne e.symm)]⟩, by simp [setB], by simp [setB, hlt]⟩
theorem MapS.update (h : MapS t w b m) (hs : s.size ≤ maxLen) (x : α) : ∃ w', (Instr.mapUpdate t.T (.map (some b)) (.string s) (t.val x)).run Tryd.prog w = .ok () w' ∧ MapS t w' b (updM m s x) ∧ But b w w' ∧ w'.heap.size = w.heap.size := by
  have hnd := h.nodup
  have h4 : ∀ p ∈ m, p.1.size ≤ maxLen := by obtain ⟨_, _, _, _, _, h4⟩ := h; exact h4
  obtain ⟨arr, clock, h1, h2, h3, hc⟩ := h.find hs
  obtain ⟨lx, hlx⟩ : ∃ l, keyOf Tryd.prog 9 (.string s) = some l := ⟨_, keyOf_string_mk u9 hs⟩
  have put := fun o => putB (o := o) h1
  rcases hc with ⟨f1, f2, f3, f5⟩ | ⟨j, y, f1, f2, f3, f4⟩
  · obtain ⟨p1, p2, p3⟩ := put (.map (arr.push ⟨.string s, t.val x, clock⟩) (clock + 1))
    refine ⟨_, ?_, ⟨_, _, p3, stamped_push h2 f2, ?_, ?_⟩, p1, p2⟩
    · simp [Instr.mapUpdate, run_underlying t.und, MapKept.run_getObj_map h1, key9.check w _ hlx, f1, Result.andThen, MapKept.run_setObj_map _ h1, setB]
    · rw [updM, f3]
      simp [h3]
    · intro p hp
      rw [updM, f3] at hp
      rcases List.mem_append.1 hp with hp | hp
      · exact h4 p hp
      · simp at hp
        rw [hp]
        exact hs
  · have hk : ((arr[j]?).map (·.key)).getD (.string s) = .string s := by rw [f4]; rfl
    obtain ⟨p1, p2, p3⟩ := put (.map (arr.modify j fun e => { e with key := .string s, val := t.val x }) clock)
    refine ⟨_, ?_, ⟨_, _, p3, stamped_modify h2 j _ (fun _ _ => rfl) (fun e _ he => by rw [he] at f4; simp at f4; exact f4.symm), ?_, ?_⟩, p1, p2⟩
    · simp [Instr.mapUpdate, run_underlying t.und, MapKept.run_getObj_map h1, key9.check w _ hlx, f1, hk, key9.stays w hlx, Result.andThen, MapKept.run_setObj_map _ h1, setB]
    · rw [updM, f2]
      refine List.ext_getElem? fun i => ?_
      have hi := congrArg (fun l => l[i]?) h3
      simp only [List.getElem?_map] at hi
      simp only [List.getElem?_map, Array.getElem?_toList, Array.getElem?_modify, Option.isSome_some, if_true]
      cases hm : m[i]? with
      | none =>
        rw [hm] at hi
        simp only [Option.map_none, Option.map_eq_none_iff, Array.getElem?_toList] at hi
        rw [hi]
        simp
      | some p =>
        rw [hm] at hi
        simp only [Option.map_some] at hi
        rw [Array.getElem?_toList] at hi
        cases ha : arr[i]? with
        | none => rw [ha] at hi; cases hi
        | some e =>
          rw [ha] at hi
          simp only [Option.map_some, Option.some.injEq] at hi
          by_cases hij : i = j
          · subst hij
            have hkb := (key_at hnd f3 hm).2 rfl
            simp [hkb]
          · have hkb : keyB s p = false := by rw [Bool.eq_false_iff]; exact fun hk => hij ((key_at hnd f3 hm).1 hk)
            rw [if_neg (fun e => hij e.symm)]
            simp [hkb, hi]
    · intro p hp
      rw [updM, f2] at hp
      simp only [Option.isSome_some, if_true] at hp
      obtain ⟨q, hq, rfl⟩ := List.mem_map.1 hp
      split
      · exact hs
      · exact h4 q hq
theorem filter_erase : ∀ (m : List (ByteArray × α)) (j : Nat), (∀ i p, m[i]? = some p → (keyB s p = true ↔ i = j)) → m.filter (fun p => !keyB s p) = m.eraseIdx j
  | [], _, _ => by simp
  | p :: m, 0, h => by
    have h0 := (h 0 p rfl).2 rfl
    rw [List.filter_cons_of_neg (by simp [h0]), List.eraseIdx_cons_zero, List.filter_eq_self]
    intro q hq
    obtain ⟨i, hi⟩ := List.getElem?_of_mem hq
    have := h (i + 1) q (by simpa using hi)
    simp only [Nat.add_eq_zero_iff, Nat.succ_ne_self, and_false, iff_false] at this
    simpa using this
  | p :: m, j + 1, h => by
    have h0 : keyB s p = false := by
      rw [Bool.eq_false_iff]
      intro hk
      have := (h 0 p rfl).1 hk
      omega
    rw [List.filter_cons_of_pos (by simp [h0]), List.eraseIdx_cons_succ, filter_erase m j fun i q hq => ?_]
    have := h (i + 1) q (by simpa using hq)
    rw [this]
    omega
theorem MapS.delete (h : MapS t w b m) (hs : s.size ≤ maxLen) (ty : TypeId) : ∃ w', (Builtin.delete_ #[t.T, 9] ty #[.map (some b), .string s]).run Tryd.prog w = .ok (.tuple #[]) w' ∧ MapS t w' b (delM m s) ∧ But b w w' ∧ w'.heap.size = w.heap.size := by
  have hnd := h.nodup
  have h4 : ∀ p ∈ m, p.1.size ≤ maxLen := by obtain ⟨_, _, _, _, _, h4⟩ := h; exact h4
  obtain ⟨arr, clock, h1, h2, h3, hc⟩ := h.find hs
  obtain ⟨lx, hlx⟩ : ∃ l, keyOf Tryd.prog 9 (.string s) = some l := ⟨_, keyOf_string_mk u9 hs⟩
  have put := fun o => putB (o := o) h1
  rcases hc with ⟨f1, f2, f3, f5⟩ | ⟨j, y, f1, f2, f3, f4⟩
  · obtain ⟨p1, p2, p3⟩ := put (.map arr clock)
    refine ⟨_, ?_, ⟨_, _, p3, h2, ?_, fun p hp => h4 p (List.mem_filter.1 hp).1⟩, p1, p2⟩
    · simp [Builtin.delete_, run_underlying t.und, MapKept.run_getObj_map h1, key9.check w _ hlx, f1, Result.andThen, MapKept.run_setObj_map _ h1, setB]
    · rw [delM, List.filter_eq_self.2 (fun p hp => by simp [f5 p hp])]
      exact h3
  · obtain ⟨p1, p2, p3⟩ := put (.map (arr.eraseIdxIfInBounds j) clock)
    have hjs : j < arr.size := by
      have := (List.getElem?_eq_some_iff.1 f3).1
      have e := congrArg List.length h3
      simp at e
      omega
    refine ⟨_, ?_, ⟨_, _, p3, stamped_erase h2 j, ?_, fun p hp => h4 p (List.mem_filter.1 hp).1⟩, p1, p2⟩
    · simp [Builtin.delete_, run_underlying t.und, MapKept.run_getObj_map h1, key9.check w _ hlx, f1, Result.andThen, MapKept.run_setObj_map _ h1, setB]
    · rw [delM, filter_erase m j fun i p hp => key_at hnd f3 hp]
      have hsub : (arr.eraseIdxIfInBounds j).toList = arr.toList.eraseIdx j := by
        unfold Array.eraseIdxIfInBounds
        rw [dif_pos hjs]
        simp
      rw [hsub]
      have : ∀ {β γ : Type} (f : β → γ) (l : List β) (k : Nat), (l.eraseIdx k).map f = (l.map f).eraseIdx k := by
        intro β γ f l
        induction l with
        | nil => intro k; simp
        | cons a l ih => intro k; cases k <;> simp [ih]
      rw [this, this, h3]
end
section
variable {α : Type} (t : Mt α) {o : Oper} {a : Act} {w : World} {Q : Exit → Act → World → Prop} {ops : Array Oper} {rest : List Oper} {b : Nat} {m : List (ByteArray × α)}
theorem wpList_upd (hg : o.guard = none) (mo xo vo : Operand) (hop : o.op = Op.mapUpdate t.T mo xo vo) (s : ByteArray) (x : α) (hm : a.eval mo = .map (some b)) (hx : a.eval xo = .string s) (hv : a.eval vo = t.val x) (h : MapS t w b m) (hs : s.size ≤ maxLen)
    (hK : ∀ w', MapS t w' b (updM m s x) → But b w w' → w'.heap.size = w.heap.size → wpList Tryd.prog ops Q rest (a.put o.dst undef) w') : wpList Tryd.prog ops Q (o :: rest) a w := by
  refine wpList_plain hg fun K' hK' => ?_
  obtain ⟨w', hrun, r1, r2, r3⟩ := h.update hs x
  unfold Oper.wp
  simp [execOp, hop, hm, hx, hv, hrun, Result.andThen]
  exact hK' _ _ (hK w' r1 r2 r3)
theorem wpList_del (hg : o.guard = none) (mo xo : Operand) (hop : o.op = Op.call { callee := Callee.builtin Builtin.delete, args := #[mo, xo], argTypes := #[t.T, 9] }) (s : ByteArray) (hm : a.eval mo = .map (some b)) (hx : a.eval xo = .string s) (h : MapS t w b m) (hs : s.size ≤ maxLen)
    (hK : ∀ w', MapS t w' b (delM m s) → But b w w' → w'.heap.size = w.heap.size → wpList Tryd.prog ops Q rest (a.put o.dst (.tuple #[])) w') : wpList Tryd.prog ops Q (o :: rest) a w := by
  refine wpList_plain hg fun K' hK' => ?_
  obtain ⟨w', hrun, r1, r2, r3⟩ := h.delete hs o.type
  unfold Oper.wp
  simp [execOp, hop, resolve, invoke, builtin, hm, hx, hrun, Result.andThen]
  exact hK' _ _ (hK w' r1 r2 r3)
theorem wpList_look (hg : o.guard = none) (mo xo : Operand) (c : Bool) (hop : o.op = Op.lookup t.T mo xo c) (s : ByteArray) (hm : a.eval mo = .map (some b)) (hx : a.eval xo = .string s) (h : MapS t w b m) (hs : s.size ≤ maxLen) (r : Value)
    (hr : r = if c then .tuple #[((lookM m s).map t.val).getD t.z, .bool (lookM m s).isSome] else ((lookM m s).map t.val).getD t.z) (hK : wpList Tryd.prog ops Q rest (a.put o.dst r) w) : wpList Tryd.prog ops Q (o :: rest) a w := by
  refine wpList_plain hg fun K' hK' => ?_
  have hrun := h.look hs c
  rw [← hr] at hrun
  unfold Oper.wp
  simp [execOp, hop, hm, hx, hrun, Result.andThen]
  exact hK' _ _ hK
end
end Go.Proofs.YtcmkjjlchljffaaDoor

/- The landed disk in memory: its cells, its map of files, each file's bytes in a block of its own. -/
namespace Go.Proofs.YtcmkjjlchljffaaDoor
open Go.RowKit
set_option linter.unusedVariables false

/-- A file of the map: its bytes' slice, the bytes, how many are safe, whether it lasts. -/
structure FM where
  v : Value
  bs : List UInt8
  sf : Nat
  hd : Bool
def FM.val (f : FM) : Value := .agg #[f.v, .int .i64 (f.sf : Int), .bool f.hd]
def FM.cells (f : FM) : List Value := [f.v, .int .i64 (f.sf : Int), .bool f.hd]
def toFi (p : ByteArray × FM) : Fi := ⟨p.1, p.2.bs, p.2.sf, p.2.hd⟩
def mF : Mt FM := ⟨33, 66, FM.val, .agg #[.slice none 0 0, .int .i64 0, .bool false], by kernel_rfl, fun w => by kernel_rfl⟩
abbrev FMap := List (ByteArray × FM)
/-- The blocks of a disk. -/
def FW (g mb : Nat) (m : FMap) : Nat → Prop := fun k => k = g ∨ k = mb ∨ ∃ p ∈ m, p.2.v.ownBlock = some k
/-- The landed disk in memory. -/
structure Ds (B : Nat) (w : World) (g mb : Nat) (m : FMap) (sz : Nat) (lf : Int) (wr : Nat) : Prop where
  at_ : At 35 w g [.pointer (some ⟨g, 0, none⟩), .int .i64 (sz : Int), .map (some mb), .int .i64 lf, .int .i64 (wr : Int)]
  mp : MapS mF w mb m
  own : ∀ p ∈ m, OwnX eB B w p.2.v p.2.bs
  apart : ∀ p ∈ m, ∀ q ∈ m, p.1 ≠ q.1 → ∀ k, p.2.v.ownBlock = some k → q.2.v.ownBlock ≠ some k
  bg : B ≤ g
  bm : B ≤ mb
  ns : ∀ p ∈ m, p.1.size ≤ 40
section
variable {B g mb : Nat} {w w' : World} {m : FMap} {sz wr : Nat} {lf : Int}
theorem Ds.same (h : Ds B w g mb m sz lf wr) (k : ∀ k, FW g mb m k → w'.heap[k]? = w.heap[k]?) : Ds B w' g mb m sz lf wr :=
  ⟨h.at_.same (k g (.inl rfl)), h.mp.same (k mb (.inr (.inl rfl))), fun p hp => (h.own p hp).same fun i hi => k i (.inr (.inr ⟨p, hp, hi⟩)), h.apart, h.bg, h.bm, h.ns⟩
theorem Ds.lt (h : Ds B w g mb m sz lf wr) : ∀ k, FW g mb m k → k < w.heap.size := by
  rintro k (rfl | rfl | ⟨p, hp, hk⟩)
  · exact heapLt h.at_
  · exact h.mp.lt
  · exact ((h.own p hp).block k hk).2.1
theorem Ds.base (h : Ds B w g mb m sz lf wr) : ∀ k, FW g mb m k → B ≤ k := by
  rintro k (rfl | rfl | ⟨p, hp, hk⟩)
  · exact h.bg
  · exact h.bm
  · exact ((h.own p hp).block k hk).1
theorem Ds.below (h : Ds B w g mb m sz lf wr) (hb : Below w.heap.size w w') : Ds B w' g mb m sz lf wr := h.same fun k hk => hb.block k (h.lt k hk)
theorem Ds.ne (h : Ds B w g mb m sz lf wr) : g ≠ mb := by
  intro e
  obtain ⟨arr, clock, h1, _⟩ := h.mp
  have h2 : w.heap[g]? = some (.cells _ 35 (0, 0)) := h.at_
  rw [e, h1] at h2
  cases h2
theorem Ds.neG (h : Ds B w g mb m sz lf wr) {p : ByteArray × FM} (hp : p ∈ m) : p.2.v.ownBlock ≠ some g := fun e => by
  obtain ⟨_, _, cs, hA⟩ := (h.own p hp).block g e
  exact hA.ne h.at_ (show (5 : Nat) ≠ 35 by decide) rfl
theorem Ds.neM (h : Ds B w g mb m sz lf wr) {p : ByteArray × FM} (hp : p ∈ m) : p.2.v.ownBlock ≠ some mb := fun e => by
  obtain ⟨_, _, cs, hA⟩ := (h.own p hp).block mb e
  obtain ⟨arr, clock, h1, _⟩ := h.mp
  have h2 : w.heap[mb]? = some (.cells _ 5 (0, 0)) := hA
  rw [h1] at h2
  cases h2
theorem find_lk (nm : ByteArray) : ∀ m : FMap, (m.map toFi).find? (isN nm) = (m.find? (keyB nm)).map toFi
  | [] => rfl
  | p :: m => by
    rw [List.map_cons]
    cases hk : keyB nm p with
    | true => rw [List.find?_cons_of_pos (by exact hk), List.find?_cons_of_pos hk]; rfl
    | false => rw [List.find?_cons_of_neg (by show ¬ (keyB nm p = true); rw [hk]; simp), List.find?_cons_of_neg (by rw [hk]; simp)]; exact find_lk nm m
theorem look_find {nm : ByteArray} {m : FMap} : (m.map toFi).find? (isN nm) = (lookM m nm).map (fun f => toFi (nm, f)) := by
  rw [find_lk, lookM]
  cases hf : m.find? (keyB nm) with
  | none => rfl
  | some p =>
    have := keyB_iff.1 (List.find?_some hf)
    subst this
    rfl
theorem look_mem {nm : ByteArray} {m : FMap} {f : FM} (h : lookM m nm = some f) : (nm, f) ∈ m := by
  unfold lookM at h
  cases hf : m.find? (keyB nm) with
  | none => rw [hf] at h; cases h
  | some p =>
    rw [hf] at h
    have h1 := keyB_iff.1 (List.find?_some hf)
    injection h with h
    rw [← h, ← h1]
    exact List.mem_of_find?_eq_some hf
theorem isN_inj {a b : ByteArray} {f : Fi} (h : f.nm = b) : isN a f = false ↔ a ≠ b := by
  unfold isN
  rw [h, beq_eq_false_iff_ne, ne_eq, ne_eq]
  exact ⟨fun q e => q (by rw [e]), fun q e => q (toL_inj e).symm⟩
end
/-- What the program's disk is. -/
structure CDv (B : Nat) (w : World) (g mb : Nat) (W F : Nat → Prop) (m : FMap) (d : Dk) : Prop where
  ds : Ds B w g mb m d.sz d.lf d.wr
  fs : (m.map toFi).Perm d.fs
  sub : ∀ k, FW g mb m k → W k
  wf : ∀ k, W k → F k ∧ B ≤ k
  lt : ∀ k, F k → k < w.heap.size
def CDp : CDT := fun B w g W F d => ∃ mb m, CDv B w g mb W F m d
section
variable {B g mb : Nat} {w w' : World} {W F : Nat → Prop} {m : FMap} {d : Dk}
theorem CDv.same (h : CDv B w g mb W F m d) (k : ∀ k, F k → w'.heap[k]? = w.heap[k]?) (hs : w.heap.size ≤ w'.heap.size) : CDv B w' g mb W F m d :=
  ⟨h.ds.same fun i hi => k i (h.wf i (h.sub i hi)).1, h.fs, h.sub, h.wf, fun i hi => Nat.lt_of_lt_of_le (h.lt i hi) hs⟩
/-- Names are apart. -/
theorem apart_of {fs : List Fi} (hn : (fs.map Fi.nm).Nodup) : fs.Pairwise (fun a b => isN a.nm b = false) := by
  rw [List.nodup_iff_pairwise_ne, List.pairwise_map] at hn
  exact hn.imp fun {a b} q => (isN_inj rfl).2 q
theorem CDv.nodup (h : CDv B w g mb W F m d) : (d.fs.map Fi.nm).Nodup := by
  have h1 := h.ds.mp.nodup
  have h2 := h.fs.map Fi.nm
  rw [List.map_map] at h2
  exact h2.nodup_iff.1 h1
theorem find_perm {nm : ByteArray} : ∀ {a b : List Fi}, a.Perm b → (a.map Fi.nm).Nodup → a.find? (isN nm) = b.find? (isN nm) := by
  intro a b hp hn
  cases ha : a.find? (isN nm) with
  | none =>
    symm
    rw [List.find?_eq_none] at ha ⊢
    exact fun x hx => ha x (hp.mem_iff.2 hx)
  | some f =>
    cases hb : b.find? (isN nm) with
    | none =>
      rw [List.find?_eq_none] at hb
      exact absurd (List.find?_some ha) (hb f (hp.mem_iff.1 (List.mem_of_find?_eq_some ha)))
    | some f' =>
      have m1 := List.mem_of_find?_eq_some ha
      have m2 := hp.mem_iff.2 (List.mem_of_find?_eq_some hb)
      have e1 := List.find?_some ha
      have e2 := List.find?_some hb
      have en : f.nm = f'.nm := by
        unfold isN at e1 e2
        rw [beq_iff_eq] at e1 e2
        exact toL_inj (e1.trans e2.symm)
      congr 1
      clear ha hb e1 e2 hp
      revert m1 m2
      induction a with
      | nil => intro m1; cases m1
      | cons x a ih =>
        intro m1 m2
        rw [List.map_cons, List.nodup_cons] at hn
        rcases List.mem_cons.1 m1 with q1 | q1
        · rcases List.mem_cons.1 m2 with q2 | q2
          · rw [q1, q2]
          · exact absurd (List.mem_map.2 ⟨f', q2, by rw [← en, q1]⟩) hn.1
        · rcases List.mem_cons.1 m2 with q2 | q2
          · exact absurd (List.mem_map.2 ⟨f, q1, by rw [en, q2]⟩) hn.1
          · exact ih hn.2 q1 q2
theorem CDv.find (h : CDv B w g mb W F m d) (nm : ByteArray) : d.fs.find? (isN nm) = (lookM m nm).map (fun f => toFi (nm, f)) := by
  rw [← look_find]
  refine (find_perm h.fs ?_).symm
  rw [List.map_map]
  exact h.ds.mp.nodup
end
end Go.Proofs.YtcmkjjlchljffaaDoor

/- The landed disk: what it tells of itself. -/
namespace Go.Proofs.YtcmkjjlchljffaaDoor
open Go.RowKit
set_option linter.unusedVariables false
set_option maxRecDepth 100000

section
variable {g : Nat} {w : World} {c1 c2 c3 c4 : Value}
theorem i35 : ∃ j, Tryd.prog.info? 35 = some j := by
  cases h : Tryd.prog.info? 35 with
  | some j => exact ⟨j, rfl⟩
  | none =>
    have : (Tryd.prog.info? 35).isSome = true := by kernel_rfl
    rw [h] at this; cases this
theorem eq_ptr (a : Addr) (u : World) : (binOp .eql 22 (.pointer (some a)) (.pointer (some a))).run Tryd.prog u = .ok (.bool true) u := by
  obtain ⟨j, hj⟩ := i35
  exact run_eql_ptr_same u a Tryd.underlying22 hj
theorem eq_ptr0 (a : Addr) (u : World) : (binOp .eql 22 (.pointer none) (.pointer (some a))).run Tryd.prog u = .ok (.bool false) u := by
  have h : ∀ d : Nat, (Op.equalIn (d + 1) 22 (.pointer none) (.pointer (some a))).run Tryd.prog u = .ok false u := fun d => by
    simp [Op.equalIn, run_underlying Tryd.underlying22]
  simp only [binOp]
  simp [Op.equal, Op.maxDepth, h 9999]
theorem made_yes (h : At 35 w g [.pointer (some ⟨g, 0, none⟩), c1, c2, c3, c4]) : Calls Tryd.prog 33 #[.pointer (some ⟨g, 0, none⟩)] w fun r w' => r = .returned (.bool true) ∧ w' = w := by
  have q := h.cell 0
  simp only [List.getElem?_cons_zero] at q
  go_enter Tryd.func33, Tryd.ntmps33
  go_wp2
  rw [eq_ptr]
  go_wp2
  go_ret
  exact ⟨rfl, rfl⟩
theorem made_no (h : At 35 w g [.pointer none, c1, c2, c3, c4]) : Calls Tryd.prog 33 #[.pointer (some ⟨g, 0, none⟩)] w fun r w' => r = .returned (.bool false) ∧ w' = w := by
  have q := h.cell 0
  simp only [List.getElem?_cons_zero] at q
  go_enter Tryd.func33, Tryd.ntmps33
  go_wp2
  rw [eq_ptr0]
  go_wp2
  go_ret
  exact ⟨rfl, rfl⟩
theorem made_nil (w : World) : Calls Tryd.prog 33 #[.pointer none] w fun r w' => r = .returned (.bool false) ∧ w' = w := by
  go_enter Tryd.func33, Tryd.ntmps33
  go_wp2
  go_ret
  exact ⟨rfl, rfl⟩
end
section
variable {B g mb : Nat} {w : World} {m : FMap} {sz wr : Nat} {lf : Int}
theorem size_p (h : Ds B w g mb m sz lf wr) : Calls Tryd.prog 22 #[.pointer (some ⟨g, 0, none⟩)] w fun r w' => r = .returned (.int .i64 (sz : Int)) ∧ w' = w := by
  have HM := hidU (made_yes h.at_)
  have q := h.at_.cell 1
  simp only [List.getElem?_cons_zero, List.getElem?_cons_succ] at q
  clear h
  go_enter Tryd.func22, Tryd.ntmps22
  go_wp2_with (go_at_call 33; refine HM.out.mono ?_; rintro _ w1 ⟨rfl, hw⟩; obtain rfl : w = w1 := hw.symm; clear hw)
  go_ret
  exact ⟨rfl, rfl⟩
theorem writes_p (h : Ds B w g mb m sz lf wr) : Calls Tryd.prog 25 #[.pointer (some ⟨g, 0, none⟩)] w fun r w' => r = .returned (.int .i64 (wr : Int)) ∧ w' = w := by
  have HM := hidU (made_yes h.at_)
  have q := h.at_.cell 4
  simp only [List.getElem?_cons_zero, List.getElem?_cons_succ] at q
  clear h
  go_enter Tryd.func25, Tryd.ntmps25
  go_wp2_with (go_at_call 33; refine HM.out.mono ?_; rintro _ w1 ⟨rfl, hw⟩; obtain rfl : w = w1 := hw.symm; clear hw)
  go_ret
  exact ⟨rfl, rfl⟩
theorem stopped_p (h : Ds B w g mb m sz lf wr) : Calls Tryd.prog 24 #[.pointer (some ⟨g, 0, none⟩)] w fun r w' => r = .returned (.bool (lf == 0)) ∧ w' = w := by
  have HM := hidU (made_yes h.at_)
  have q := h.at_.cell 3
  simp only [List.getElem?_cons_zero, List.getElem?_cons_succ] at q
  clear h
  go_enter Tryd.func24, Tryd.ntmps24
  go_wp2_with (go_at_call 33; refine HM.out.mono ?_; rintro _ w1 ⟨rfl, hw⟩; obtain rfl : w = w1 := hw.symm; clear hw)
  go_ret
  exact ⟨rfl, rfl⟩
end
/-- A file's loose bytes. -/
theorem loose_any (f : FM) (n : Nat) (c : Nat) (a : Option Addr) (w : World) (hv : f.v = .slice a n c) (hs : f.sf ≤ 4611686018427387904) (hn : n ≤ 4611686018427387904) : Calls Tryd.prog 51 #[f.val] w fun r w' => r = .returned (.int .i64 ((n : Int) - f.sf)) ∧ Below w.heap.size w w' := by
  obtain ⟨v, bs, sf, hd⟩ := f
  simp only at hv hs
  subst hv
  unfold FM.val
  go_enter Tryd.func51, Tryd.ntmps51
  go_wp2
  go_ret
  exact ⟨rfl, (Below.refl _ w).alloc (Nat.le_refl _) _⟩
end Go.Proofs.YtcmkjjlchljffaaDoor

/- The landed disk: made, New, lacks, Loose. -/
namespace Go.Proofs.YtcmkjjlchljffaaDoor
open Go.RowKit
set_option linter.unusedVariables false
set_option maxRecDepth 100000
set_option maxHeartbeats 3200000

section
variable {B g mb : Nat} {w : World} {m : FMap} {sz wr : Nat} {lf : Int} {nm : ByteArray}
theorem Ds.files (h : Ds B w g mb m sz lf wr) : w.cell? ⟨g, 2, none⟩ = some (.map (some mb)) := by
  have q := h.at_.cell 2
  simpa only [List.getElem?_cons_zero, List.getElem?_cons_succ] using q
def lkZ (m : FMap) (nm : ByteArray) : Int := if (lookM m nm).isSome then 0 else 6
theorem lacks_p (h : Ds B w g mb m sz lf wr) (hs : nm.size ≤ 9223372036854775807) : Calls Tryd.prog 49 #[.pointer (some ⟨g, 0, none⟩), .string nm] w fun r w' => r = .returned (.int .i64 (lkZ m nm)) ∧ Below w.heap.size w w' := by
  have HM := hidU (made_yes h.at_)
  have q := h.files
  have HP := hidU h.mp
  obtain ⟨R, hR⟩ : ∃ R, Hid (R = lkZ m nm) := ⟨_, (rfl : _ = lkZ _ _)⟩
  rw [← hR.out]
  cases hl : lookM m nm with
  | none =>
    have e : R = 6 := by rw [hR.out, lkZ, hl]; rfl
    subst e
    have HL := hidU hl
    clear h hR hl
    go_enter Tryd.func49, Tryd.ntmps49
    go_wp2_with (first
      | (go_at_call 33; refine HM.out.mono ?_; rintro _ w1 ⟨rfl, hw⟩; obtain rfl : w = w1 := hw.symm; clear hw)
      | (refine wpList_look mF rfl (.tmp 14) (.tmp 15) true rfl nm rfl rfl HP.out hs (.tuple #[.agg #[.slice none 0 0, .int .i64 0, .bool false], .bool false]) (by rw [HL.out]; rfl) ?_))
    go_ret
    exact ⟨rfl, (Below.refl _ w).alloc (Nat.le_refl _) _⟩
  | some f =>
    have e : R = 0 := by rw [hR.out, lkZ, hl]; rfl
    subst e
    obtain ⟨a, c, hv, _⟩ := (h.own _ (look_mem hl)).row
    obtain ⟨v, bs, sf, hd⟩ := f
    simp only at hv
    subst hv
    have HL := hidU hl
    obtain ⟨n, hn⟩ : ∃ n, Hid (bs.length = n) := ⟨_, (rfl : bs.length = _)⟩
    rw [hn.out] at HL
    clear h hR hl
    go_enter Tryd.func49, Tryd.ntmps49
    go_wp2_with (first
      | (go_at_call 33; refine HM.out.mono ?_; rintro _ w1 ⟨rfl, hw⟩; obtain rfl : w = w1 := hw.symm; clear hw)
      | (refine wpList_look mF rfl (.tmp 14) (.tmp 15) true rfl nm rfl rfl HP.out hs (.tuple #[.agg #[.slice a n c, .int .i64 (sf : Int), .bool hd], .bool true]) (by rw [HL.out]; rfl) ?_))
    go_ret
    exact ⟨rfl, (Below.refl _ w).alloc (Nat.le_refl _) _⟩
end
end Go.Proofs.YtcmkjjlchljffaaDoor

/- The landed disk: Loose, Stop, made, New. -/
namespace Go.Proofs.YtcmkjjlchljffaaDoor
open Go.RowKit
set_option linter.unusedVariables false
set_option maxRecDepth 100000
set_option maxHeartbeats 3200000

section
variable {B g mb : Nat} {w : World} {m : FMap} {sz wr : Nat} {lf : Int} {nm : ByteArray}
theorem look_parts {f : FM} (h : Ds B w g mb m sz lf wr) (hl : lookM m nm = some f) : ∃ a n c bs sf hd, f = ⟨.slice a n c, bs, sf, hd⟩ ∧ bs.length = n ∧ n ≤ c ∧ c ≤ maxLen ∧ (a = none → c = 0) ∧ Row w a bs ∧ OwnX eB B w (.slice a n c) bs := by
  have ho := h.own _ (look_mem hl)
  obtain ⟨a, c, hv, h1, h2, h3, _, h4⟩ := ho.row
  obtain ⟨v, bs, sf, hd⟩ := f
  simp only at hv
  subst hv
  exact ⟨a, bs.length, c, bs, sf, hd, rfl, rfl, h1, h2, h3, rowB.1 h4, ho⟩
def lsM (m : FMap) (nm : ByteArray) : Int := match lookM m nm with | some f => (f.bs.length : Int) - f.sf | none => 0
theorem loose_p (h : Ds B w g mb m sz lf wr) (hs : nm.size ≤ 9223372036854775807) (hb : ∀ p ∈ m, p.2.bs.length ≤ 4611686018427387904 ∧ p.2.sf ≤ 4611686018427387904) : Calls Tryd.prog 23 #[.pointer (some ⟨g, 0, none⟩), .string nm] w fun r w' => r = .returned (.int .i64 (lsM m nm)) ∧ Below w.heap.size w w' := by
  have HM := hidU (made_yes h.at_)
  have q := h.files
  have HP := hidU h.mp
  obtain ⟨R, hR⟩ : ∃ R, Hid (R = lsM m nm) := ⟨_, (rfl : _ = lsM _ _)⟩
  rw [← hR.out]
  cases hl : lookM m nm with
  | none =>
    have e : R = 0 := by rw [hR.out, lsM, hl]
    subst e
    have HL := hidU hl
    have HC := hidU (loose_any ⟨.slice none 0 0, [], 0, false⟩ 0 0 none w rfl (by decide) (by decide))
    clear h hR hl
    go_enter Tryd.func23, Tryd.ntmps23
    go_wp2_with (first
      | (go_at_call 33; refine HM.out.mono ?_; rintro _ w1 ⟨rfl, hw⟩; obtain rfl : w = w1 := hw.symm; clear hw)
      | (refine wpList_look mF rfl (.tmp 11) (.tmp 12) false rfl nm rfl rfl HP.out hs (.agg #[.slice none 0 0, .int .i64 0, .bool false]) (by rw [HL.out]; rfl) ?_)
      | (go_at_call 51; refine HC.out.mono ?_; rintro _ w1 ⟨rfl, hw⟩))
    go_ret
    exact ⟨rfl, hw⟩
  | some f =>
    obtain ⟨a, n, c, bs, sf, hd, rfl, hn, _, _, _, _, _⟩ := look_parts h hl
    have e : R = (n : Int) - sf := by rw [hR.out, lsM, hl]; simp only; rw [hn]
    subst e
    have HL := hidU hl
    have hbb := hb _ (look_mem hl)
    simp only [hn] at hbb
    have HC := hidU (loose_any ⟨.slice a n c, bs, sf, hd⟩ n c a w rfl hbb.2 hbb.1)
    clear h hR hl hn hb hbb
    go_enter Tryd.func23, Tryd.ntmps23
    go_wp2_with (first
      | (go_at_call 33; refine HM.out.mono ?_; rintro _ w1 ⟨rfl, hw⟩; obtain rfl : w = w1 := hw.symm; clear hw)
      | (refine wpList_look mF rfl (.tmp 11) (.tmp 12) false rfl nm rfl rfl HP.out hs (.agg #[.slice a n c, .int .i64 (sf : Int), .bool hd]) (by rw [HL.out]; rfl) ?_)
      | (go_at_call 51; refine HC.out.mono ?_; rintro _ w1 ⟨rfl, hw⟩))
    go_ret
    exact ⟨rfl, hw⟩
theorem stop_p (z : Int) (h : Ds B w g mb m sz lf wr) : Calls Tryd.prog 18 #[.pointer (some ⟨g, 0, none⟩), .int .i64 z] w fun r w' => r = .returned (.int .i64 (stZ z)) ∧ Ds B w' g mb m sz (if z < 0 then lf else if lf = 0 then 0 else z) wr ∧ But g w w' := by
  have HM := hidU (made_yes h.at_)
  have HS := hidU (stopped_p h)
  have HA := hidU h.at_
  have q := h.at_.cell 3
  simp only [List.getElem?_cons_zero, List.getElem?_cons_succ] at q
  have HK := hidU (fun (w' : World) (y : Int) (hb : But g w w') (hA : At 35 w' g [.pointer (some ⟨g, 0, none⟩), .int .i64 (sz : Int), .map (some mb), .int .i64 y, .int .i64 (wr : Int)]) =>
    (⟨hA, h.mp.same (hb.block _ h.mp.lt fun e => h.ne e.symm), fun p hp => (h.own p hp).same fun i hi => hb.block i ((h.own p hp).block i hi).2.1 (fun e => h.neG hp (e ▸ hi)), h.apart, h.bg, h.bm, h.ns⟩ : Ds B w' g mb m sz y wr))
  have H0 := hidU h
  clear h
  obtain ⟨Z, hZ⟩ : ∃ Z, Hid (Z = stZ z) := ⟨_, (rfl : _ = stZ _)⟩
  rw [← hZ.out]
  by_cases hz : z < 0
  · have e : Z = 2 := by rw [hZ.out, stZ, if_pos hz]
    subst e
    rw [if_pos hz]
    go_enter Tryd.func18, Tryd.ntmps18
    go_wp2_with (first
      | (go_at_call 33; refine HM.out.mono ?_; rintro _ w1 ⟨rfl, hw⟩; obtain rfl : w = w1 := hw.symm; clear hw))
    go_ret
    exact ⟨rfl, H0.out, But.refl _ _⟩
  · have e : Z = 0 := by rw [hZ.out, stZ, if_neg hz]
    subst e
    rw [if_neg hz]
    by_cases hl : lf = 0
    · subst hl
      rw [if_pos rfl]
      go_enter Tryd.func18, Tryd.ntmps18
      go_wp2_with (first
        | (go_at_call 33; refine HM.out.mono ?_; rintro _ w1 ⟨rfl, hw⟩; obtain rfl : w = w1 := hw.symm; clear hw)
        | (go_at_call 24; refine HS.out.mono ?_; rintro _ w1 ⟨rfl, hw⟩; obtain rfl : w = w1 := hw.symm; clear hw))
      go_ret
      exact ⟨rfl, H0.out, But.refl _ _⟩
    · rw [if_neg hl]
      have HS2 : Hid (Calls Tryd.prog 24 #[.pointer (some ⟨g, 0, none⟩)] w fun r w' => r = .returned (.bool false) ∧ w' = w) := by
        refine hidU (HS.out.mono ?_)
        rintro r w' ⟨rfl, h⟩
        exact ⟨by rw [beq_eq_false_iff_ne.2 hl], h⟩
      clear HS
      go_enter Tryd.func18, Tryd.ntmps18
      go_wp2_with (first
        | (go_at_call 33; refine HM.out.mono ?_; rintro _ w1 ⟨rfl, hw⟩; obtain rfl : w = w1 := hw.symm; clear hw)
        | (go_at_call 24; refine HS2.out.mono ?_; rintro _ w1 ⟨rfl, hw⟩; obtain rfl : w = w1 := hw.symm; clear hw)
        | (refine wpList_store1 rfl 3 (.tmp 19) (.tmp 17) rfl g 3 (.int .i64 z) rfl rfl 35 _ HA.out (by simp) i3 rfl rfl ?_; intro w2 hA2 hb2 hs2; simp only [List.set] at hA2))
      go_ret
      exact ⟨rfl, HK.out _ _ hb2 hA2, hb2⟩
end
theorem made_any (p : Option Addr) (x y z : Int) (mb : Nat) (w : World) : Calls Tryd.prog 32 #[.agg #[.pointer p, .int .i64 x, .map (some mb), .int .i64 y, .int .i64 z]] w fun r w' => r = .returned (.pointer (some ⟨w.heap.size, 0, none⟩)) ∧ At 35 w' w.heap.size [.pointer (some ⟨w.heap.size, 0, none⟩), .int .i64 x, .map (some mb), .int .i64 y, .int .i64 z] ∧ Below w.heap.size w w' ∧ w'.heap.size = w.heap.size + 1 := by
  go_enter Tryd.func32, Tryd.ntmps32
  go_wp2
  go_ret
  exact ⟨rfl, _root_.Go.heap_alloc_new w _, (Below.refl _ w).alloc (Nat.le_refl _) _, by simp⟩
theorem new_bad (n : Int) (w : World) (h : n < 1 ∨ 67108864 < n) : Calls Tryd.prog 8 #[.int .i64 n] w fun r w' => r = .returned (.tuple #[.pointer none, .int .i64 2]) ∧ Below w.heap.size w w' := by
  by_cases h1 : n < 1
  · clear h
    go_enter Tryd.func8, Tryd.ntmps8
    go_wp2
    go_ret2
    exact ⟨rfl, Below.refl _ _⟩
  · have h2 : 67108864 < n := h.resolve_left h1
    clear h
    go_enter Tryd.func8, Tryd.ntmps8
    go_wp2
    go_ret2
    exact ⟨rfl, Below.refl _ _⟩
theorem new_ok (n : Nat) (w : World) (h1 : 1 ≤ n) (h2 : n ≤ 67108864) : Calls Tryd.prog 8 #[.int .i64 (n : Int)] w fun r w' => ∃ g mb, r = .returned (.tuple #[.pointer (some ⟨g, 0, none⟩), .int .i64 0]) ∧ Ds w.heap.size w' g mb [] n (-1) 0 ∧ Below w.heap.size w w' := by
  have h1' : ¬ (n : Int) < 1 := by omega
  have h2' : ¬ (67108864 : Int) < n := by omega
  have hM := hidU (MapS.made mF w)
  have hB1 := hidU ((Below.refl w.heap.size w).alloc (Nat.le_refl _) (.map #[] 0))
  have hs1 : (w.alloc (.map #[] 0)).heap.size = w.heap.size + 1 := by simp
  have hmm := @run_makeMap Tryd.prog
  go_enter Tryd.func8, Tryd.ntmps8
  go_wp2_with (go_at_call 32; refine (made_any none n (-1) 0 w.heap.size (w.alloc (.map #[] 0))).mono ?_; rintro _ w1 ⟨rfl, hA, hb, hs⟩)
  go_ret2
  rw [hs1] at hA
  refine ⟨_, w.heap.size, rfl, ⟨hA, hM.out.below hb, fun p hp => (by cases hp), fun p hp => (by cases hp), by omega, Nat.le_refl _, fun p hp => (by cases hp)⟩, hB1.out.trans (hb.mono hB1.out.size)⟩
end Go.Proofs.YtcmkjjlchljffaaDoor
