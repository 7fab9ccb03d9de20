/- Joined texts of the proof. -/
import Derived.Test.YtcmkjjlchljffaaDoorJ1
import Derived.Maps.AppendAt

/- The given answer's disk: Cut, Append. -/
namespace Go.Proofs.YtcmkjjlchljffaaDoor
open Go.RowKit
set_option linter.unusedVariables false

/-- A file's cells are written, in its place; its bytes may lie elsewhere. -/
theorem RDv.setg {B g k c i j : Nat} {w w' : World} {W F F' : Nat → Prop} {ts : List FT} {d d' : Dk} {t t' : FT} {u : Value} {cs : List Value} (h : RDv B w g W F (.slice (some ⟨k, 0, none⟩) ts.length c) ts d) (hA : At 70 w k cs) (ht : ts[i]? = some t) (hy : t'.cells = t.cells.set j u) (hj : j < 4)
    (hA' : At 70 w' k (cs.set (i * 4 + j) u)) (hb : But k w w') (hF : ∀ q, F q → F' q) (hlt : ∀ q, F' q → q < w'.heap.size) (hin : t'.In w' W F') (e1 : d'.sz = d.sz) (e2 : d'.lf = d.lf) (e3 : d'.wr = d.wr) (e4 : (ts.set i t').map FT.fi = d'.fs) : RDv B w' g W F' (.slice (some ⟨k, 0, none⟩) (ts.set i t').length c) (ts.set i t') d' := by
  have hk : W k := h.wv k rfl
  have hkg : g ≠ k := fun e => h.ne (by rw [e]; rfl)
  refine ⟨?_, ?_, e4, fun f hf => ?_, h.wg, h.wv, fun q hq => ⟨hF q (h.wf q hq).1, (h.wf q hq).2⟩, hlt⟩
  · rw [e1, e2, e3, List.length_set]
    exact h.at_.same (hb.block g h.at_.lt hkg)
  · rw [List.length_set]
    exact h.own.put hA ht hy hj hA'
  · rcases List.mem_or_eq_of_mem_set hf with hf | rfl
    · obtain ⟨q1, q2, q3⟩ := h.ins f hf
      exact ⟨q1.same fun ad ha => hb.block _ (h.lt _ (q2 ad ha).1) fun e => (q2 ad ha).2 (e ▸ hk), fun ad ha => ⟨hF _ (q2 ad ha).1, (q2 ad ha).2⟩, q3⟩
    · exact hin
/-- A file's bytes are others now, in a block that is new. -/
theorem RDv.bytes {B g k c i : Nat} {w x0 x2 x3 : World} {W F : Nat → Prop} {ts : List FT} {d : Dk} {t : FT} {v : Value} {cs : List Value} {bs : List UInt8} (h : RDv B w g W F (.slice (some ⟨k, 0, none⟩) ts.length c) ts d) (hA : At 70 w k cs) (ht : ts[i]? = some t) (h0 : w.heap.size ≤ x0.heap.size) (hb : Below w.heap.size w x2)
    (ho : OwnX eB x0.heap.size x2 v bs) (hA' : At 70 x3 k (cs.set (i * 4 + 1) v)) (hb3 : But k x2 x3) : ∃ t1 : FT, t1.bs = bs ∧ t1.nm = t.nm ∧ t1.sf = t.sf ∧ t1.hd = t.hd ∧ RDv B x3 g W (newF F v) (.slice (some ⟨k, 0, none⟩) (ts.set i t1).length c) (ts.set i t1) { d with fs := (ts.set i t1).map FT.fi } ∧ Moves w W F x3 W (newF F v) := by
  obtain ⟨a, cap, rfl, c1, c2, c3, c4, hrow⟩ := ho.row
  have hW : ∀ q, W q → q < w.heap.size := fun q hq => h.lt q (h.wf q hq).1
  have hbk : ∀ q, (Value.slice a bs.length cap).ownBlock = some q → w.heap.size ≤ q ∧ q < x2.heap.size := fun q hq => ⟨Nat.le_trans h0 (ho.block q hq).1, (ho.block q hq).2.1⟩
  refine ⟨⟨t.nm, a, bs, cap, t.sf, t.hd⟩, rfl, rfl, rfl, rfl, (h.below hb).setg (t' := ⟨t.nm, a, bs, cap, t.sf, t.hd⟩) (hA.below hb) ht rfl (j := 1) (by decide) hA' hb3 (fun q hq => .inl hq) ?_ ⟨?_, ?_, c1, c3⟩ rfl rfl rfl rfl, ?_, fun q hq => .inl hq, ?_⟩
  · rintro q (hq | hq)
    · exact Nat.lt_of_lt_of_le (h.lt q hq) (Nat.le_trans hb.size hb3.size)
    · exact Nat.lt_of_lt_of_le (hbk q hq).2 hb3.size
  · refine (rowB.1 hrow).same fun ad ha => hb3.block _ (hbk _ (c4 ad ha)).2 fun e => ?_
    have := (hbk _ (c4 ad ha)).1
    have := hW k (h.wv k rfl)
    omega
  · intro ad ha
    refine ⟨.inr (c4 ad ha), fun e => ?_⟩
    have := (hbk _ (c4 ad ha)).1
    have := hW _ e
    omega
  · exact (Chg.of_below hb).trans (Chg.of_but hb3 (h.wv k rfl))
  · rintro q (hq | hq)
    · exact .inl hq
    · exact .inr (hbk q hq).1
def ctO (d : Dk) (nm : ByteArray) (z : Int) : Dk × Int :=
  match d.fs.find? (isN nm) with
  | none => (d, 6)
  | some f => if z < 0 ∨ (f.bs.length : Int) < z then (d, 2) else if f.sf < f.bs.length then (d, 10) else if d.lf = 0 then (d, 13) else ({ pwD d with fs := setL nm (fun f => { f with bs := f.bs.take z.toNat, sf := z.toNat, hd := true }) d.fs }, 0)
theorem Row.take {w : World} {a : Option Addr} {bs : List UInt8} (h : Row w a bs) (z : Nat) : Row w a (bs.take z) := by
  rcases h with rfl | ⟨b, off, rfl, hc⟩
  · exact .inl (by simp)
  · refine .inr ⟨b, off, rfl, fun j hj => ?_⟩
    rw [List.length_take] at hj
    rw [hc j (by omega)]
    simp [List.getD, List.getElem?_take_of_lt (show j < z by omega)]
end Go.Proofs.YtcmkjjlchljffaaDoor

/- The given answer's disk: Append. -/
namespace Go.Proofs.YtcmkjjlchljffaaDoor
open Go.RowKit
set_option linter.unusedVariables false

theorem Row.same0 {w w' : World} {a : Option Addr} {bs : List UInt8} (h : Row w a bs) (e : bs ≠ [] → ∀ ad, a = some ad → w'.heap[ad.block]? = w.heap[ad.block]?) : Row w' a bs := by
  by_cases hb : bs = []
  · exact .inl hb
  · exact h.same (e hb)
theorem RowX.same0 {α : Type} {e : El α} {w w' : World} {a : Option Addr} {xs : List α} (h : RowX e w a xs) (k : xs ≠ [] → ∀ ad, a = some ad → w'.heap[ad.block]? = w.heap[ad.block]?) : RowX e w' a xs := by
  by_cases hb : xs = []
  · exact .inl hb
  · exact h.same (k hb)

def fil0 (nm : ByteArray) : Fi := ⟨nm, [], 0, false⟩
/-- The files among which a new one may stand. -/
def hasL (nm : ByteArray) (fs : List Fi) : List Fi := if (fs.find? (isN nm)).isNone then insL (fil0 nm) fs else fs
def apO (d : Dk) (nm : ByteArray) (b : List UInt8) : Dk × Int :=
  if nmOk nm = false then (d, 2) else if (d.fs.find? (isN nm) = none ∧ 256 ≤ d.fs.length) ∨ d.sz < usedL d.fs + b.length then (d, 8) else if d.lf = 0 then (d, 13)
  else ({ pwD d with fs := setL nm (fun f => { f with bs := f.bs ++ b }) (hasL nm d.fs) }, 0)
theorem isN_self (nm : ByteArray) (bs : List UInt8) (sf : Nat) (hd : Bool) : isN nm ⟨nm, bs, sf, hd⟩ = true := by simp [isN]
theorem insL_find {nm : ByteArray} : ∀ {fs : List Fi}, fs.find? (isN nm) = none → (insL (fil0 nm) fs).find? (isN nm) = some (fil0 nm)
  | [], _ => by rw [insL, List.find?_cons_of_pos (show isN nm (fil0 nm) = true from isN_self ..)]
  | f :: fs, h => by
    have h1 : isN nm f = false := by
      have := List.find?_eq_none.1 h f List.mem_cons_self
      simpa using this
    have h2 : fs.find? (isN nm) = none := by rw [List.find?_cons_of_neg (by rw [h1]; simp)] at h; exact h
    unfold insL
    split
    · rw [List.find?_cons_of_pos (show isN nm (fil0 nm) = true from isN_self ..)]
    · rw [List.find?_cons_of_neg (by rw [h1]; simp)]
      exact insL_find h2
theorem find_not_none {α : Type} {o : Option α} {f : α} (h : o = some f) : o ≠ none := by rw [h]; simp
set_option maxRecDepth 100000 in
set_option maxHeartbeats 12800000 in
theorem refAppend_any (B g : Nat) (W F : Nat → Prop) (d : Dk) (nm : ByteArray) (ba : Option Addr) (lb bc : Nat) (b : List UInt8) (w : World) (h : RD B w g W F d) (hd : Fine d) (hB : B ≤ w.heap.size) (hnm : nm.size ≤ 9223372036854775807)
    (hrow : Row w ba b) (hlb : lb = b.length) (bC : lb ≤ bc) (bN : ba = none → bc = 0) (hll : lb ≤ 1099511627776) (hap : b ≠ [] → ∀ ad, ba = some ad → ¬ W ad.block ∧ ad.block < w.heap.size) : Calls Tryd.prog 11 #[.pointer (some ⟨g, 0, none⟩), .string nm, .slice ba lb bc] w (PostD B g W F w (apO d nm b)) := by
  have HN := hidU (refName_any nm w hnm)
  have HC := hidU (refAt_any B g W F d nm w h (by have := hd.ln; omega))
  obtain ⟨R, hR⟩ : ∃ R, Hid (R = apO d nm b) := ⟨_, (rfl : _ = apO _ _ _)⟩
  rw [← hR.out]
  have hlb := hidU hlb
  cases hok : nmOk nm with
  | false =>
    rw [hok] at HN
    have e : R = (d, 2) := by rw [hR.out, apO, if_pos hok]
    subst e
    have HH := hidU h
    clear h hd hR hok hap hrow
    go_enter Tryd.func11, Tryd.ntmps11
    go_wp2_with (go_at_call 39; refine HN.mono ?_; rintro _ w1 ⟨rfl, hw⟩; obtain rfl : w = w1 := hw.symm; clear hw)
    go_ret
    exact ⟨rfl, W, F, HH.out, Moves.refl _ _ _⟩
  | true =>
  rw [hok] at HN
  have hR2 : Hid (R = if (d.fs.find? (isN nm) = none ∧ 256 ≤ d.fs.length) ∨ d.sz < usedL d.fs + b.length then (d, 8) else if d.lf = 0 then (d, 13) else ({ pwD d with fs := setL nm (fun f => { f with bs := f.bs ++ b }) (hasL nm d.fs) }, 0)) := by show R = _; rw [hR.out, apO, if_neg (by rw [hok]; simp)]
  clear hR hok
  have hH := h
  obtain ⟨v, ts, h⟩ := h
  obtain ⟨a, c, rfl, hc1, hlook⟩ := h.look
  obtain ⟨m, hm⟩ : ∃ n, Hid (n = ts.length) := ⟨_, (rfl : ts.length = _)⟩
  have cL := (hlook w (Below.refl _ _)).1
  rw [← hm.out] at cL hc1
  have hmd : m = d.fs.length := by rw [hm.out, h.len]
  obtain ⟨u, hu⟩ : ∃ n, n = usedL d.fs := ⟨_, rfl⟩
  obtain ⟨sz, hsz⟩ : ∃ n, n = d.sz := ⟨_, rfl⟩
  have cS := h.at_.cell 0
  simp only [List.getElem?_cons_zero] at cS
  rw [← hsz] at cS
  have HU : Hid (∀ q, Calls Tryd.prog 41 #[.pointer (some ⟨g, 0, none⟩)] (w.drewN q) fun r w' => r = .returned (.int .i64 (u : Int)) ∧ w' = w.drewN q) := fun q => by rw [hu]; exact refUsed_any B g W F d (w.drewN q) (hH.drewN q) (by have := hd.ln; omega) (by have := hd.us; have := hd.sz; omega)
  have hus : u ≤ 67108864 ∧ sz ≤ 67108864 ∧ m ≤ 256 := by rw [hu, hsz, hmd]; have := hd.us; have := hd.sz; have := hd.ln; exact ⟨by omega, by omega, by omega⟩
  obtain ⟨hus1, hus2, hus3⟩ := hus
  rw [← hmd, ← hu, ← hsz, ← hlb.out] at hR2
  have hsum : IntKind.i64.wrap ((u : Int) + (lb : Int)) = (u : Int) + (lb : Int) := by rw [IntKind.wrap_i64]; omega
  have hCalls : ∀ q, RDv B (w.drewN q) g W F (.slice a ts.length c) ts d := fun q => h.drewN q
  have HRow := hidU hrow
  have HAp := hidU hap
  clear hrow hap hlook
  cases hf : d.fs.find? (isN nm) with
  | none =>
    rw [atZ_none hf] at HC
    by_cases h256 : 256 ≤ m
    · have e : R = (d, 8) := by rw [hR2.out, if_pos (.inl ⟨hf, h256⟩)]
      subst e
      have HH := hidU hH
      have hdec : decide ((256 : Int) ≤ (m : Int)) = true := decide_eq_true (by omega)
      clear h hH hd hR2 hf hCalls hmd hu hsz hsum
      go_enter Tryd.func11, Tryd.ntmps11
      go_wp2_with (first | (go_at_call 39; refine HN.mono ?_; rintro _ w1 ⟨rfl, hw⟩; obtain rfl : w = w1 := hw.symm; clear hw) | (go_at_call 40; refine HC.mono ?_; rintro _ w1 ⟨rfl, hw⟩; obtain rfl : w = w1 := hw.symm; clear hw))
      go_quiet (fail)
      go_wp2
      go_ret
      exact ⟨rfl, W, F, HH.out.drewN _, Moves.of_below (below_drN (Below.refl _ _))⟩
    have hdec : decide ((256 : Int) ≤ (m : Int)) = false := decide_eq_false (by omega)
    have hnot : ¬ (d.fs.find? (isN nm) = none ∧ 256 ≤ m) := fun h => h256 h.2
    by_cases hbig : sz < u + lb
    · have e : R = (d, 8) := by rw [hR2.out, if_pos (.inr hbig)]
      subst e
      have HH := hidU hH
      have hgt : decide ((sz : Int) < (u : Int) + (lb : Int)) = true := decide_eq_true (by omega)
      clear h hH hd hR2 hf hCalls hmd hu hsz hnot
      go_enter Tryd.func11, Tryd.ntmps11
      go_wp2_with (first | (go_at_call 39; refine HN.mono ?_; rintro _ w1 ⟨rfl, hw⟩; obtain rfl : w = w1 := hw.symm; clear hw) | (go_at_call 40; refine HC.mono ?_; rintro _ w1 ⟨rfl, hw⟩; obtain rfl : w = w1 := hw.symm; clear hw))
      go_quiet ((go_at_call 41; exact Calls.quiet_of_same (HU.out _)))
      go_wp2
      go_ret
      exact ⟨rfl, W, F, HH.out.drewN _, Moves.of_below (below_drN (Below.refl _ _))⟩
    have hgt : decide ((sz : Int) < (u : Int) + (lb : Int)) = false := decide_eq_false (by omega)
    have hR4 : Hid (R = if d.lf = 0 then (d, 13) else ({ pwD d with fs := setL nm (fun f => { f with bs := f.bs ++ b }) (hasL nm d.fs) }, 0)) := by show R = _; rw [hR2.out, if_neg (fun q => q.elim hnot hbig)]
    clear hR2
    by_cases h0 : d.lf = 0
    · have e : R = (d, 13) := by rw [hR4.out, if_pos h0]
      subst e
      have HH := hidU hH
      have HP : Hid (∀ q, Calls Tryd.prog 42 #[.pointer (some ⟨g, 0, none⟩)] (w.drewN q) fun r w' => r = .returned (.bool false) ∧ w' = w.drewN q) := fun q => refPower_no B g W F d (w.drewN q) (hH.drewN q) h0
      clear h hH hd hR4 hf hCalls hmd hu hsz hnot h0
      go_enter Tryd.func11, Tryd.ntmps11
      go_wp2_with (first | (go_at_call 39; refine HN.mono ?_; rintro _ w1 ⟨rfl, hw⟩; obtain rfl : w = w1 := hw.symm; clear hw) | (go_at_call 40; refine HC.mono ?_; rintro _ w1 ⟨rfl, hw⟩; obtain rfl : w = w1 := hw.symm; clear hw))
      go_quiet ((go_at_call 41; exact Calls.quiet_of_same (HU.out _)))
      go_wp2_with (go_at_call 42; refine (HP.out _).mono ?_; rintro _ w2 ⟨rfl, hw2⟩; subst hw2)
      go_ret
      exact ⟨rfl, W, F, HH.out.drewN _, Moves.of_below (below_drN (Below.refl _ _))⟩
    have e : Hid (R = ({ pwD d with fs := setL nm (fun f => { f with bs := f.bs ++ b }) (hasL nm d.fs) }, 0)) := by show R = _; rw [hR4.out, if_neg h0]
    have HP : Hid (∀ q, Calls Tryd.prog 42 #[.pointer (some ⟨g, 0, none⟩)] (w.drewN q) fun r w' => r = .returned (.bool true) ∧ RDv B w' g W F (.slice a ts.length c) ts (pwD d) ∧ But g (w.drewN q) w' ∧ w'.heap.size = (w.drewN q).heap.size) := fun q => refPower_yes B g W F _ ts d (w.drewN q) (hCalls q) h0 hd.lf hd.lg hd.wr
    have hWg := h.wg
    have HD := hidU hd
    have he2 : R.2 = 0 := by rw [e.out]
    clear h hH hd hR4 hCalls hmd hu hsz hnot h0
    obtain ⟨t0, ht0⟩ : ∃ t0 : FT, t0 = ⟨nm, none, [], 0, 0, false⟩ := ⟨_, rfl⟩
    have hcells : t0.cells = [.string nm, .slice none 0 0, .int .i64 0, .bool false] := by rw [ht0]; rfl
    have HT0 := hidU ht0
    have HPu : Hid (∀ x, RDv B x g W F (.slice a ts.length c) ts (pwD d) → B ≤ x.heap.size → Calls Tryd.prog 43 #[.pointer (some ⟨g, 0, none⟩), .agg [Value.string nm, .slice none 0 0, .int .i64 0, .bool false].toArray] x fun r w' => r = .returned (.tuple #[]) ∧ ∃ v2, RDv B w' g (newW g v2) (newF F v2) v2 (insF t0 ts) (putD (pwD d) t0.fi) ∧ Moves x W F w' (newW g v2) (newF F v2)) := fun x hx hb => by
      rw [← hcells]
      exact refPut_any B g W F _ ts (pwD d) t0 x hx (by show d.fs.length ≤ _; have := HD.out.ln; omega) hb (by rw [HT0.out]; exact ⟨.inl rfl, (fun ad h => by cases h), Nat.le_refl _, fun _ => rfl⟩)
    clear hcells ht0
    go_enter Tryd.func11, Tryd.ntmps11
    go_wp2_with (first | (go_at_call 39; refine HN.mono ?_; rintro _ w1 ⟨rfl, hw⟩; obtain rfl : w = w1 := hw.symm; clear hw) | (go_at_call 40; refine HC.mono ?_; rintro _ w1 ⟨rfl, hw⟩; obtain rfl : w = w1 := hw.symm; clear hw))
    go_quiet ((go_at_call 41; exact Calls.quiet_of_same (HU.out _)))
    go_wp2_with (go_at_call 42; refine (HP.out _).mono ?_; rintro _ wp ⟨rfl, hp1, hbp, hsp⟩; refine Hid.out ?_)
    refine hidU ?_
    have hbp' : But g w wp := ⟨hbp.os, hbp.tape, hbp.output, hbp.size, hbp.block⟩
    have HPp := hidU (HPu.out wp hp1 (Nat.le_trans hB hbp'.size))
    have HMp : Hid (Moves w W F wp W F) := ⟨Chg.of_but hbp' hWg, fun _ h => .inl h, fun _ h => .inl h⟩
    clear hbp hsp hbp' HPu HP HU HN cL cS
    go_wp2_with (first | (refine wpList_build_at rfl 70 _ rfl [Value.string nm, .slice none 0 0, .int .i64 0, .bool false] (by kernel_rfl) ?_) | (go_at_call 43; refine HPp.mono ?_; rintro _ w1 ⟨rfl, v1, h1, m1⟩; refine Hid.out ?_))
    refine hidU ?_
    have hfi : t0.fi = fil0 nm := by rw [HT0.out]; rfl
    have HF : Hid ((putD (pwD d) t0.fi).fs.find? (isN nm) = some (fil0 nm)) := by rw [hfi]; exact insL_find hf
    obtain ⟨i, hi, _, _⟩ := atZ_some HF.out
    have hl1 : (putD (pwD d) t0.fi).fs.length ≤ 1048576 := by
      rw [← h1.fs, List.length_map]
      have := (Ga.len (i := ts.length) (b := true) (l := insF t0 ts) (ts := ts) (f := t0) ⟨fun h => (by cases h), fun _ => by simp⟩ (Nat.le_refl _))
      rw [← hm.out] at this
      omega
    have HC1 := hidU (refAt_any B g _ _ _ nm w1 ⟨_, _, h1⟩ hl1)
    rw [hi] at HC1
    have HI := hidU hi
    have HMw := hidU (HMp.out.trans m1)
    obtain ⟨W1, hW1⟩ : ∃ x, x = newW g v1 := ⟨_, rfl⟩
    obtain ⟨F1, hF1⟩ : ∃ x, x = newF F v1 := ⟨_, rfl⟩
    obtain ⟨d1, hd1⟩ : ∃ x, x = putD (pwD d) t0.fi := ⟨_, rfl⟩
    obtain ⟨ts1, hts1⟩ : ∃ x, x = insF t0 ts := ⟨_, rfl⟩
    rw [← hW1, ← hF1] at HMw h1
    rw [← hd1] at h1 HF HI
    rw [← hts1] at h1
    have HE : Hid (R.1 = { d1 with fs := setL nm (fun f => { f with bs := f.bs ++ b }) d1.fs }) := by
      show _ = _
      rw [e.out, hd1, hfi]
      have e9 : hasL nm d.fs = insL (fil0 nm) d.fs := by rw [hasL, hf]; rfl
      rw [e9]
      rfl
    have hm1 : ts1.length ≤ 1048576 := by rw [h1.len, hd1]; exact hl1
    have hfl : (fil0 nm).bs.length ≤ 67108864 := Nat.zero_le _
    obtain ⟨f1, hf1⟩ : ∃ x, x = fil0 nm := ⟨_, rfl⟩
    rw [← hf1] at HF hfl
    clear HPp HMp m1 hW1 hF1 hd1 hts1 hf1 hfi hl1 hi HT0 hp1 HC hf hm
    go_wp2_with (go_at_call 40; refine HC1.mono ?_; rintro _ w2 ⟨rfl, hw⟩; obtain rfl : w1 = w2 := hw.symm; clear hw)
    obtain ⟨i', k, c', t, cs, hi', ht', htf', hil, hv', hc', hA, hcs, q0, q1, q2, q3⟩ := h1.file (nm := nm) HF.out
    subst hv'
    obtain rfl : i = i' := by have := hi'.out; rw [HI.out] at this; omega
    have cL := h1.at_.cell 1
    simp only [List.getElem?_cons_succ, List.getElem?_cons_zero] at cL
    obtain ⟨m, hm⟩ : ∃ n, Hid (n = ts1.length) := ⟨_, (rfl : ts1.length = _)⟩
    rw [← hm.out] at cL hm1 hil hc'
    obtain ⟨ad, had⟩ : ∃ n, Hid (n = t.ad) := ⟨_, (rfl : t.ad = _)⟩
    obtain ⟨cp, hcp⟩ : ∃ n, Hid (n = t.cp) := ⟨_, (rfl : t.cp = _)⟩
    obtain ⟨n, hn⟩ : ∃ n, Hid (n = t.bs.length) := ⟨_, (rfl : t.bs.length = _)⟩
    have hnl : n ≤ 67108864 := by rw [hn.out]; have := htf'.out; rw [← this] at hfl; exact hfl
    have IN := h1.ins t (List.mem_of_getElem? ht'.out)
    have I3 := IN.2.2.1
    have I4 := IN.2.2.2
    rw [← hn.out, ← hcp.out] at I3
    rw [← had.out, ← hcp.out] at I4
    rw [← hn.out, ← had.out, ← hcp.out] at q1
    have HTi := ht'
    have HTf := htf'
    have H1 := hidU h1
    have HA := hidU hA
    have HCL : Hid (i * 4 + 3 < cs.length) := by show _ < _; rw [hcs.out]; omega
    have HRb : Hid (∀ x, Below w1.heap.size w1 x → RowX eB x ba b) := fun x hx => rowB.2 ((HRow.out.same0 fun hne ad ha => HMw.out.chg.block _ (HAp.out hne ad ha).2 (HAp.out hne ad ha).1).below hx)
    have HRw0 := hidU HRow
    clear HRow
    have HRow : Hid (∀ x, Below w1.heap.size w1 x → RowX eB x ad t.bs) := fun x hx => rowB.2 (IN.1.below hx |> (had.out ▸ ·))
    obtain ⟨c, hcc⟩ : ∃ x, x = c' := ⟨_, rfl⟩
    rw [← hcc] at cL hc' H1
    clear h1 hA hcs q0 q2 q3 hi' ht' htf' hcc HAp IN
    go_wp2
    have hS0a : Below w1.heap.size w1 w1.drew := Below.drew (Below.refl _ _)
    refine wp_region_S (S := fun xS => Below w1.heap.size w1 xS) (St := [19]) (by kernel_rfl) hS0a ?_
    obtain ⟨x0a, hx0⟩ : ∃ x, x = w1.drew := ⟨_, rfl⟩
    rw [← hx0] at hS0a  ⊢
    clear hx0
    intro hH
    refine wpAnyS_pure (i := 0) (oi := { dst := some 48, op := .move (.tmp 0), type := _, pos := _, after := _, guard := none }) (v := .pointer (some ⟨g, 0, none⟩)) rfl (by kernel_rfl) (by kernel_rfl) (by kernel_rfl) (by kernel_rfl) (fun _ _ _ h => h) (Or.inl ⟨by rfl, ?_⟩) hH (fun hH => ?_)
    · intro wS hSw
      go_simp
    simp only [Act.put, List.setIfInBounds_toArray, List.set_cons_zero, List.set_cons_succ]
    refine wpAnyS_pure (i := 1) (oi := { dst := some 49, op := .nilCheck (.tmp 48), type := _, pos := _, after := _, guard := none }) (v := .pointer (some ⟨g, 0, none⟩)) rfl (by kernel_rfl) (by kernel_rfl) (by kernel_rfl) (by kernel_rfl) (fun _ _ _ h => h) (Or.inl ⟨by rfl, ?_⟩) hH (fun hH => ?_)
    · intro wS hSw
      go_simp
    simp only [Act.put, List.setIfInBounds_toArray, List.set_cons_zero, List.set_cons_succ]
    refine wpAnyS_pure (i := 2) (oi := { dst := some 50, op := .fieldAddr 61 (.tmp 49) 1, type := _, pos := _, after := _, guard := none }) (v := .pointer (some ⟨g, 1, none⟩)) rfl (by kernel_rfl) (by kernel_rfl) (by kernel_rfl) (by kernel_rfl) (fun _ _ _ h => h) (Or.inl ⟨by rfl, ?_⟩) hH (fun hH => ?_)
    · intro wS hSw
      go_simp
    simp only [Act.put, List.setIfInBounds_toArray, List.set_cons_zero, List.set_cons_succ]
    refine wpAnyS_take [17, 18, 19] (i := 3) (oi := { dst := some 51, op := .load 59 (.tmp 50), type := _, pos := _, after := _, guard := none }) (v := .slice (some ⟨k, 0, none⟩) m c) rfl (by kernel_rfl) (by kernel_rfl) (by kernel_rfl) (by kernel_rfl) (by kernel_rfl) (by kernel_rfl) (by kernel_rfl) (fun _ _ _ h => h) (Or.inl ⟨by rfl, ?_⟩) hH (fun hH => ?_)
    · intro wS hSw
      have z0 := (hSw.cell (lt_of_cell cL)).trans cL
      go_simp
    simp only [Act.put, List.setIfInBounds_toArray, List.set_cons_zero, List.set_cons_succ]
    refine wpAnyS_pure (i := 4) (oi := { dst := some 52, op := .move (.tmp 7), type := _, pos := _, after := _, guard := none }) (v := .int .i64 (i : Int)) rfl (by kernel_rfl) (by kernel_rfl) (by kernel_rfl) (by kernel_rfl) (fun _ _ _ h => h) (Or.inl ⟨by rfl, ?_⟩) hH (fun hH => ?_)
    · intro wS hSw
      go_simp
    simp only [Act.put, List.setIfInBounds_toArray, List.set_cons_zero, List.set_cons_succ]
    refine wpAnyS_pure (i := 6) (oi := { dst := some 54, op := .move (.tmp 0), type := _, pos := _, after := _, guard := none }) (v := .pointer (some ⟨g, 0, none⟩)) rfl (by kernel_rfl) (by kernel_rfl) (by kernel_rfl) (by kernel_rfl) (fun _ _ _ h => h) (Or.inl ⟨by rfl, ?_⟩) hH (fun hH => ?_)
    · intro wS hSw
      go_simp
    simp only [Act.put, List.setIfInBounds_toArray, List.set_cons_zero, List.set_cons_succ]
    refine wpAnyS_pure (i := 7) (oi := { dst := some 55, op := .nilCheck (.tmp 54), type := _, pos := _, after := _, guard := none }) (v := .pointer (some ⟨g, 0, none⟩)) rfl (by kernel_rfl) (by kernel_rfl) (by kernel_rfl) (by kernel_rfl) (fun _ _ _ h => h) (Or.inl ⟨by rfl, ?_⟩) hH (fun hH => ?_)
    · intro wS hSw
      go_simp
    simp only [Act.put, List.setIfInBounds_toArray, List.set_cons_zero, List.set_cons_succ]
    refine wpAnyS_pure (i := 8) (oi := { dst := some 56, op := .fieldAddr 61 (.tmp 55) 1, type := _, pos := _, after := _, guard := none }) (v := .pointer (some ⟨g, 1, none⟩)) rfl (by kernel_rfl) (by kernel_rfl) (by kernel_rfl) (by kernel_rfl) (fun _ _ _ h => h) (Or.inl ⟨by rfl, ?_⟩) hH (fun hH => ?_)
    · intro wS hSw
      go_simp
    simp only [Act.put, List.setIfInBounds_toArray, List.set_cons_zero, List.set_cons_succ]
    refine wpAnyS_take [11, 12, 13, 14, 16, 17, 18, 19] (i := 9) (oi := { dst := some 57, op := .load 59 (.tmp 56), type := _, pos := _, after := _, guard := none }) (v := .slice (some ⟨k, 0, none⟩) m c) rfl (by kernel_rfl) (by kernel_rfl) (by kernel_rfl) (by kernel_rfl) (by kernel_rfl) (by kernel_rfl) (by kernel_rfl) (fun _ _ _ h => h) (Or.inl ⟨by rfl, ?_⟩) hH (fun hH => ?_)
    · intro wS hSw
      have z0 := (hSw.cell (lt_of_cell cL)).trans cL
      go_simp
    simp only [Act.put, List.setIfInBounds_toArray, List.set_cons_zero, List.set_cons_succ]
    refine wpAnyS_pure (i := 10) (oi := { dst := some 58, op := .move (.tmp 7), type := _, pos := _, after := _, guard := none }) (v := .int .i64 (i : Int)) rfl (by kernel_rfl) (by kernel_rfl) (by kernel_rfl) (by kernel_rfl) (fun _ _ _ h => h) (Or.inl ⟨by rfl, ?_⟩) hH (fun hH => ?_)
    · intro wS hSw
      go_simp
    simp only [Act.put, List.setIfInBounds_toArray, List.set_cons_zero, List.set_cons_succ]
    refine wpAnyS_pure (i := 11) (oi := { dst := some 59, op := .indexAddr 59 (.tmp 57) (.tmp 58), type := _, pos := _, after := _, guard := none }) (v := .pointer (some ⟨k, i * 4, none⟩)) rfl (by kernel_rfl) (by kernel_rfl) (by kernel_rfl) (by kernel_rfl) (fun _ _ _ h => h) (Or.inl ⟨by rfl, ?_⟩) hH (fun hH => ?_)
    · intro wS hSw
      go_simp
    simp only [Act.put, List.setIfInBounds_toArray, List.set_cons_zero, List.set_cons_succ]
    refine wpAnyS_pure (i := 12) (oi := { dst := some 60, op := .fieldAddr 70 (.tmp 59) 1, type := _, pos := _, after := _, guard := none }) (v := .pointer (some ⟨k, i * 4 + 1, none⟩)) rfl (by kernel_rfl) (by kernel_rfl) (by kernel_rfl) (by kernel_rfl) (fun _ _ _ h => h) (Or.inl ⟨by rfl, ?_⟩) hH (fun hH => ?_)
    · intro wS hSw
      go_simp
    simp only [Act.put, List.setIfInBounds_toArray, List.set_cons_zero, List.set_cons_succ]
    refine wpAnyS_take [14, 16, 17, 18, 19] (i := 13) (oi := { dst := some 61, op := .load 29 (.tmp 60), type := _, pos := _, after := _, guard := none }) (v := .slice ad n cp) rfl (by kernel_rfl) (by kernel_rfl) (by kernel_rfl) (by kernel_rfl) (by kernel_rfl) (by kernel_rfl) (by kernel_rfl) (fun _ _ _ h => h) (Or.inl ⟨by rfl, ?_⟩) hH (fun hH => ?_)
    · intro wS hSw
      have z0 := (hSw.cell (lt_of_cell q1)).trans q1
      go_simp
    simp only [Act.put, List.setIfInBounds_toArray, List.set_cons_zero, List.set_cons_succ]
    refine wpAnyS_pure (i := 15) (oi := { dst := some 63, op := .move (.tmp 2), type := _, pos := _, after := _, guard := none }) (v := .slice ba lb bc) rfl (by kernel_rfl) (by kernel_rfl) (by kernel_rfl) (by kernel_rfl) (fun _ _ _ h => h) (Or.inl ⟨by rfl, ?_⟩) hH (fun hH => ?_)
    · intro wS hSw
      go_simp
    simp only [Act.put, List.setIfInBounds_toArray, List.set_cons_zero, List.set_cons_succ]
    refine wpAnyS_ready (rs := [5]) (by kernel_rfl) (by simp) ?_
    refine AllReadyS.cons (o := { dst := some 53, op := .buildSlice 29 0 #[], type := _, pos := _, after := _, guard := none }) rfl (fun K hK => ?_) AllReadyS.nil
    rw [if_pos (by rfl)]
    refine wp_layB0 rfl ?_
    intro x1a ho1a hb1a hs1a
    have hz1a : x0a.heap.size ≤ x1a.heap.size := hb1a.size
    have hS1a := hS0a.trans (hb1a.mono hS0a.size)
    refine hK.out _ _ (Hold.of hS1a) (fun hH => ?_)
    clear hK K
    refine wpAnyS_ready (rs := [14]) (by kernel_rfl) (by simp) ?_
    refine AllReadyS.cons (o := { dst := some 62, op := .call { callee := .builtin .append, args := #[.tmp 53, .tmp 61], argTypes := #[29, 29] }, type := _, pos := _, after := _, guard := none }) rfl (fun K hK => ?_) AllReadyS.nil
    rw [if_pos (by rfl)]
    refine wp_appX eB (.tmp 53) (.tmp 61) rfl x0a.heap.size _ ad n cp rfl rfl ho1a hn.out.symm I4 I3 (HRow.out x1a hS1a) (by rw [List.length_nil]; unfold maxLen; omega) (by rw [List.length_nil]; show (0 + n) * 1 ≤ _; omega) (by have := hS1a.size; have := (hz1a : x0a.heap.size ≤ x1a.heap.size); omega) ?_
    intro v2a x2a ho2a hg2a
    have hz2a : x0a.heap.size ≤ x2a.heap.size := Nat.le_trans hz1a hg2a.size
    have hS2a := Below.grown hS1a hg2a hS1a.size (fun q hq => Nat.le_trans hS0a.size (ho1a.block q hq).1)
    refine hK.out _ _ (Hold.of hS2a) (fun hH => ?_)
    clear hK K
    refine wpAnyS_ready (rs := [16]) (by kernel_rfl) (by simp) ?_
    refine AllReadyS.cons (o := { dst := some 64, op := .call { callee := .builtin .append, args := #[.tmp 62, .tmp 63], argTypes := #[29, 29] }, type := _, pos := _, after := _, guard := none }) rfl (fun K hK => ?_) AllReadyS.nil
    rw [if_pos (by rfl)]
    refine wp_appX eB (.tmp 62) (.tmp 63) rfl x0a.heap.size _ ba lb bc rfl rfl ho2a hlb.out.symm bN bC (HRb.out x2a hS2a) (by rw [List.nil_append, ← hn.out]; unfold maxLen; omega) (by rw [List.nil_append, ← hn.out]; show (n + lb) * 1 ≤ _; omega) (by have := hS2a.size; have := (hz2a : x0a.heap.size ≤ x2a.heap.size); omega) ?_
    intro v3a x3a ho3a hg3a
    have hz3a : x0a.heap.size ≤ x3a.heap.size := Nat.le_trans hz2a hg3a.size
    have hS3a := Below.grown hS2a hg3a hS2a.size (fun q hq => Nat.le_trans hS0a.size (ho2a.block q hq).1)
    refine hK.out _ _ (Hold.of hS3a) (fun hH => ?_)
    clear hK K
    refine wpAnyS_pure (i := 17) (oi := { dst := some 65, op := .indexAddr 59 (.tmp 51) (.tmp 52), type := _, pos := _, after := _, guard := none }) (v := .pointer (some ⟨k, i * 4, none⟩)) rfl (by kernel_rfl) (by kernel_rfl) (by kernel_rfl) (by kernel_rfl) (fun _ _ _ h => h) (Or.inl ⟨by rfl, ?_⟩) hH (fun hH => ?_)
    · intro wS hSw
      go_simp
    simp only [Act.put, List.setIfInBounds_toArray, List.set_cons_zero, List.set_cons_succ]
    refine wpAnyS_pure (i := 18) (oi := { dst := some 66, op := .fieldAddr 70 (.tmp 65) 1, type := _, pos := _, after := _, guard := none }) (v := .pointer (some ⟨k, i * 4 + 1, none⟩)) rfl (by kernel_rfl) (by kernel_rfl) (by kernel_rfl) (by kernel_rfl) (fun _ _ _ h => h) (Or.inl ⟨by rfl, ?_⟩) hH (fun hH => ?_)
    · intro wS hSw
      go_simp
    simp only [Act.put, List.setIfInBounds_toArray, List.set_cons_zero, List.set_cons_succ]
    refine wpAnyS_ready (rs := [19]) (by kernel_rfl) (by simp) ?_
    refine AllReadyS.cons (o := { dst := none, op := .store 29 (.tmp 66) (.tmp 64), type := _, pos := _, after := _, guard := none }) rfl (fun K hK => ?_) AllReadyS.nil
    rw [if_pos (by rfl)]
    obtain ⟨hv1, hv2⟩ := ho3a.cells
    refine wp_store_one 29 (.tmp 66) (.tmp 64) rfl k (i * 4 + 1) v3a rfl rfl 70 _ (HA.out.below hS3a) (by have := HCL.out; omega) i30 hv1 hv2 ?_
    intro x4a hA4a hb4a hs4a
    refine hK.out _ _ (Hold.over (s := 19) (by decide) (by rfl)) (fun hH => ?_)
    clear hK K
    refine wpAnyS_done (by kernel_rfl) ?_ _
    simp only [Act.put]
    obtain ⟨t1, b1, b2, b3, b4, H3, M3⟩ := H1.out.bytes HA.out HTi.out hS0a.size hS3a ho3a hA4a hb4a
    rw [List.nil_append] at b1
    have H4 : Hid (RDv B x4a g W1 (newF F1 v3a) (.slice (some ⟨k, 0, none⟩) (ts1.set i t1).length c) (ts1.set i t1) R.1) := by
      have e3 : R.1 = { d1 with fs := (ts1.set i t1).map FT.fi } := by
        rw [HE.out, setL_at HF.out HI.out, List.map_set, H1.out.fs, ← HTf.out]
        simp only [FT.fi, b1, b2, b3, b4]
      show RDv _ _ _ _ _ _ _ _
      rw [e3]
      exact H3
    have HM4 := hidU (HMw.out.trans M3)
    clear cL q1 hA4a hb4a hs4a hS0a hS1a hS2a hS3a hH ho1a ho2a ho3a hg2a hg3a hb1a hs1a hz1a hz2a hz3a hv1 hv2 H3 M3 HRow HA H1
    go_wp2
    go_ret
    refine ⟨?_, W1, _, ⟨_, _, H4.out⟩, HM4.out⟩
    rw [he2]
    rfl
  | some f =>
    obtain ⟨i, hi, hfi, _⟩ := atZ_some hf
    rw [hi] at HC
    have hnot : ¬ (d.fs.find? (isN nm) = none ∧ 256 ≤ m) := fun h => find_not_none hf h.1
    have hdi : decide ((i : Int) < 0) = false := decide_eq_false (by omega)
    by_cases hbig : sz < u + lb
    · have e : R = (d, 8) := by rw [hR2.out, if_pos (.inr hbig)]
      subst e
      have HH := hidU hH
      have hgt : decide ((sz : Int) < (u : Int) + (lb : Int)) = true := decide_eq_true (by omega)
      clear h hH hd hR2 hf hCalls hmd hu hsz hnot
      go_enter Tryd.func11, Tryd.ntmps11
      go_wp2_with (first | (go_at_call 39; refine HN.mono ?_; rintro _ w1 ⟨rfl, hw⟩; obtain rfl : w = w1 := hw.symm; clear hw) | (go_at_call 40; refine HC.mono ?_; rintro _ w1 ⟨rfl, hw⟩; obtain rfl : w = w1 := hw.symm; clear hw))
      go_quiet ((go_at_call 41; exact Calls.quiet_of_same (HU.out _)))
      go_wp2
      go_ret
      exact ⟨rfl, W, F, HH.out.drewN _, Moves.of_below (below_drN (Below.refl _ _))⟩
    have hgt : decide ((sz : Int) < (u : Int) + (lb : Int)) = false := decide_eq_false (by omega)
    have hR4 : Hid (R = if d.lf = 0 then (d, 13) else ({ pwD d with fs := setL nm (fun f => { f with bs := f.bs ++ b }) (hasL nm d.fs) }, 0)) := by show R = _; rw [hR2.out, if_neg (fun q => q.elim hnot hbig)]
    clear hR2
    by_cases h0 : d.lf = 0
    · have e : R = (d, 13) := by rw [hR4.out, if_pos h0]
      subst e
      have HH := hidU hH
      have HP : Hid (∀ q, Calls Tryd.prog 42 #[.pointer (some ⟨g, 0, none⟩)] (w.drewN q) fun r w' => r = .returned (.bool false) ∧ w' = w.drewN q) := fun q => refPower_no B g W F d (w.drewN q) (hH.drewN q) h0
      clear h hH hd hR4 hf hCalls hmd hu hsz hnot h0
      go_enter Tryd.func11, Tryd.ntmps11
      go_wp2_with (first | (go_at_call 39; refine HN.mono ?_; rintro _ w1 ⟨rfl, hw⟩; obtain rfl : w = w1 := hw.symm; clear hw) | (go_at_call 40; refine HC.mono ?_; rintro _ w1 ⟨rfl, hw⟩; obtain rfl : w = w1 := hw.symm; clear hw))
      go_quiet ((go_at_call 41; exact Calls.quiet_of_same (HU.out _)))
      go_wp2_with (go_at_call 42; refine (HP.out _).mono ?_; rintro _ w2 ⟨rfl, hw2⟩; subst hw2)
      go_ret
      exact ⟨rfl, W, F, HH.out.drewN _, Moves.of_below (below_drN (Below.refl _ _))⟩
    have e : Hid (R = ({ pwD d with fs := setL nm (fun f => { f with bs := f.bs ++ b }) (hasL nm d.fs) }, 0)) := by show R = _; rw [hR4.out, if_neg h0]
    have HP : Hid (∀ q, Calls Tryd.prog 42 #[.pointer (some ⟨g, 0, none⟩)] (w.drewN q) fun r w' => r = .returned (.bool true) ∧ RDv B w' g W F (.slice a ts.length c) ts (pwD d) ∧ But g (w.drewN q) w' ∧ w'.heap.size = (w.drewN q).heap.size) := fun q => refPower_yes B g W F _ ts d (w.drewN q) (hCalls q) h0 hd.lf hd.lg hd.wr
    have hWg := h.wg
    have HD := hidU hd
    have he2 : R.2 = 0 := by rw [e.out]
    clear h hH hd hR4 hCalls hmd hu hsz hnot h0
    have hfl : f.bs.length ≤ 67108864 := by have := mem_used (List.mem_of_getElem? hfi); have := HD.out.us; have := HD.out.sz; omega
    have HF0 := hidU hf
    have HI0 := hidU hi
    clear hfi
    go_enter Tryd.func11, Tryd.ntmps11
    go_wp2_with (first | (go_at_call 39; refine HN.mono ?_; rintro _ w1 ⟨rfl, hw⟩; obtain rfl : w = w1 := hw.symm; clear hw) | (go_at_call 40; refine HC.mono ?_; rintro _ w1 ⟨rfl, hw⟩; obtain rfl : w = w1 := hw.symm; clear hw))
    go_quiet ((go_at_call 41; exact Calls.quiet_of_same (HU.out _)))
    go_wp2_with (go_at_call 42; refine (HP.out _).mono ?_; rintro _ w1 ⟨rfl, h1, hbp, hsp⟩; refine Hid.out ?_)
    refine hidU ?_
    have hbp' : But g w w1 := ⟨hbp.os, hbp.tape, hbp.output, hbp.size, hbp.block⟩
    have HMw : Hid (Moves w W F w1 W F) := ⟨Chg.of_but hbp' hWg, fun _ h => .inl h, fun _ h => .inl h⟩
    obtain ⟨W1, hW1⟩ : ∃ x, x = W := ⟨_, rfl⟩
    obtain ⟨F1, hF1⟩ : ∃ x, x = F := ⟨_, rfl⟩
    obtain ⟨d1, hd1⟩ : ∃ x, x = pwD d := ⟨_, rfl⟩
    obtain ⟨ts1, hts1⟩ : ∃ x, x = ts := ⟨_, rfl⟩
    have HMw' : Hid (Moves w W F w1 W1 F1) := by rw [hW1, hF1]; exact HMw
    rw [← hd1, ← hts1] at h1
    obtain ⟨v1, hv1⟩ : ∃ x, x = Value.slice a ts1.length c := ⟨_, rfl⟩
    rw [← hv1] at h1
    have h1' : RDv B w1 g W1 F1 v1 ts1 d1 := by rw [hW1, hF1]; exact h1
    have HF : Hid (d1.fs.find? (isN nm) = some f) := by rw [hd1]; exact HF0
    have HI : Hid (atZ d1.fs nm = (i : Int)) := by rw [hd1]; exact HI0
    have HE : Hid (R.1 = { d1 with fs := setL nm (fun f => { f with bs := f.bs ++ b }) d1.fs }) := by
      show _ = _
      rw [e.out, hd1]
      have e9 : hasL nm d.fs = d.fs := by rw [hasL, HF0.out]; rfl
      rw [e9]
      rfl
    have hm1 : ts1.length ≤ 1048576 := by rw [h1.len, hd1]; have := HD.out.ln; show d.fs.length ≤ _; omega
    clear hbp hsp hbp' HP HU HN cL cS HMw h1 hW1 hF1 hd1 hts1 hv1 hf hi HF0 HI0 HC hm
    have h1 := h1'
    have HMw := HMw'
    obtain ⟨f1, hf1⟩ : ∃ x, x = f := ⟨_, rfl⟩
    rw [← hf1] at HF hfl
    clear h1' HMw' hf1
    go_wp2
    obtain ⟨i', k, c', t, cs, hi', ht', htf', hil, hv', hc', hA, hcs, q0, q1, q2, q3⟩ := h1.file (nm := nm) HF.out
    subst hv'
    obtain rfl : i = i' := by have := hi'.out; rw [HI.out] at this; omega
    have cL := h1.at_.cell 1
    simp only [List.getElem?_cons_succ, List.getElem?_cons_zero] at cL
    obtain ⟨m, hm⟩ : ∃ n, Hid (n = ts1.length) := ⟨_, (rfl : ts1.length = _)⟩
    rw [← hm.out] at cL hm1 hil hc'
    obtain ⟨ad, had⟩ : ∃ n, Hid (n = t.ad) := ⟨_, (rfl : t.ad = _)⟩
    obtain ⟨cp, hcp⟩ : ∃ n, Hid (n = t.cp) := ⟨_, (rfl : t.cp = _)⟩
    obtain ⟨n, hn⟩ : ∃ n, Hid (n = t.bs.length) := ⟨_, (rfl : t.bs.length = _)⟩
    have hnl : n ≤ 67108864 := by rw [hn.out]; have := htf'.out; rw [← this] at hfl; exact hfl
    have IN := h1.ins t (List.mem_of_getElem? ht'.out)
    have I3 := IN.2.2.1
    have I4 := IN.2.2.2
    rw [← hn.out, ← hcp.out] at I3
    rw [← had.out, ← hcp.out] at I4
    rw [← hn.out, ← had.out, ← hcp.out] at q1
    have HTi := ht'
    have HTf := htf'
    have H1 := hidU h1
    have HA := hidU hA
    have HCL : Hid (i * 4 + 3 < cs.length) := by show _ < _; rw [hcs.out]; omega
    have HRb : Hid (∀ x, Below w1.heap.size w1 x → RowX eB x ba b) := fun x hx => rowB.2 ((HRow.out.same0 fun hne ad ha => HMw.out.chg.block _ (HAp.out hne ad ha).2 (HAp.out hne ad ha).1).below hx)
    have HRw0 := hidU HRow
    clear HRow
    have HRow : Hid (∀ x, Below w1.heap.size w1 x → RowX eB x ad t.bs) := fun x hx => rowB.2 (IN.1.below hx |> (had.out ▸ ·))
    obtain ⟨c, hcc⟩ : ∃ x, x = c' := ⟨_, rfl⟩
    rw [← hcc] at cL hc' H1
    clear h1 hA hcs q0 q2 q3 hi' ht' htf' hcc HAp IN
    go_wp2
    have hS0a : Below w1.heap.size w1 w1.drew := Below.drew (Below.refl _ _)
    refine wp_region_S (S := fun xS => Below w1.heap.size w1 xS) (St := [19]) (by kernel_rfl) hS0a ?_
    obtain ⟨x0a, hx0⟩ : ∃ x, x = w1.drew := ⟨_, rfl⟩
    rw [← hx0] at hS0a  ⊢
    clear hx0
    intro hH
    refine wpAnyS_pure (i := 0) (oi := { dst := some 48, op := .move (.tmp 0), type := _, pos := _, after := _, guard := none }) (v := .pointer (some ⟨g, 0, none⟩)) rfl (by kernel_rfl) (by kernel_rfl) (by kernel_rfl) (by kernel_rfl) (fun _ _ _ h => h) (Or.inl ⟨by rfl, ?_⟩) hH (fun hH => ?_)
    · intro wS hSw
      go_simp
    simp only [Act.put, List.setIfInBounds_toArray, List.set_cons_zero, List.set_cons_succ]
    refine wpAnyS_pure (i := 1) (oi := { dst := some 49, op := .nilCheck (.tmp 48), type := _, pos := _, after := _, guard := none }) (v := .pointer (some ⟨g, 0, none⟩)) rfl (by kernel_rfl) (by kernel_rfl) (by kernel_rfl) (by kernel_rfl) (fun _ _ _ h => h) (Or.inl ⟨by rfl, ?_⟩) hH (fun hH => ?_)
    · intro wS hSw
      go_simp
    simp only [Act.put, List.setIfInBounds_toArray, List.set_cons_zero, List.set_cons_succ]
    refine wpAnyS_pure (i := 2) (oi := { dst := some 50, op := .fieldAddr 61 (.tmp 49) 1, type := _, pos := _, after := _, guard := none }) (v := .pointer (some ⟨g, 1, none⟩)) rfl (by kernel_rfl) (by kernel_rfl) (by kernel_rfl) (by kernel_rfl) (fun _ _ _ h => h) (Or.inl ⟨by rfl, ?_⟩) hH (fun hH => ?_)
    · intro wS hSw
      go_simp
    simp only [Act.put, List.setIfInBounds_toArray, List.set_cons_zero, List.set_cons_succ]
    refine wpAnyS_take [17, 18, 19] (i := 3) (oi := { dst := some 51, op := .load 59 (.tmp 50), type := _, pos := _, after := _, guard := none }) (v := .slice (some ⟨k, 0, none⟩) m c) rfl (by kernel_rfl) (by kernel_rfl) (by kernel_rfl) (by kernel_rfl) (by kernel_rfl) (by kernel_rfl) (by kernel_rfl) (fun _ _ _ h => h) (Or.inl ⟨by rfl, ?_⟩) hH (fun hH => ?_)
    · intro wS hSw
      have z0 := (hSw.cell (lt_of_cell cL)).trans cL
      go_simp
    simp only [Act.put, List.setIfInBounds_toArray, List.set_cons_zero, List.set_cons_succ]
    refine wpAnyS_pure (i := 4) (oi := { dst := some 52, op := .move (.tmp 7), type := _, pos := _, after := _, guard := none }) (v := .int .i64 (i : Int)) rfl (by kernel_rfl) (by kernel_rfl) (by kernel_rfl) (by kernel_rfl) (fun _ _ _ h => h) (Or.inl ⟨by rfl, ?_⟩) hH (fun hH => ?_)
    · intro wS hSw
      go_simp
    simp only [Act.put, List.setIfInBounds_toArray, List.set_cons_zero, List.set_cons_succ]
    refine wpAnyS_pure (i := 6) (oi := { dst := some 54, op := .move (.tmp 0), type := _, pos := _, after := _, guard := none }) (v := .pointer (some ⟨g, 0, none⟩)) rfl (by kernel_rfl) (by kernel_rfl) (by kernel_rfl) (by kernel_rfl) (fun _ _ _ h => h) (Or.inl ⟨by rfl, ?_⟩) hH (fun hH => ?_)
    · intro wS hSw
      go_simp
    simp only [Act.put, List.setIfInBounds_toArray, List.set_cons_zero, List.set_cons_succ]
    refine wpAnyS_pure (i := 7) (oi := { dst := some 55, op := .nilCheck (.tmp 54), type := _, pos := _, after := _, guard := none }) (v := .pointer (some ⟨g, 0, none⟩)) rfl (by kernel_rfl) (by kernel_rfl) (by kernel_rfl) (by kernel_rfl) (fun _ _ _ h => h) (Or.inl ⟨by rfl, ?_⟩) hH (fun hH => ?_)
    · intro wS hSw
      go_simp
    simp only [Act.put, List.setIfInBounds_toArray, List.set_cons_zero, List.set_cons_succ]
    refine wpAnyS_pure (i := 8) (oi := { dst := some 56, op := .fieldAddr 61 (.tmp 55) 1, type := _, pos := _, after := _, guard := none }) (v := .pointer (some ⟨g, 1, none⟩)) rfl (by kernel_rfl) (by kernel_rfl) (by kernel_rfl) (by kernel_rfl) (fun _ _ _ h => h) (Or.inl ⟨by rfl, ?_⟩) hH (fun hH => ?_)
    · intro wS hSw
      go_simp
    simp only [Act.put, List.setIfInBounds_toArray, List.set_cons_zero, List.set_cons_succ]
    refine wpAnyS_take [11, 12, 13, 14, 16, 17, 18, 19] (i := 9) (oi := { dst := some 57, op := .load 59 (.tmp 56), type := _, pos := _, after := _, guard := none }) (v := .slice (some ⟨k, 0, none⟩) m c) rfl (by kernel_rfl) (by kernel_rfl) (by kernel_rfl) (by kernel_rfl) (by kernel_rfl) (by kernel_rfl) (by kernel_rfl) (fun _ _ _ h => h) (Or.inl ⟨by rfl, ?_⟩) hH (fun hH => ?_)
    · intro wS hSw
      have z0 := (hSw.cell (lt_of_cell cL)).trans cL
      go_simp
    simp only [Act.put, List.setIfInBounds_toArray, List.set_cons_zero, List.set_cons_succ]
    refine wpAnyS_pure (i := 10) (oi := { dst := some 58, op := .move (.tmp 7), type := _, pos := _, after := _, guard := none }) (v := .int .i64 (i : Int)) rfl (by kernel_rfl) (by kernel_rfl) (by kernel_rfl) (by kernel_rfl) (fun _ _ _ h => h) (Or.inl ⟨by rfl, ?_⟩) hH (fun hH => ?_)
    · intro wS hSw
      go_simp
    simp only [Act.put, List.setIfInBounds_toArray, List.set_cons_zero, List.set_cons_succ]
    refine wpAnyS_pure (i := 11) (oi := { dst := some 59, op := .indexAddr 59 (.tmp 57) (.tmp 58), type := _, pos := _, after := _, guard := none }) (v := .pointer (some ⟨k, i * 4, none⟩)) rfl (by kernel_rfl) (by kernel_rfl) (by kernel_rfl) (by kernel_rfl) (fun _ _ _ h => h) (Or.inl ⟨by rfl, ?_⟩) hH (fun hH => ?_)
    · intro wS hSw
      go_simp
    simp only [Act.put, List.setIfInBounds_toArray, List.set_cons_zero, List.set_cons_succ]
    refine wpAnyS_pure (i := 12) (oi := { dst := some 60, op := .fieldAddr 70 (.tmp 59) 1, type := _, pos := _, after := _, guard := none }) (v := .pointer (some ⟨k, i * 4 + 1, none⟩)) rfl (by kernel_rfl) (by kernel_rfl) (by kernel_rfl) (by kernel_rfl) (fun _ _ _ h => h) (Or.inl ⟨by rfl, ?_⟩) hH (fun hH => ?_)
    · intro wS hSw
      go_simp
    simp only [Act.put, List.setIfInBounds_toArray, List.set_cons_zero, List.set_cons_succ]
    refine wpAnyS_take [14, 16, 17, 18, 19] (i := 13) (oi := { dst := some 61, op := .load 29 (.tmp 60), type := _, pos := _, after := _, guard := none }) (v := .slice ad n cp) rfl (by kernel_rfl) (by kernel_rfl) (by kernel_rfl) (by kernel_rfl) (by kernel_rfl) (by kernel_rfl) (by kernel_rfl) (fun _ _ _ h => h) (Or.inl ⟨by rfl, ?_⟩) hH (fun hH => ?_)
    · intro wS hSw
      have z0 := (hSw.cell (lt_of_cell q1)).trans q1
      go_simp
    simp only [Act.put, List.setIfInBounds_toArray, List.set_cons_zero, List.set_cons_succ]
    refine wpAnyS_pure (i := 15) (oi := { dst := some 63, op := .move (.tmp 2), type := _, pos := _, after := _, guard := none }) (v := .slice ba lb bc) rfl (by kernel_rfl) (by kernel_rfl) (by kernel_rfl) (by kernel_rfl) (fun _ _ _ h => h) (Or.inl ⟨by rfl, ?_⟩) hH (fun hH => ?_)
    · intro wS hSw
      go_simp
    simp only [Act.put, List.setIfInBounds_toArray, List.set_cons_zero, List.set_cons_succ]
    refine wpAnyS_ready (rs := [5]) (by kernel_rfl) (by simp) ?_
    refine AllReadyS.cons (o := { dst := some 53, op := .buildSlice 29 0 #[], type := _, pos := _, after := _, guard := none }) rfl (fun K hK => ?_) AllReadyS.nil
    rw [if_pos (by rfl)]
    refine wp_layB0 rfl ?_
    intro x1a ho1a hb1a hs1a
    have hz1a : x0a.heap.size ≤ x1a.heap.size := hb1a.size
    have hS1a := hS0a.trans (hb1a.mono hS0a.size)
    refine hK.out _ _ (Hold.of hS1a) (fun hH => ?_)
    clear hK K
    refine wpAnyS_ready (rs := [14]) (by kernel_rfl) (by simp) ?_
    refine AllReadyS.cons (o := { dst := some 62, op := .call { callee := .builtin .append, args := #[.tmp 53, .tmp 61], argTypes := #[29, 29] }, type := _, pos := _, after := _, guard := none }) rfl (fun K hK => ?_) AllReadyS.nil
    rw [if_pos (by rfl)]
    refine wp_appX eB (.tmp 53) (.tmp 61) rfl x0a.heap.size _ ad n cp rfl rfl ho1a hn.out.symm I4 I3 (HRow.out x1a hS1a) (by rw [List.length_nil]; unfold maxLen; omega) (by rw [List.length_nil]; show (0 + n) * 1 ≤ _; omega) (by have := hS1a.size; have := (hz1a : x0a.heap.size ≤ x1a.heap.size); omega) ?_
    intro v2a x2a ho2a hg2a
    have hz2a : x0a.heap.size ≤ x2a.heap.size := Nat.le_trans hz1a hg2a.size
    have hS2a := Below.grown hS1a hg2a hS1a.size (fun q hq => Nat.le_trans hS0a.size (ho1a.block q hq).1)
    refine hK.out _ _ (Hold.of hS2a) (fun hH => ?_)
    clear hK K
    refine wpAnyS_ready (rs := [16]) (by kernel_rfl) (by simp) ?_
    refine AllReadyS.cons (o := { dst := some 64, op := .call { callee := .builtin .append, args := #[.tmp 62, .tmp 63], argTypes := #[29, 29] }, type := _, pos := _, after := _, guard := none }) rfl (fun K hK => ?_) AllReadyS.nil
    rw [if_pos (by rfl)]
    refine wp_appX eB (.tmp 62) (.tmp 63) rfl x0a.heap.size _ ba lb bc rfl rfl ho2a hlb.out.symm bN bC (HRb.out x2a hS2a) (by rw [List.nil_append, ← hn.out]; unfold maxLen; omega) (by rw [List.nil_append, ← hn.out]; show (n + lb) * 1 ≤ _; omega) (by have := hS2a.size; have := (hz2a : x0a.heap.size ≤ x2a.heap.size); omega) ?_
    intro v3a x3a ho3a hg3a
    have hz3a : x0a.heap.size ≤ x3a.heap.size := Nat.le_trans hz2a hg3a.size
    have hS3a := Below.grown hS2a hg3a hS2a.size (fun q hq => Nat.le_trans hS0a.size (ho2a.block q hq).1)
    refine hK.out _ _ (Hold.of hS3a) (fun hH => ?_)
    clear hK K
    refine wpAnyS_pure (i := 17) (oi := { dst := some 65, op := .indexAddr 59 (.tmp 51) (.tmp 52), type := _, pos := _, after := _, guard := none }) (v := .pointer (some ⟨k, i * 4, none⟩)) rfl (by kernel_rfl) (by kernel_rfl) (by kernel_rfl) (by kernel_rfl) (fun _ _ _ h => h) (Or.inl ⟨by rfl, ?_⟩) hH (fun hH => ?_)
    · intro wS hSw
      go_simp
    simp only [Act.put, List.setIfInBounds_toArray, List.set_cons_zero, List.set_cons_succ]
    refine wpAnyS_pure (i := 18) (oi := { dst := some 66, op := .fieldAddr 70 (.tmp 65) 1, type := _, pos := _, after := _, guard := none }) (v := .pointer (some ⟨k, i * 4 + 1, none⟩)) rfl (by kernel_rfl) (by kernel_rfl) (by kernel_rfl) (by kernel_rfl) (fun _ _ _ h => h) (Or.inl ⟨by rfl, ?_⟩) hH (fun hH => ?_)
    · intro wS hSw
      go_simp
    simp only [Act.put, List.setIfInBounds_toArray, List.set_cons_zero, List.set_cons_succ]
    refine wpAnyS_ready (rs := [19]) (by kernel_rfl) (by simp) ?_
    refine AllReadyS.cons (o := { dst := none, op := .store 29 (.tmp 66) (.tmp 64), type := _, pos := _, after := _, guard := none }) rfl (fun K hK => ?_) AllReadyS.nil
    rw [if_pos (by rfl)]
    obtain ⟨hv1, hv2⟩ := ho3a.cells
    refine wp_store_one 29 (.tmp 66) (.tmp 64) rfl k (i * 4 + 1) v3a rfl rfl 70 _ (HA.out.below hS3a) (by have := HCL.out; omega) i30 hv1 hv2 ?_
    intro x4a hA4a hb4a hs4a
    refine hK.out _ _ (Hold.over (s := 19) (by decide) (by rfl)) (fun hH => ?_)
    clear hK K
    refine wpAnyS_done (by kernel_rfl) ?_ _
    simp only [Act.put]
    obtain ⟨t1, b1, b2, b3, b4, H3, M3⟩ := H1.out.bytes HA.out HTi.out hS0a.size hS3a ho3a hA4a hb4a
    rw [List.nil_append] at b1
    have H4 : Hid (RDv B x4a g W1 (newF F1 v3a) (.slice (some ⟨k, 0, none⟩) (ts1.set i t1).length c) (ts1.set i t1) R.1) := by
      have e3 : R.1 = { d1 with fs := (ts1.set i t1).map FT.fi } := by
        rw [HE.out, setL_at HF.out HI.out, List.map_set, H1.out.fs, ← HTf.out]
        simp only [FT.fi, b1, b2, b3, b4]
      show RDv _ _ _ _ _ _ _ _
      rw [e3]
      exact H3
    have HM4 := hidU (HMw.out.trans M3)
    clear cL q1 hA4a hb4a hs4a hS0a hS1a hS2a hS3a hH ho1a ho2a ho3a hg2a hg3a hb1a hs1a hz1a hz2a hz3a hv1 hv2 H3 M3 HRow HA H1
    go_wp2
    go_ret
    refine ⟨?_, W1, _, ⟨_, _, H4.out⟩, HM4.out⟩
    rw [he2]
    rfl
end Go.Proofs.YtcmkjjlchljffaaDoor

/- Where a row that grows lies; the given answer's disk copied. -/
namespace Go.Proofs.YtcmkjjlchljffaaDoor
open Go.RowKit
set_option linter.unusedVariables false

section
variable {α : Type} {o : Oper} {a : Act} {w : World} {K : Act → World → Prop} {Q : Exit → Act → World → Prop} {xs ys : List α}
theorem wp_appY (e : El α) (s x : Operand) (ho : o.op = .call { callee := .builtin .append, args := #[s, x], argTypes := #[e.T, e.T] }) (base : Nat) (v : Value) (b : Option Addr) (m c : Nat)
    (hs : a.eval s = v) (hx : a.eval x = .slice b m c) (hown : OwnX e base w v xs) (hm : ys.length = m) (hnil : b = none → c = 0) (hc : m ≤ c) (hrow : RowX e w b ys) (h63 : xs.length + m ≤ maxLen) (hl : (xs.length + m) * e.by_ ≤ 140737488355328) (hbase : base ≤ w.heap.size)
    (h : ∀ v' w', OwnX e base w' v' (xs ++ ys) → w.grownBy w' v.ownBlock → (v'.ownBlock = v.ownBlock ∨ v'.ownBlock = some w.heap.size) → K (a.put o.dst v') w') : o.wp Tryd.prog a w K Q := by
  obtain ⟨i0, hi, hz0, hz1, hz2⟩ := info_parts e.info
  cases b with
  | none =>
    obtain rfl : c = 0 := hnil rfl
    obtain rfl : m = 0 := by omega
    have hf : ys = [] := List.length_eq_zero_iff.1 hm
    subst hf
    have := h v w (by rw [List.append_nil]; exact hown) ⟨rfl, rfl, rfl, Nat.le_refl _, fun _ _ _ => rfl⟩ (.inl rfl)
    have hrun := run_append_owned_none (P := Tryd.prog) (w := w) base e.T o.type e.E i0 e.n e.und hi v xs.length (e.flat xs) hown
    unfold Oper.wp
    simp [execOp, ho, resolve, invoke, builtin, hs, hx, hrun, Result.andThen]
    exact this
  | some ad =>
    have hnews : ∀ j u, (e.flat ys)[j]? = some u → w.cell? (ad.add j) = some u := by
      intro j u hj
      rcases hrow with h0 | ⟨g, off, hb, hr⟩
      · rw [h0] at hj; simp [El.flat] at hj
      · cases hb
        rw [add_none]
        exact hr j u hj
    obtain ⟨v', w', hr, h2, h3, _, h5⟩ := run_append_own_at (P := Tryd.prog) w base e.T o.type e.E i0 _ e.n e.by_ e.und hi hz0 hz1 hz2 e.zs e.pos v xs.length (e.flat xs) hown ad m c (e.flat ys) (by rw [flat_len, hm]) hnews (flat_one e ys) h63 hl hbase
    have := h v' w' (by unfold OwnX; rw [List.length_append, hm, flat_app]; exact h2) h3 h5
    unfold Oper.wp execOp
    simp only [ho, resolve, invoke, builtin, Sem.run_bind, Sem.run_pure, Result.andThen_ok, List.map_toArray, List.map_cons, List.map_nil, hs, hx, hr]
    exact this
theorem wpList_appY {ops : Array Oper} {rest : List Oper} (e : El α) (hgd : o.guard = none) (s x : Operand) (ho : o.op = .call { callee := .builtin .append, args := #[s, x], argTypes := #[e.T, e.T] }) (base : Nat) (v : Value) (b : Option Addr) (m c : Nat)
    (hs : a.eval s = v) (hx : a.eval x = .slice b m c) (hown : OwnX e base w v xs) (hm : ys.length = m) (hnil : b = none → c = 0) (hc : m ≤ c) (hrow : RowX e w b ys) (h63 : xs.length + m ≤ maxLen) (hl : (xs.length + m) * e.by_ ≤ 140737488355328) (hbase : base ≤ w.heap.size)
    (h : ∀ v' w', OwnX e base w' v' (xs ++ ys) → w.grownBy w' v.ownBlock → (v'.ownBlock = v.ownBlock ∨ v'.ownBlock = some w.heap.size) → wpList Tryd.prog ops Q rest (a.put o.dst v') w') : wpList Tryd.prog ops Q (o :: rest) a w :=
  wpList_plain hgd fun _ hK => wp_appY e s x ho base v b m c hs hx hown hm hnil hc hrow h63 hl hbase fun v' w' h1 h2 h3 => hK _ _ (h v' w' h1 h2 h3)
theorem wpList_layF0 {ops : Array Oper} {rest : List Oper} (hgd : o.guard = none) (ho : o.op = .buildSlice 59 0 #[])
    (h : ∀ w', OwnX eF w.heap.size w' (.slice (some ⟨w.heap.size, 0, none⟩) 0 0) [] → Below w.heap.size w w' → w'.heap.size = w.heap.size + 1 → wpList Tryd.prog ops Q rest (a.put o.dst (.slice (some ⟨w.heap.size, 0, none⟩) 0 0)) w') : wpList Tryd.prog ops Q (o :: rest) a w := by
  refine wpList_plain hgd fun K hK => ?_
  have := hK _ _ (h _ (own_lay0 eF w) ((Below.refl _ w).alloc (Nat.le_refl _) _) (by simp))
  unfold Oper.wp execOp
  rw [ho]
  go_simp
  exact this
end
theorem u65 : ∃ d, Tryd.prog.underlying 60 = some d ∧ d.isRow = true := by
  have h : (Tryd.prog.underlying 60).map (·.isRow) = some true := by kernel_rfl
  cases hq : Tryd.prog.underlying 60 with
  | none => rw [hq] at h; cases h
  | some d => rw [hq] at h; simp at h; exact ⟨d, rfl, h⟩
theorem At.rng {t : TypeId} {w : World} {g : Nat} {cs : List Value} (h : At t w g cs) : w.rangeAt g 0 cs := fun j v hj => by rw [Nat.zero_add, h.cell]; exact hj
theorem z65 : (Tryd.prog.info? 61).map (fun i => (i.zero, i.size)) = some (some (.agg [Value.int .i64 0, .slice none 0 0, .int .i64 0, .int .i64 0].toArray), 4) := by kernel_rfl
/-- What a copy of a disk reads. -/
def cloF (W F : Nat → Prop) (gc : Nat) (v : Value) : Nat → Prop := fun k => (F k ∧ ¬ W k) ∨ k = gc ∨ v.ownBlock = some k
end Go.Proofs.YtcmkjjlchljffaaDoor

/- The given answer's disk: Crash. -/
namespace Go.Proofs.YtcmkjjlchljffaaDoor
open Go.RowKit
set_option linter.unusedVariables false

def eI : El Int := ⟨52, 3, 1, 8, .int .i64 0, fun z => [.int .i64 z], fun _ => rfl, fun x v hv => by simp at hv; subst hv; rfl, by kernel_rfl, by kernel_rfl, rfl, by decide⟩
/-- How many loose bytes are kept. -/
def kpN (torn : List Int) (k lo : Nat) : Nat := match torn[k]? with | none => 0 | some x => (min (max x 0) (lo : Int)).toNat
/-- What a crash leaves of a file, and the next number of torn. -/
def crOne (torn : List Int) (k : Nat) (f : Fi) : Fi × Nat :=
  if f.sf < f.bs.length then (⟨f.nm, f.bs.take (f.sf + kpN torn k (f.bs.length - f.sf)), (f.bs.take (f.sf + kpN torn k (f.bs.length - f.sf))).length, f.hd⟩, k + 1) else (f, k)
def crK (torn : List Int) (k : Nat) (f : Fi) : Bool := decide (¬ f.sf < f.bs.length) || ((crOne torn k f).1.hd || decide (0 < (crOne torn k f).1.bs.length))
def crL (torn : List Int) : Nat → List Fi → List Fi
  | _, [] => []
  | k, f :: fs => (if crK torn k f then [(crOne torn k f).1] else []) ++ crL torn (crOne torn k f).2 fs
def crD (d : Dk) (torn : List Int) : Dk := { d with fs := crL torn 0 d.fs, lf := -1 }
def InC (w0 : World) (W F : Nat → Prop) (wr : World) (v : Value) (t : FT) : Prop :=
  Row wr t.ad t.bs ∧ (∀ ad, t.ad = some ad → ad.block < wr.heap.size ∧ ((F ad.block ∧ ¬ W ad.block) ∨ w0.heap.size ≤ ad.block) ∧ v.ownBlock ≠ some ad.block) ∧ t.bs.length ≤ t.cp ∧ (t.ad = none → t.cp = 0)
section
variable {w0 wr x : World} {W F : Nat → Prop} {v v' : Value} {t : FT}
theorem InC.below (h : InC w0 W F wr v t) (hb : Below wr.heap.size wr x) : InC w0 W F x v t :=
  ⟨h.1.below hb, fun ad ha => ⟨Nat.lt_of_lt_of_le (h.2.1 ad ha).1 hb.size, (h.2.1 ad ha).2⟩, h.2.2⟩
theorem InC.grow (h : InC w0 W F wr v t) (hg : wr.grownBy x v.ownBlock) (hv : v'.ownBlock = v.ownBlock ∨ v'.ownBlock = some wr.heap.size) : InC w0 W F x v' t :=
  ⟨h.1.same fun ad ha => hg.block _ (h.2.1 ad ha).1 (fun e => (h.2.1 ad ha).2.2 e.symm), fun ad ha => ⟨Nat.lt_of_lt_of_le (h.2.1 ad ha).1 hg.size, (h.2.1 ad ha).2.1, fun e => by
    rcases hv with q | q
    · exact (h.2.1 ad ha).2.2 (q ▸ e)
    · rw [q] at e
      injection e with e
      have := (h.2.1 ad ha).1
      omega⟩, h.2.2⟩
end
/-- All blocks that are new may be read. -/
def frF (F : Nat → Prop) (w w' : World) : Nat → Prop := fun k => F k ∨ (w.heap.size ≤ k ∧ k < w'.heap.size)
theorem RDv.anew2 {B g : Nat} {w w2 w3 : World} {W F : Nat → Prop} {v v2 : Value} {ts ts2 : List FT} {d d2 : Dk} (h : RDv B w g W F v ts d) (hB : B ≤ w.heap.size) (ho : OwnX eF w.heap.size w2 v2 ts2) (hb : Below w.heap.size w w2) (hin : ∀ t ∈ ts2, InC w W F w2 v2 t)
    (hA : At 61 w3 g [.int .i64 (d2.sz : Int), v2, .int .i64 d2.lf, .int .i64 (d2.wr : Int)]) (hg : But g w2 w3) (hf : ts2.map FT.fi = d2.fs) : RDv B w3 g (newW g v2) (frF F w w3) v2 ts2 d2 ∧ Moves w W F w3 (newW g v2) (frF F w w3) := by
  have hgl : g < w.heap.size := h.at_.lt
  have hown := fun k hk => ho.block k hk
  have hne : ∀ k, v2.ownBlock = some k → k ≠ g := fun k hk e => by have := (hown k hk).1; omega
  have hs := hg.size
  refine ⟨⟨hA, (ho.same fun k hk => hg.block k (hown k hk).2.1 (hne k hk)).less hB, hf, fun t ht => ?_, .inl rfl, fun k hk => .inr hk, ?_, ?_⟩, ⟨?_, ?_, ?_⟩⟩
  · obtain ⟨q1, q2, q3, q4⟩ := hin t ht
    have hng : ∀ ad, t.ad = some ad → ad.block ≠ g := fun ad ha e => by
      rcases (q2 ad ha).2.1 with p | p
      · exact p.2 (e ▸ h.wg)
      · omega
    refine ⟨q1.same fun ad ha => hg.block _ (q2 ad ha).1 (hng ad ha), fun ad ha => ⟨?_, ?_⟩, q3, q4⟩
    · rcases (q2 ad ha).2.1 with p | p
      · exact .inl p.1
      · exact .inr ⟨p, by have := (q2 ad ha).1; omega⟩
    · rintro (e | e)
      · exact hng ad ha e
      · exact (q2 ad ha).2.2 e
  · rintro k (rfl | hk)
    · exact ⟨.inl (h.wf k h.wg).1, (h.wf k h.wg).2⟩
    · exact ⟨.inr ⟨(hown k hk).1, by have := (hown k hk).2.1; omega⟩, Nat.le_trans hB (hown k hk).1⟩
  · rintro k (hk | hk)
    · exact Nat.lt_of_lt_of_le (h.lt k hk) (Nat.le_trans hb.size hg.size)
    · exact hk.2
  · exact (Chg.of_below hb).trans (Chg.of_but hg h.wg)
  · rintro k (rfl | hk)
    · exact .inl h.wg
    · exact .inr (hown k hk).1
  · rintro k (hk | hk)
    · exact .inl hk
    · exact .inr hk.1
end Go.Proofs.YtcmkjjlchljffaaDoor

/- The kit's functions over rows: OverBytes, OverTexts, SameTexts. -/
namespace Go.Proofs.YtcmkjjlchljffaaDoor
open Go.RowKit
set_option linter.unusedVariables false

def AllU (cs : List Value) : Prop := ∀ (i : Nat) (v : Value), cs[i]? = some v → ∃ c : UInt8, v = .int .u8 (c.toNat : Int)
def AllS (cs : List Value) : Prop := ∀ (i : Nat) (v : Value), cs[i]? = some v → ∃ s : ByteArray, v = .string s ∧ s.size ≤ 4611686018427387904
theorem i5 : (Tryd.prog.info? 5).map (·.size) = some 1 := by kernel_rfl
theorem bits_ov_all : ∀ c : Fin 256, bits .xor .u8 ((c.val : Nat) : Int) 90 = (((UInt8.ofNat c.val) ^^^ 90).toNat : Int) := by decide +kernel
theorem bits_ov (c : UInt8) : bits .xor .u8 (c.toNat : Int) 90 = ((c ^^^ 90).toNat : Int) := by
  have := bits_ov_all ⟨c.toNat, UInt8.toNat_lt c⟩
  simp only [UInt8.ofNat_toNat] at this
  exact this
set_option maxRecDepth 100000 in
set_option maxHeartbeats 1600000 in
theorem overB (g n : Nat) (cs : List Value) (w : World) (hA : At 5 w g cs) (hU : AllU cs) (hn : n ≤ cs.length) (hl : cs.length ≤ 9223372036854775807) :
    Calls Tryd.prog 47 #[.slice (some ⟨g, 0, none⟩) n cs.length] w fun e w' => e = .returned (.tuple #[]) ∧ But g w w' ∧ w'.heap.size = w.heap.size := by
  obtain ⟨C, hC⟩ : ∃ C, C = cs.length := ⟨_, rfl⟩
  have HI : Hid (At 5 w g cs ∧ cs.length = C ∧ AllU cs) := ⟨hA, hC.symm, hU⟩
  rw [← hC] at hn hl ⊢
  clear hA hU hC
  have hs1 := fun W => run_slice_to W (some ⟨g, 0, none⟩) n C C (C : Int) rfl (Nat.le_refl _)
  go_enter Tryd.func47, Tryd.ntmps47
  go_wp2
  go_loopw [3] (fun t wr => ∃ (k : Nat), k ≤ C ∧ t = .int .i64 k ∧ Hid (But g w wr ∧ wr.heap.size = w.heap.size ∧ ∃ cs, At 5 wr g cs ∧ cs.length = C ∧ AllU cs)) (fun t _ => C - (intOf t).toNat)
  case atStart => exact ⟨0, Nat.zero_le _, rfl, But.refl _ _, rfl, cs, HI.out⟩
  case round =>
    obtain ⟨k, hk, rfl, hR⟩ := hrel
    by_cases hlt : k < C
    · obtain ⟨h1, h2, cs', hA, hl', hU⟩ := hR.out
      obtain ⟨u, hu⟩ : ∃ u, cs'[k]? = some u := ⟨_, List.getElem?_eq_getElem (by omega)⟩
      obtain ⟨c, rfl⟩ := hU k u hu
      have hcell : wr.cell? ⟨g, k, none⟩ = some (.int .u8 (c.toNat : Int)) := by rw [hA.cell]; exact hu
      have hb := bits_ov c
      have hcl : c.toNat < 256 := by have := UInt8.toNat_lt c; omega
      have H1 := hidU h1
      have H2 := hidU h2
      have HU := hidU hU
      clear h1 h2 hU hR hu
      go_wp2_with (refine wpList_store1 rfl 5 (.tmp 21) (.tmp 20) rfl g k (.int .u8 ((c ^^^ 90).toNat : Int)) rfl rfl 5 _ hA (by omega) i5 rfl rfl ?_; intro y hAy hby hsy; refine Hid.out ?_)
      refine hidU ?_
      have HR : Hid (But g w y ∧ y.heap.size = w.heap.size ∧ ∃ cs, At 5 y g cs ∧ cs.length = C ∧ AllU cs) := ⟨H1.out.trans hby, hsy.trans H2.out, _, hAy, by rw [List.length_set]; exact hl', fun i v hv => by
        by_cases hik : i = k
        · subst hik
          rw [List.getElem?_set_self (by omega)] at hv
          cases hv
          exact ⟨_, rfl⟩
        · rw [List.getElem?_set_ne (fun e => hik e.symm)] at hv
          exact HU.out i v hv⟩
      clear hAy hby hsy hA
      go_wp2
      go_roundw
      case rel => exact ⟨k + 1, by omega, by go_num, HR⟩
      case measure => simp [intOf]; omega
    · go_wp2
      go_end0
      exact ⟨rfl, hR.out.1, hR.out.2.1⟩
set_option maxRecDepth 100000 in
theorem over0 (a : Option Addr) (w : World) : Calls Tryd.prog 47 #[.slice a 0 0] w fun e w' => e = .returned (.tuple #[]) ∧ w' = w := by
  have hs1 := fun W => run_slice_to W a 0 0 0 0 rfl (Nat.le_refl _)
  go_enter Tryd.func47, Tryd.ntmps47
  go_wp2
  go_loopw [3] (fun t wr => t = .int .i64 0 ∧ wr = w) (fun t _ => 0)
  case atStart => exact ⟨rfl, rfl⟩
  case round =>
    obtain ⟨rfl, rfl⟩ := hrel
    go_wp2
    go_end0
    exact ⟨rfl, rfl⟩
theorem size9 (w : World) : (sizeOf 9).run Tryd.prog w = .ok 1 w := by kernel_rfl
theorem run_slice52 (w : World) (a : Option Addr) (len cap h : Nat) (x : Int) (hx : x = (h : Int)) (hh : h ≤ cap) :
    (Instr.slice 44 (.slice a len cap) none (some (.int .i64 x)) none).run Tryd.prog w = .ok (.slice a h cap) w := by
  have hu : Tryd.prog.underlying 44 = some (.slice 9) := eS.und
  have he : Tryd.prog.elem 44 = 9 := by simp [Program.elem, hu]
  rw [run_slice_h w 44 a len cap (by rw [he]; exact hu) .i64 x (by omega) (by omega), he, size9]
  have hz : ∀ p : Addr, p.add 0 = p := fun p => by cases p; simp [Addr.add]
  have hm : a.map (fun p => p.add 0) = a := by cases a <;> simp [hz]
  simp only [Result.andThen, sliced, Nat.zero_mul, hm, Nat.sub_zero]
  rw [show x.toNat = h by omega]
  simp
set_option maxRecDepth 100000 in
set_option maxHeartbeats 1600000 in
theorem overS (g n : Nat) (cs : List Value) (w : World) (hA : At 9 w g cs) (hU : AllS cs) (hn : n ≤ cs.length) (hl : cs.length ≤ 9223372036854775807) :
    Calls Tryd.prog 46 #[.slice (some ⟨g, 0, none⟩) n cs.length] w fun e w' => e = .returned (.tuple #[]) ∧ But g w w' ∧ w'.heap.size = w.heap.size := by
  obtain ⟨C, hC⟩ : ∃ C, C = cs.length := ⟨_, rfl⟩
  have HI : Hid (At 9 w g cs ∧ cs.length = C ∧ ∀ (i : Nat) (v : Value), 0 ≤ i → cs[i]? = some v → ∃ s : ByteArray, v = .string s ∧ s.size ≤ 4611686018427387904) := ⟨hA, hC.symm, fun i v _ h => hU i v h⟩
  rw [← hC] at hn hl ⊢
  clear hA hU hC
  have hs1 := fun W => run_slice52 W (some ⟨g, 0, none⟩) n C C (C : Int) rfl (Nat.le_refl _)
  go_enter Tryd.func46, Tryd.ntmps46
  go_wp2
  go_loopw [3] (fun t wr => ∃ (k : Nat), k ≤ C ∧ t = .int .i64 k ∧ Hid (But g w wr ∧ wr.heap.size = w.heap.size ∧ ∃ cs, At 9 wr g cs ∧ cs.length = C ∧ ∀ (i : Nat) (v : Value), k ≤ i → cs[i]? = some v → ∃ s : ByteArray, v = .string s ∧ s.size ≤ 4611686018427387904)) (fun t _ => C - (intOf t).toNat)
  case atStart => exact ⟨0, Nat.zero_le _, rfl, But.refl _ _, rfl, cs, HI.out⟩
  case round =>
    obtain ⟨k, hk, rfl, hR⟩ := hrel
    by_cases hlt : k < C
    · obtain ⟨h1, h2, cs', hA, hl', hU⟩ := hR.out
      obtain ⟨u, hu⟩ : ∃ u, cs'[k]? = some u := ⟨_, List.getElem?_eq_getElem (by omega)⟩
      obtain ⟨s, rfl, hsz⟩ := hU k u (Nat.le_refl _) hu
      have hcell : wr.cell? ⟨g, k, none⟩ = some (.string s) := by rw [hA.cell]; exact hu
      have H1 := hidU h1
      have H2 := hidU h2
      have HU := hidU hU
      have hcat : ¬ ((9223372036854775807 : Int) < (s.size : Int) + 1) := by omega
      clear h1 h2 hU hR hu
      go_wp2_with (refine wpList_store1 rfl 9 (.tmp 21) (.tmp 20) rfl g k (.string (s ++ ⟨#[33]⟩)) rfl rfl 9 _ hA (by omega) i9 rfl rfl ?_; intro y hAy hby hsy; refine Hid.out ?_)
      refine hidU ?_
      have HR : Hid (But g w y ∧ y.heap.size = w.heap.size ∧ ∃ cs, At 9 y g cs ∧ cs.length = C ∧ ∀ (i : Nat) (v : Value), k + 1 ≤ i → cs[i]? = some v → ∃ s : ByteArray, v = .string s ∧ s.size ≤ 4611686018427387904) := ⟨H1.out.trans hby, hsy.trans H2.out, _, hAy, by rw [List.length_set]; exact hl', fun i v hi hv => by
        rw [List.getElem?_set_ne (by omega)] at hv
        exact HU.out i v (by omega) hv⟩
      clear hAy hby hsy hA
      go_wp2
      go_roundw
      case rel => exact ⟨k + 1, by omega, by go_num, HR⟩
      case measure => simp [intOf]; omega
    · go_wp2
      go_end0
      exact ⟨rfl, hR.out.1, hR.out.2.1⟩
set_option maxRecDepth 100000 in
theorem overS0 (a : Option Addr) (w : World) : Calls Tryd.prog 46 #[.slice a 0 0] w fun e w' => e = .returned (.tuple #[]) ∧ w' = w := by
  have hs1 := fun W => run_slice52 W a 0 0 0 0 rfl (Nat.le_refl _)
  go_enter Tryd.func46, Tryd.ntmps46
  go_wp2
  go_loopw [3] (fun t wr => t = .int .i64 0 ∧ wr = w) (fun t _ => 0)
  case atStart => exact ⟨rfl, rfl⟩
  case round =>
    obtain ⟨rfl, rfl⟩ := hrel
    go_wp2
    go_end0
    exact ⟨rfl, rfl⟩
/-- Are two rows of texts the same? -/
def sameS (xs ys : List ByteArray) : Bool := xs.map ByteArray.toList == ys.map ByteArray.toList
set_option maxRecDepth 100000 in
set_option maxHeartbeats 3200000 in
theorem sameTexts_any (xs ys : List ByteArray) (a b : Option Addr) (c1 c2 : Nat) (w : World) (h1 : RowX eS w a xs) (h2 : RowX eS w b ys) (k1 : xs.length ≤ c1) (k2 : ys.length ≤ c2) (hl : xs.length ≤ 1099511627776) (hl2 : ys.length ≤ 1099511627776) :
    Calls Tryd.prog 30 #[.slice a xs.length c1, .slice b ys.length c2] w fun r w' => r = .returned (.bool (sameS xs ys)) ∧ Below w.heap.size w w' ∧ w'.heap = w.heap := by
  obtain ⟨R, hR⟩ : ∃ R, Hid (R = sameS xs ys) := ⟨_, (rfl : _ = sameS _ _)⟩
  rw [← hR.out]
  obtain ⟨m, hm⟩ : ∃ n, Hid (n = xs.length) := ⟨_, (rfl : xs.length = _)⟩
  obtain ⟨n, hn⟩ : ∃ n, Hid (n = ys.length) := ⟨_, (rfl : ys.length = _)⟩
  have H1 := hidU h1
  have H2 := hidU h2
  rw [← hm.out] at k1 hl ⊢
  rw [← hn.out] at k2 hl2 ⊢
  clear h1 h2
  by_cases hmn : m = n
  · subst hmn
    go_enter Tryd.func30, Tryd.ntmps30
    go_wp2
    go_loopw [5] (fun j wr => ∃ i : Nat, j = .int .i64 (i : Int) ∧ i ≤ m ∧ Hid (Below w.heap.size w wr ∧ wr.heap = w.heap) ∧ Hid (∀ q x y, q < i → xs[q]? = some x → ys[q]? = some y → x.toList = y.toList)) (fun j _ => m - (intOf j).toNat)
    case atStart => exact ⟨0, rfl, by omega, ⟨Below.refl _ _, rfl⟩, fun q x y h => by omega⟩
    case round =>
      obtain ⟨i, rfl, hi, hB, hX⟩ := hrel
      by_cases hc : i < m
      · obtain ⟨x, hx⟩ : ∃ x, xs[i]? = some x := ⟨_, List.getElem?_eq_getElem (by rw [← hm.out]; exact hc)⟩
        obtain ⟨y, hy⟩ : ∃ x, ys[i]? = some x := ⟨_, List.getElem?_eq_getElem (by rw [← hn.out]; exact hc)⟩
        obtain ⟨g1, o1, rfl, hr1⟩ := (H1.out.below hB.out.1).at hx
        obtain ⟨g2, o2, rfl, hr2⟩ := (H2.out.below hB.out.1).at hy
        have q1 : wr.cell? ⟨g1, o1 + i, none⟩ = some (.string x) := by have := hr1 0 _ rfl; rwa [show o1 + i * eS.n + 0 = o1 + i from (by show o1 + i * 1 + 0 = _; omega)] at this
        have q2 : wr.cell? ⟨g2, o2 + i, none⟩ = some (.string y) := by have := hr2 0 _ rfl; rwa [show o2 + i * eS.n + 0 = o2 + i from (by show o2 + i * 1 + 0 = _; omega)] at this
        have HX := hidU hx
        have HY := hidU hy
        clear hr1 hr2 hx hy
        cases hb : (x.toList == y.toList) with
        | true =>
          have HE : Hid (x.toList = y.toList) := beq_iff_eq.1 hb
          go_wp2
          go_quiet (fail)
          go_wp2
          go_roundw
          case rel =>
            refine ⟨i + 1, by go_num, by omega, ⟨below_drN hB.out.1, hB.out.2⟩, fun q u v hq hu hv => ?_⟩
            by_cases hqi : q = i
            · subst hqi
              rw [HX.out] at hu
              rw [HY.out] at hv
              cases hu
              cases hv
              exact HE.out
            · exact hX.out q u v (by omega) hu hv
          case measure => simp [intOf]; omega
        | false =>
          have hRf : R = false := by
            rw [hR.out, sameS, beq_eq_false_iff_ne]
            intro e
            have e2 := congrArg (fun l => l[i]?) e
            simp only [List.getElem?_map, HX.out, HY.out, Option.map_some, Option.some.injEq] at e2
            rw [e2] at hb
            simp at hb
          subst hRf
          clear hX hR
          go_wp2
          go_quiet (fail)
          go_wp2
          go_ret
          exact ⟨rfl, below_drN hB.out.1, hB.out.2⟩
      · have hRf : R = true := by
          rw [hR.out, sameS, beq_iff_eq]
          refine List.ext_getElem? fun q => ?_
          rw [List.getElem?_map, List.getElem?_map]
          cases hx : xs[q]? with
          | none =>
            have := List.getElem?_eq_none_iff.1 hx
            rw [List.getElem?_eq_none (by rw [← hn.out, hm.out]; exact this)]
          | some x =>
            have hlt := (List.getElem?_eq_some_iff.1 hx).1
            have hlt2 : q < ys.length := by rw [← hn.out, hm.out]; exact hlt
            rw [List.getElem?_eq_getElem hlt2]
            simp only [Option.map_some, Option.some.injEq]
            exact hX.out q x _ (by rw [← hm.out] at hlt; omega) hx (List.getElem?_eq_getElem hlt2)
        subst hRf
        clear hX hR
        go_wp2
        go_ret
        exact ⟨rfl, hB.out⟩
  · have hRf : R = false := by
      rw [hR.out, sameS, beq_eq_false_iff_ne]
      intro e
      have := congrArg List.length e
      simp only [List.length_map] at this
      rw [← hm.out, ← hn.out] at this
      exact hmn this
    subst hRf
    have hne : ¬ ((m : Int) = (n : Int)) := by omega
    clear hR
    go_enter Tryd.func30, Tryd.ntmps30
    go_wp2
    go_ret
    exact ⟨rfl, Below.refl _ _, rfl⟩
end Go.Proofs.YtcmkjjlchljffaaDoor

/- What the program's disk must tell, as a face: its predicate in memory and its contracts; rows with their room. -/
namespace Go.Proofs.YtcmkjjlchljffaaDoor
open Go.RowKit
set_option linter.unusedVariables false

/-- A row that was told: all that it has room for may be written over. -/
def RoomS (U : Prop) (base : Nat) (w : World) (v : Value) (xs : List ByteArray) : Prop := (xs = [] ∧ ∃ a, v = .slice a 0 0) ∨ (OwnX eS base w v xs ∧ (U → ∀ k cs, v.ownBlock = some k → At 9 w k cs → AllS cs))
def RoomB (U : Prop) (base : Nat) (w : World) (v : Value) (bs : List UInt8) : Prop := (bs = [] ∧ ∃ a, v = .slice a 0 0) ∨ (OwnX eB base w v bs ∧ (U → ∀ k cs, v.ownBlock = some k → At 5 w k cs → AllU cs))
section
variable {U : Prop} {base : Nat} {w w' : World} {v : Value} {xs : List ByteArray} {bs : List UInt8}
theorem RoomS.below (h : RoomS U base w v xs) (hb : Below w.heap.size w w') : RoomS U base w' v xs := by
  rcases h with h | ⟨h1, h2⟩
  · exact .inl h
  · refine .inr ⟨h1.below hb, fun hu k cs hk hA => ?_⟩
    obtain ⟨_, hl, _⟩ := h1.block k hk
    exact h2 hu k cs hk (hA.same (hb.block k hl).symm)
theorem RoomB.below (h : RoomB U base w v bs) (hb : Below w.heap.size w w') : RoomB U base w' v bs := by
  rcases h with h | ⟨h1, h2⟩
  · exact .inl h
  · refine .inr ⟨h1.below hb, fun hu k cs hk hA => ?_⟩
    obtain ⟨_, hl, _⟩ := h1.block k hk
    exact h2 hu k cs hk (hA.same (hb.block k hl).symm)
theorem RoomS.row (h : RoomS U base w v xs) : ∃ a cap, v = .slice a xs.length cap ∧ xs.length ≤ cap ∧ RowX eS w a xs := by
  rcases h with ⟨rfl, a, rfl⟩ | ⟨h1, _⟩
  · exact ⟨a, 0, rfl, Nat.le_refl _, .inl rfl⟩
  · obtain ⟨a, cap, e, c1, _, _, _, r⟩ := h1.row
    exact ⟨a, cap, e, c1, r⟩
theorem RoomB.row (h : RoomB U base w v bs) : ∃ a cap, v = .slice a bs.length cap ∧ bs.length ≤ cap ∧ Row w a bs := by
  rcases h with ⟨rfl, a, rfl⟩ | ⟨h1, _⟩
  · exact ⟨a, 0, rfl, Nat.le_refl _, .inl rfl⟩
  · obtain ⟨a, cap, e, c1, _, _, _, r⟩ := h1.row
    exact ⟨a, cap, e, c1, rowB.1 r⟩
theorem roomS_over (h : RoomS True base w v xs) : Calls Tryd.prog 46 #[v] w fun e w' => e = .returned (.tuple #[]) ∧ ∃ K : Nat → Prop, Chg K w w' ∧ ∀ k, K k → base ≤ k ∧ ∃ cs, At 9 w k cs := by
  rcases h with ⟨rfl, a, rfl⟩ | ⟨⟨_, ⟨rfl, _⟩ | ⟨g, cap, cur, rfl, hg, hh, hc, hm, hs, ht⟩⟩, h2⟩
  · refine (overS0 a w).mono ?_
    rintro e w' ⟨rfl, rfl⟩
    exact ⟨rfl, fun _ => False, Chg.refl _ _, fun _ h => h.elim⟩
  · refine (overS0 none w).mono ?_
    rintro e w' ⟨rfl, rfl⟩
    exact ⟨rfl, fun _ => False, Chg.refl _ _, fun _ h => h.elim⟩
  · have hA : At 9 w g cur.toList := (show w.heap[g]? = some (.cells cur.toList.toArray 9 (0, 0)) from hh)
    have hl : cur.toList.length = cap := by rw [Array.length_toList, hs]; exact Nat.mul_one _
    have := overS g xs.length cur.toList w hA (h2 trivial g _ rfl hA) (by rw [hl]; exact hc) (by rw [hl]; exact hm)
    rw [hl] at this
    refine this.mono ?_
    rintro e w' ⟨rfl, hb, _⟩
    exact ⟨rfl, fun k => k = g, Chg.of_but hb rfl, fun k hk => ⟨hk ▸ hg, cur.toList, hk ▸ hA⟩⟩
theorem RoomB.chg {K : Nat → Prop} (h : RoomB U base w v bs) (hb : Chg K w w') (hK : ∀ k, K k → ∃ cs, At 9 w k cs) : RoomB U base w' v bs := by
  rcases h with h | ⟨h1, h2⟩
  · exact .inl h
  · have hs : ∀ k, v.ownBlock = some k → w'.heap[k]? = w.heap[k]? := fun k hk => by
      obtain ⟨_, hl, cs, hA⟩ := h1.block k hk
      refine hb.block k hl fun hq => ?_
      obtain ⟨cs', hA'⟩ := hK k hq
      exact hA.ne hA' (show (5 : Nat) ≠ 9 by decide) rfl
    exact .inr ⟨h1.same hs, fun hu k cs hk hA => h2 hu k cs hk (hA.same (hs k hk).symm)⟩
theorem roomB_over (h : RoomB True base w v bs) (hbs : base ≤ w.heap.size) : Calls Tryd.prog 47 #[v] w fun e w' => e = .returned (.tuple #[]) ∧ Below base w w' := by
  rcases h with ⟨rfl, a, rfl⟩ | ⟨⟨_, ⟨rfl, _⟩ | ⟨g, cap, cur, rfl, hg, hh, hc, hm, hs, ht⟩⟩, h2⟩
  · refine (over0 a w).mono ?_
    rintro e w' ⟨rfl, rfl⟩
    exact ⟨rfl, Below.refl _ _⟩
  · refine (over0 none w).mono ?_
    rintro e w' ⟨rfl, rfl⟩
    exact ⟨rfl, Below.refl _ _⟩
  · have hA : At 5 w g cur.toList := (show w.heap[g]? = some (.cells cur.toList.toArray 5 (0, 0)) from hh)
    have hl : cur.toList.length = cap := by rw [Array.length_toList, hs]; exact Nat.mul_one _
    have := overB g bs.length cur.toList w hA (h2 trivial g _ rfl hA) (by rw [hl]; exact hc) (by rw [hl]; exact hm)
    rw [hl] at this
    refine this.mono ?_
    rintro e w' ⟨rfl, hb, _⟩
    exact ⟨rfl, hb.below (Below.refl base w) hg hbs⟩
end
abbrev CDT := Nat → World → Nat → (Nat → Prop) → (Nat → Prop) → Dk → Prop
/-- What a call of the program's disk leaves. -/
def PostC (CD : CDT) (B g : Nat) (W F : Nat → Prop) (w : World) (o : Dk × Int) (r : Ending) (w' : World) : Prop := r = .returned (.int .i64 o.2) ∧ ∃ W' F', CD B w' g W' F' o.1 ∧ Moves w W F w' W' F'
/-- The names of a disk's files, rising. -/
def Sorted (fs : List Fi) : Prop := fs.Pairwise fun a b => ltN a.nm b.nm = true
abbrev ptr (g : Nat) : Value := .pointer (some ⟨g, 0, none⟩)
/-- What the program's disk must tell. -/
structure Face (U : Prop) (CD : CDT) : Prop where
  newBad : ∀ {n : Int} {w}, (n < 1 ∨ 67108864 < n) → Calls Tryd.prog 8 #[.int .i64 n] w fun r w' => r = .returned (.tuple #[.pointer none, .int .i64 2]) ∧ Below w.heap.size w w'
  newOk : ∀ {n : Nat} {w} (B : Nat), 1 ≤ n → n ≤ 67108864 → B ≤ w.heap.size → Calls Tryd.prog 8 #[.int .i64 (n : Int)] w fun r w' => ∃ g W F, r = .returned (.tuple #[ptr g, .int .i64 0]) ∧ CD B w' g W F ⟨n, [], -1, 0⟩ ∧ Below w.heap.size w w' ∧ ∀ k, F k → w.heap.size ≤ k
  same : ∀ {B w w' g W F d}, CD B w g W F d → (∀ k, F k → w'.heap[k]? = w.heap[k]?) → w.heap.size ≤ w'.heap.size → CD B w' g W F d
  lt : ∀ {B w g W F d}, CD B w g W F d → ∀ k, F k → k < w.heap.size
  wf : ∀ {B w g W F d}, CD B w g W F d → ∀ k, W k → F k ∧ B ≤ k
  names : ∀ {B w g W F d}, CD B w g W F d → Fine d → Sorted d.fs → Calls Tryd.prog 20 #[ptr g] w fun r w' => ∃ v, r = .returned v ∧ RoomS U w.heap.size w' v (d.fs.map Fi.nm) ∧ Below w.heap.size w w'
  readNo : ∀ {B w g W F d nm}, CD B w g W F d → Fine d → nm.size ≤ 9223372036854775807 → d.fs.find? (isN nm) = none → Calls Tryd.prog 13 #[ptr g, .string nm] w fun r w' => r = .returned (.tuple #[.slice none 0 0, .int .i64 6]) ∧ Below w.heap.size w w'
  readYes : ∀ {B w g W F d nm f}, CD B w g W F d → Fine d → nm.size ≤ 9223372036854775807 → d.fs.find? (isN nm) = some f → Calls Tryd.prog 13 #[ptr g, .string nm] w fun r w' => ∃ v, r = .returned (.tuple #[v, .int .i64 0]) ∧ RoomB U w.heap.size w' v f.bs ∧ Below w.heap.size w w'
  used : ∀ {B w g W F d}, CD B w g W F d → Fine d → Calls Tryd.prog 21 #[ptr g] w fun r w' => r = .returned (.int .i64 (usedL d.fs : Int)) ∧ Below w.heap.size w w'
  size : ∀ {B w g W F d}, CD B w g W F d → Calls Tryd.prog 22 #[ptr g] w fun r w' => r = .returned (.int .i64 (d.sz : Int)) ∧ Below w.heap.size w w'
  loose : ∀ {B w g W F d nm}, CD B w g W F d → Fine d → nm.size ≤ 9223372036854775807 → Calls Tryd.prog 23 #[ptr g, .string nm] w fun r w' => r = .returned (.int .i64 (lsD d.fs nm)) ∧ Below w.heap.size w w'
  stopped : ∀ {B w g W F d}, CD B w g W F d → Calls Tryd.prog 24 #[ptr g] w fun r w' => r = .returned (.bool (d.lf == 0)) ∧ Below w.heap.size w w'
  writes : ∀ {B w g W F d}, CD B w g W F d → Calls Tryd.prog 25 #[ptr g] w fun r w' => r = .returned (.int .i64 (d.wr : Int)) ∧ Below w.heap.size w w'
  append : ∀ {B w g W F d nm ba lb bc b}, CD B w g W F d → Fine d → Sorted d.fs → B ≤ w.heap.size → nm.size ≤ 9223372036854775807 → Row w ba b → lb = b.length → lb ≤ bc → (ba = none → bc = 0) → lb ≤ 1099511627776 → (b ≠ [] → ∀ ad, ba = some ad → ¬ W ad.block ∧ ad.block < w.heap.size) → Calls Tryd.prog 10 #[ptr g, .string nm, .slice ba lb bc] w (PostC CD B g W F w (apO d nm b))
  cut : ∀ {B w g W F d nm z}, CD B w g W F d → Fine d → Sorted d.fs → B ≤ w.heap.size → nm.size ≤ 9223372036854775807 → Calls Tryd.prog 14 #[ptr g, .string nm, .int .i64 z] w (PostC CD B g W F w (ctO d nm z))
  sync : ∀ {B w g W F d nm}, CD B w g W F d → Fine d → Sorted d.fs → B ≤ w.heap.size → nm.size ≤ 9223372036854775807 → Calls Tryd.prog 15 #[ptr g, .string nm] w (PostC CD B g W F w (syO d nm))
  rename : ∀ {B w g W F d nm to}, CD B w g W F d → Fine d → Sorted d.fs → B ≤ w.heap.size → nm.size ≤ 9223372036854775807 → to.size ≤ 9223372036854775807 → Calls Tryd.prog 16 #[ptr g, .string nm, .string to] w (PostC CD B g W F w (rnO d nm to))
  remove : ∀ {B w g W F d nm}, CD B w g W F d → Fine d → Sorted d.fs → B ≤ w.heap.size → nm.size ≤ 9223372036854775807 → Calls Tryd.prog 17 #[ptr g, .string nm] w (PostC CD B g W F w (rmO d nm))
  stop : ∀ {B w g W F d z}, CD B w g W F d → B ≤ w.heap.size → Calls Tryd.prog 18 #[ptr g, .int .i64 z] w (PostC CD B g W F w (stD d z, stZ z))
  crash : ∀ {B w g W F d ta nt tc torn}, CD B w g W F d → Fine d → Sorted d.fs → B ≤ w.heap.size → RowX eI w ta torn → nt = torn.length → nt ≤ tc → nt ≤ 9223372036854775807 → (∀ ad, ta = some ad → ¬ W ad.block ∧ ad.block < w.heap.size) → Calls Tryd.prog 19 #[ptr g, .slice ta nt tc] w (PostC CD B g W F w (crD d torn, 0))
  clone : ∀ {B w g W F d}, CD B w g W F d → Fine d → B ≤ w.heap.size → Calls Tryd.prog 26 #[ptr g] w fun r w' => ∃ gc W' F', r = .returned (ptr gc) ∧ CD B w' gc W' F' d ∧ Below w.heap.size w w' ∧ (∀ k, W' k → w.heap.size ≤ k) ∧ (∀ k, F' k → (F k ∧ ¬ W k) ∨ w.heap.size ≤ k)
theorem Face.below {U : Prop} {CD : CDT} (h : Face U CD) {B g : Nat} {w w' : World} {W F : Nat → Prop} {d : Dk} (hc : CD B w g W F d) (hb : Below w.heap.size w w') : CD B w' g W F d := h.same hc (fun k hk => hb.block k (h.lt hc k hk)) hb.size
end Go.Proofs.YtcmkjjlchljffaaDoor

/- told: what both disks tell of themselves is the same. -/
namespace Go.Proofs.YtcmkjjlchljffaaDoor
open Go.RowKit
set_option linter.unusedVariables false

def rdZ (d : Dk) (nm : ByteArray) : Int := if (d.fs.find? (isN nm)).isNone then 6 else 0
def rdB (d : Dk) (nm : ByteArray) : List UInt8 := match d.fs.find? (isN nm) with | none => [] | some f => f.bs
theorem rdB_len {d : Dk} (hd : Fine d) (nm : ByteArray) : (rdB d nm).length ≤ 67108864 := by
  unfold rdB
  split
  · exact Nat.zero_le _
  · rename_i f hf
    have := mem_used (List.mem_of_find?_eq_some hf)
    have := hd.us
    have := hd.sz
    omega
theorem Face.read {U : Prop} {CD : CDT} (h : Face U CD) {B g : Nat} {w : World} {W F : Nat → Prop} {d : Dk} {nm : ByteArray} (hc : CD B w g W F d) (hd : Fine d) (hn : nm.size ≤ 9223372036854775807) :
    Calls Tryd.prog 13 #[ptr g, .string nm] w fun r w' => ∃ v, r = .returned (.tuple #[v, .int .i64 (rdZ d nm)]) ∧ RoomB U w.heap.size w' v (rdB d nm) ∧ Below w.heap.size w w' := by
  cases hf : d.fs.find? (isN nm) with
  | none =>
    refine (h.readNo hc hd hn hf).mono ?_
    rintro r w' ⟨rfl, hb⟩
    exact ⟨_, by rw [rdZ, hf]; rfl, .inl ⟨by rw [rdB, hf], none, rfl⟩, hb⟩
  | some f =>
    refine (h.readYes hc hd hn hf).mono ?_
    rintro r w' ⟨v, rfl, hr, hb⟩
    exact ⟨v, by rw [rdZ, hf]; rfl, by rw [rdB, hf]; exact hr, hb⟩
theorem refRead_any {B g : Nat} {w : World} {W F : Nat → Prop} {d : Dk} {nm : ByteArray} (h : RD B w g W F d) (hd : Fine d) :
    Calls Tryd.prog 44 #[ptr g, .string nm] w fun r w' => ∃ a c, r = .returned (.tuple #[.slice a (rdB d nm).length c, .int .i64 (rdZ d nm)]) ∧ Row w' a (rdB d nm) ∧ (rdB d nm).length ≤ c ∧ Below w.heap.size w w' := by
  have hl : d.fs.length ≤ 1048576 := by have := hd.ln; omega
  cases hf : d.fs.find? (isN nm) with
  | none =>
    refine (refRead_no B g W F d nm w h hl hf).mono ?_
    rintro r w' ⟨rfl, rfl⟩
    have e : rdB d nm = [] := by rw [rdB, hf]
    refine ⟨none, 0, ?_, by rw [e]; exact .inl rfl, by rw [e]; exact Nat.le_refl _, Below.refl _ _⟩
    rw [e, rdZ, hf]
    rfl
  | some f =>
    have e : rdB d nm = f.bs := by rw [rdB, hf]
    have hb := rdB_len hd nm
    rw [e] at hb ⊢
    refine (refRead_yes B g W F d nm f w h hl hf (by omega)).mono ?_
    rintro r w' ⟨v, rfl, ho, hb⟩
    obtain ⟨a, c, rfl, c1, _, _, _, r⟩ := ho.row
    exact ⟨a, c, by rw [rdZ, hf]; rfl, rowB.1 r, c1, hb⟩
set_option maxRecDepth 100000 in
set_option maxHeartbeats 6400000 in
theorem told_ok {CD : CDT} (Fc : Face True CD) (B gc gr : Nat) (Wc Fcs Wr Fr : Nat → Prop) (d : Dk) (nm : ByteArray) (w : World) (hc : CD B w gc Wc Fcs d) (hr : RD B w gr Wr Fr d) (hd : Fine d) (hs : Sorted d.fs) (hn : nm.size ≤ 9223372036854775807) :
    Calls Tryd.prog 12 #[ptr gc, ptr gr, .string nm] w fun r w' => r = .returned (.bool true) ∧ Below w.heap.size w w' := by
  have hl : d.fs.length ≤ 1048576 := by have := hd.ln; omega
  have hcb : ∀ u, Below w.heap.size w u → CD B u gc Wc Fcs d := fun u hu => Fc.below hc hu
  have hrb : ∀ u, Below w.heap.size w u → RD B u gr Wr Fr d := fun u hu => hr.below hu
  have HNm := hidU (Fc.names hc hd hs)
  have HRd : Hid (∀ u, Below w.heap.size w u → Calls Tryd.prog 13 #[ptr gc, .string nm] u fun r w' => ∃ v, r = .returned (.tuple #[v, .int .i64 (rdZ d nm)]) ∧ RoomB True u.heap.size w' v (rdB d nm) ∧ Below u.heap.size u w') := fun u hu => Fc.read (hcb u hu) hd hn
  have HRr : Hid (∀ u, Below w.heap.size w u → Calls Tryd.prog 44 #[ptr gr, .string nm] u fun r w' => ∃ a c, r = .returned (.tuple #[.slice a (rdB d nm).length c, .int .i64 (rdZ d nm)]) ∧ Row w' a (rdB d nm) ∧ (rdB d nm).length ≤ c ∧ Below u.heap.size u w') := fun u hu => refRead_any (hrb u hu) hd
  have HNr : Hid (∀ u, Below w.heap.size w u → Calls Tryd.prog 45 #[ptr gr] u fun r w' => ∃ v, r = .returned v ∧ OwnX eS u.heap.size w' v (d.fs.map Fi.nm) ∧ Below u.heap.size u w') := fun u hu => refNames_any B gr Wr Fr d u (hrb u hu) hl
  obtain ⟨u, hu⟩ : ∃ x, x = usedL d.fs := ⟨_, rfl⟩
  obtain ⟨S, hS⟩ : ∃ x, x = d.sz := ⟨_, rfl⟩
  obtain ⟨L, hL⟩ : ∃ x, x = d.lf := ⟨_, rfl⟩
  obtain ⟨N, hN⟩ : ∃ x, x = d.wr := ⟨_, rfl⟩
  obtain ⟨Z, hZ⟩ : ∃ x, x = lsD d.fs nm := ⟨_, rfl⟩
  have HU : Hid (∀ x, Below w.heap.size w x → Calls Tryd.prog 21 #[ptr gc] x fun r w' => r = .returned (.int .i64 (u : Int)) ∧ Below x.heap.size x w') := fun x hx => by rw [hu]; exact Fc.used (hcb x hx) hd
  have HRU : Hid (∀ x, Below w.heap.size w x → Calls Tryd.prog 41 #[ptr gr] x fun r w' => r = .returned (.int .i64 (u : Int)) ∧ Below x.heap.size x w') := fun x hx => by
    rw [hu]
    refine (refUsed_any B gr Wr Fr d x (hrb x hx) hl (by have := hd.us; have := hd.sz; omega)).mono ?_
    rintro r w' ⟨rfl, rfl⟩
    exact ⟨rfl, Below.refl _ _⟩
  have HSz : Hid (∀ x, Below w.heap.size w x → Calls Tryd.prog 22 #[ptr gc] x fun r w' => r = .returned (.int .i64 (S : Int)) ∧ Below x.heap.size x w') := fun x hx => by rw [hS]; exact Fc.size (hcb x hx)
  have HLs : Hid (∀ x, Below w.heap.size w x → Calls Tryd.prog 23 #[ptr gc, .string nm] x fun r w' => r = .returned (.int .i64 Z) ∧ Below x.heap.size x w') := fun x hx => by rw [hZ]; exact Fc.loose (hcb x hx) hd hn
  have HRL : Hid (∀ x, Below w.heap.size w x → Calls Tryd.prog 48 #[ptr gr, .string nm] x fun r w' => r = .returned (.int .i64 Z) ∧ Below x.heap.size x w') := fun x hx => by
    rw [hZ]
    refine (refLoose_any B gr Wr Fr d nm x (hrb x hx) hl (fun f hf => ⟨hd.sf f hf, by have := mem_used hf; have := hd.us; have := hd.sz; omega⟩)).mono ?_
    rintro r w' ⟨rfl, _, hb⟩
    exact ⟨rfl, hb⟩
  have HSt : Hid (∀ x, Below w.heap.size w x → Calls Tryd.prog 24 #[ptr gc] x fun r w' => r = .returned (.bool (L == 0)) ∧ Below x.heap.size x w') := fun x hx => by rw [hL]; exact Fc.stopped (hcb x hx)
  have HWr : Hid (∀ x, Below w.heap.size w x → Calls Tryd.prog 25 #[ptr gc] x fun r w' => r = .returned (.int .i64 (N : Int)) ∧ Below x.heap.size x w') := fun x hx => by rw [hN]; exact Fc.writes (hcb x hx)
  have HCells : Hid (∀ x, Below w.heap.size w x → x.cell? ⟨gr, 0, none⟩ = some (.int .i64 (S : Int)) ∧ x.cell? ⟨gr, 2, none⟩ = some (.int .i64 L) ∧ x.cell? ⟨gr, 3, none⟩ = some (.int .i64 (N : Int))) := fun x hx => by
    obtain ⟨v, ts, h⟩ := hrb x hx
    rw [hS, hL, hN]
    refine ⟨?_, ?_, ?_⟩ <;> rw [h.at_.cell] <;> rfl
  obtain ⟨ns, hns⟩ : ∃ x, x = d.fs.map Fi.nm := ⟨_, rfl⟩
  obtain ⟨bs, hbs⟩ : ∃ x, x = rdB d nm := ⟨_, rfl⟩
  obtain ⟨ez, hez⟩ : ∃ x, x = rdZ d nm := ⟨_, rfl⟩
  have hnl : ns.length ≤ 1048576 := by rw [hns, List.length_map]; exact hl
  rw [← hns] at HNm HNr
  rw [← hbs, ← hez] at HRd HRr
  clear hc hr hd hs hn hl hcb hrb hu hS hL hN hZ hns hbs hez
  go_enter Tryd.func12, Tryd.ntmps12
  go_wp2_with (go_at_call 20; refine HNm.out.mono ?_; rintro _ w1 ⟨v1, rfl, hr1, hb1⟩; refine Hid.out ?_)
  refine hidU ?_
  have HB1 := hidU hb1
  have H1 := hidU (HRd.out w1 hb1)
  have HR1 := hidU hr1
  clear hb1 hr1 HNm HRd
  go_wp2_with (go_at_call 13; refine H1.out.mono ?_; rintro _ w2 ⟨v2, rfl, hr2, hb2⟩; refine Hid.out ?_)
  refine hidU ?_
  have HB2 := hidU (HB1.out.trans (hb2.mono HB1.out.size))
  have H2 := hidU (HRr.out w2 HB2.out)
  have HR2 := hidU hr2
  have HR12 := hidU (HR1.out.below hb2)
  have hbase := HB1.out.size
  have hz2 := hb2.size
  clear hb2 hr2 H1 HRr HR1
  go_wp2_with (go_at_call 44; refine H2.out.mono ?_; rintro _ w3 ⟨a3, c3', rfl, hr3, hc3, hb3⟩; refine Hid.out ?_)
  refine hidU ?_
  have HB3 := hidU (HB2.out.trans (hb3.mono HB2.out.size))
  have H3 := hidU (HNr.out w3 HB3.out)
  have HR13 := hidU (HR12.out.below hb3)
  have HR23 := hidU (HR2.out.below hb3)
  have HR33 := hidU hr3
  have hz3 := hb3.size
  clear hb3 hr3 H2 HNr HR12 HR2
  go_wp2_with (go_at_call 45; refine H3.out.mono ?_; rintro _ w4 ⟨v4, rfl, ho4, hb4⟩; refine Hid.out ?_)
  refine hidU ?_
  have HB4 := hidU (HB3.out.trans (hb4.mono HB3.out.size))
  have HR14 := hidU (HR13.out.below hb4)
  have HR24 := hidU (HR23.out.below hb4)
  have HR34 := hidU (HR33.out.below hb4)
  have hz4 := hb4.size
  obtain ⟨a4, c4, rfl, k4, _, _, _, row4⟩ := ho4.row
  obtain ⟨a1, c1, hv1, k1, row1⟩ := HR14.out.row
  have H4 := hidU (sameTexts_any ns ns a1 a4 c1 c4 w4 row1 row4 k1 k4 (by omega) (by omega))
  rw [show sameS ns ns = true by simp [sameS], ← hv1] at H4
  have HV1 := hidU hv1
  clear hb4 ho4 row4 row1 H3 HR13 HR23 HR33 hv1
  go_wp2_with (go_at_call 30; refine H4.out.mono ?_; rintro _ w5 ⟨rfl, hb5, _⟩; refine Hid.out ?_)
  refine hidU ?_
  have HB5 := hidU (HB4.out.trans (hb5.mono HB4.out.size))
  have HR15 := hidU (HR14.out.below hb5)
  have HR25 := hidU (HR24.out.below hb5)
  have HR35 := hidU (HR34.out.below hb5)
  have hz5 := hb5.size
  obtain ⟨a2, c2, hv2, k2, row2⟩ := HR25.out.row
  have H5 := hidU (same_any a2 a3 c2 c3' bs bs w5 row2 HR35.out)
  rw [← hv2] at H5
  have HV2 := hidU hv2
  clear hb5 row2 H4 HR14 HR24 HR34 hv2
  go_wp2_with (first | (go_at_call 31; refine H5.out.mono ?_; rintro _ w6 ⟨rfl, hw6⟩; obtain rfl : w5 = w6 := hw6.symm; clear hw6; refine Hid.out ?_))
  refine hidU ?_
  have H6 := hidU (roomS_over HR15.out)
  clear H5 HR15 HR35
  go_wp2_with (go_at_call 46; refine H6.out.mono ?_; rintro _ w7 ⟨rfl, K, hb7, hK⟩; refine Hid.out ?_)
  refine hidU ?_
  have HB7 := hidU (HB5.out.trans (hb7.below HB5.out.size fun k hk => (hK k hk).1))
  have HR27 := hidU (HR25.out.chg hb7 fun k hk => (hK k hk).2)
  have H7 := hidU (roomB_over HR27.out (by have := hb7.size; omega))
  clear hb7 hK H6 HR25
  go_wp2_with (go_at_call 47; refine H7.out.mono ?_; rintro _ w9 ⟨rfl, hb9⟩; refine Hid.out ?_)
  refine hidU ?_
  have HB9 := hidU (HB7.out.trans (hb9.mono hbase))
  obtain ⟨c0, c2', c3⟩ := HCells.out w9 HB9.out
  have c2 := c2'
  clear c2' hb9 H7 HR27 HCells
  have hcar : ∀ {f : Nat} {args : Array Value} {v : Value}, Hid (∀ x, Below w.heap.size w x → Calls Tryd.prog f args x fun r w' => r = .returned v ∧ Below x.heap.size x w') → Hid (∀ x, Below w9.heap.size w9 x → Calls Tryd.prog f args x fun r w' => r = .returned v ∧ Below x.heap.size x w') := fun h x hx => h.out x (HB9.out.trans (hx.mono HB9.out.size))
  have HU := hcar HU
  have HRU := hcar HRU
  have HSz := hcar HSz
  have HLs := hcar HLs
  have HRL := hcar HRL
  have HSt := hcar HSt
  have HWr := hcar HWr
  clear hcar
  go_wp2
  have hS0a : Below w9.heap.size w9 w9.drew := Below.drew (Below.refl _ _)
  refine wp_region_held_drew (S := fun xS => Below w9.heap.size w9 xS) (by kernel_rfl) hS0a ?_
  obtain ⟨x0a, hx0⟩ : ∃ x, x = w9.drew := ⟨_, rfl⟩
  rw [← hx0] at hS0a  ⊢
  clear hx0
  intro _
  refine wpAnyH_take (i := 0) (oi := { dst := some 46, op := .move (.tmp 0), type := _, pos := _, after := _, guard := none }) (v := .pointer (some ⟨gc, 0, none⟩)) rfl (by kernel_rfl) (by kernel_rfl) (by kernel_rfl) (fun _ _ _ h => h) (Or.inl ⟨by rfl, ?_⟩) hS0a ?_
  · intro wS hSw
    go_simp
  simp only [Act.put, List.setIfInBounds_toArray, List.set_cons_zero, List.set_cons_succ]
  refine wpAnyH_take (i := 2) (oi := { dst := some 48, op := .move (.tmp 1), type := _, pos := _, after := _, guard := none }) (v := .pointer (some ⟨gr, 0, none⟩)) rfl (by kernel_rfl) (by kernel_rfl) (by kernel_rfl) (fun _ _ _ h => h) (Or.inl ⟨by rfl, ?_⟩) hS0a ?_
  · intro wS hSw
    go_simp
  simp only [Act.put, List.setIfInBounds_toArray, List.set_cons_zero, List.set_cons_succ]
  refine wpAnyH_ready (rs := [1]) (by kernel_rfl) (by simp) ?_
  refine AllReadyH.cons (o := { dst := some 47, op := .call { callee := .value (.func 21), args := #[.tmp 46], argTypes := #[22] }, type := _, pos := _, after := _, guard := none }) rfl (fun K hK => ?_) AllReadyH.nil
  rw [if_pos (by rfl)]
  have sv1a := hS0a.size
  go_wp2_with (go_at_call 21; refine (HU.out x0a hS0a).mono ?_; rintro e x1a ⟨rfl, hb1a⟩)
  have sz1a := hb1a.size
  have hS1a := hS0a.trans (hb1a.mono hS0a.size)
  refine hK.out _ _ hS1a (fun _ => ?_)
  clear hK K
  refine wpAnyH_ready (rs := [3]) (by kernel_rfl) (by simp) ?_
  refine AllReadyH.cons (o := { dst := some 49, op := .call { callee := .value (.func 41), args := #[.tmp 48], argTypes := #[26] }, type := _, pos := _, after := _, guard := none }) rfl (fun K hK => ?_) AllReadyH.nil
  rw [if_pos (by rfl)]
  have sv2a := hS1a.size
  go_wp2_with (go_at_call 41; refine (HRU.out x1a hS1a).mono ?_; rintro e x2a ⟨rfl, hb2a⟩)
  have sz2a := hb2a.size
  have hS2a := hS1a.trans (hb2a.mono hS1a.size)
  refine hK.out _ _ hS2a (fun _ => ?_)
  clear hK K
  refine wpAnyH_take (i := 4) (oi := { dst := some 50, op := .binOp .eql 3 (.tmp 47) (.tmp 49) 3, type := _, pos := _, after := _, guard := none }) (v := .bool true) rfl (by kernel_rfl) (by kernel_rfl) (by kernel_rfl) (fun _ _ _ h => h) (Or.inl ⟨by rfl, ?_⟩) hS2a ?_
  · intro wS hSw
    go_simp
  simp only [Act.put, List.setIfInBounds_toArray, List.set_cons_zero, List.set_cons_succ]
  refine wpAnyH_take (i := 5) (oi := { dst := some 51, op := .move (.tmp 50), type := _, pos := _, after := _, guard := none }) (v := .bool true) rfl (by kernel_rfl) (by kernel_rfl) (by kernel_rfl) (fun _ _ _ h => h) (Or.inl ⟨by rfl, ?_⟩) hS2a ?_
  · intro wS hSw
    go_simp
  simp only [Act.put, List.setIfInBounds_toArray, List.set_cons_zero, List.set_cons_succ]
  refine wpAnyH_take (i := 6) (oi := { dst := some 52, op := .move (.tmp 0), type := _, pos := _, after := _, guard := some (5, true) }) (v := .pointer (some ⟨gc, 0, none⟩)) rfl (by kernel_rfl) (by kernel_rfl) (by kernel_rfl) (fun _ _ _ h => h) (Or.inl ⟨by rfl, ?_⟩) hS2a ?_
  · intro wS hSw
    go_simp
  simp only [Act.put, List.setIfInBounds_toArray, List.set_cons_zero, List.set_cons_succ]
  refine wpAnyH_take (i := 8) (oi := { dst := some 54, op := .move (.tmp 1), type := _, pos := _, after := _, guard := some (5, true) }) (v := .pointer (some ⟨gr, 0, none⟩)) rfl (by kernel_rfl) (by kernel_rfl) (by kernel_rfl) (fun _ _ _ h => h) (Or.inl ⟨by rfl, ?_⟩) hS2a ?_
  · intro wS hSw
    go_simp
  simp only [Act.put, List.setIfInBounds_toArray, List.set_cons_zero, List.set_cons_succ]
  refine wpAnyH_take (i := 9) (oi := { dst := some 55, op := .nilCheck (.tmp 54), type := _, pos := _, after := _, guard := some (5, true) }) (v := .pointer (some ⟨gr, 0, none⟩)) rfl (by kernel_rfl) (by kernel_rfl) (by kernel_rfl) (fun _ _ _ h => h) (Or.inl ⟨by rfl, ?_⟩) hS2a ?_
  · intro wS hSw
    go_simp
  simp only [Act.put, List.setIfInBounds_toArray, List.set_cons_zero, List.set_cons_succ]
  refine wpAnyH_take (i := 10) (oi := { dst := some 56, op := .fieldAddr 61 (.tmp 55) 0, type := _, pos := _, after := _, guard := some (5, true) }) (v := .pointer (some ⟨gr, 0, none⟩)) rfl (by kernel_rfl) (by kernel_rfl) (by kernel_rfl) (fun _ _ _ h => h) (Or.inl ⟨by rfl, ?_⟩) hS2a ?_
  · intro wS hSw
    go_simp
  simp only [Act.put, List.setIfInBounds_toArray, List.set_cons_zero, List.set_cons_succ]
  refine wpAnyH_take (i := 11) (oi := { dst := some 57, op := .load 3 (.tmp 56), type := _, pos := _, after := _, guard := some (5, true) }) (v := .int .i64 (S : Int)) rfl (by kernel_rfl) (by kernel_rfl) (by kernel_rfl) (fun _ _ _ h => h) (Or.inl ⟨by rfl, ?_⟩) hS2a ?_
  · intro wS hSw
    have z0 := (hSw.cell (lt_of_cell c0)).trans c0
    go_simp
  simp only [Act.put, List.setIfInBounds_toArray, List.set_cons_zero, List.set_cons_succ]
  refine wpAnyH_ready (rs := [7]) (by kernel_rfl) (by simp) ?_
  refine AllReadyH.cons (o := { dst := some 53, op := .call { callee := .value (.func 22), args := #[.tmp 52], argTypes := #[22] }, type := _, pos := _, after := _, guard := some (5, true) }) rfl (fun K hK => ?_) AllReadyH.nil
  rw [if_pos (by rfl)]
  have sv3a := hS2a.size
  go_wp2_with (go_at_call 22; refine (HSz.out x2a hS2a).mono ?_; rintro e x3a ⟨rfl, hb3a⟩)
  have sz3a := hb3a.size
  have hS3a := hS2a.trans (hb3a.mono hS2a.size)
  refine hK.out _ _ hS3a (fun _ => ?_)
  clear hK K
  refine wpAnyH_take (i := 12) (oi := { dst := some 58, op := .binOp .eql 3 (.tmp 53) (.tmp 57) 3, type := _, pos := _, after := _, guard := some (5, true) }) (v := .bool true) rfl (by kernel_rfl) (by kernel_rfl) (by kernel_rfl) (fun _ _ _ h => h) (Or.inl ⟨by rfl, ?_⟩) hS3a ?_
  · intro wS hSw
    go_simp
  simp only [Act.put, List.setIfInBounds_toArray, List.set_cons_zero, List.set_cons_succ]
  refine wpAnyH_take (i := 13) (oi := { dst := some 59, op := .pick (.tmp 51) (.tmp 58) (.const (.bool false)), type := _, pos := _, after := _, guard := none }) (v := .bool true) rfl (by kernel_rfl) (by kernel_rfl) (by kernel_rfl) (fun _ _ _ h => h) (Or.inl ⟨by rfl, ?_⟩) hS3a ?_
  · intro wS hSw
    go_simp
  simp only [Act.put, List.setIfInBounds_toArray, List.set_cons_zero, List.set_cons_succ]
  refine wpAnyH_take (i := 14) (oi := { dst := some 60, op := .move (.tmp 59), type := _, pos := _, after := _, guard := none }) (v := .bool true) rfl (by kernel_rfl) (by kernel_rfl) (by kernel_rfl) (fun _ _ _ h => h) (Or.inl ⟨by rfl, ?_⟩) hS3a ?_
  · intro wS hSw
    go_simp
  simp only [Act.put, List.setIfInBounds_toArray, List.set_cons_zero, List.set_cons_succ]
  refine wpAnyH_take (i := 15) (oi := { dst := some 61, op := .move (.tmp 0), type := _, pos := _, after := _, guard := some (14, true) }) (v := .pointer (some ⟨gc, 0, none⟩)) rfl (by kernel_rfl) (by kernel_rfl) (by kernel_rfl) (fun _ _ _ h => h) (Or.inl ⟨by rfl, ?_⟩) hS3a ?_
  · intro wS hSw
    go_simp
  simp only [Act.put, List.setIfInBounds_toArray, List.set_cons_zero, List.set_cons_succ]
  refine wpAnyH_take (i := 16) (oi := { dst := some 62, op := .move (.tmp 2), type := _, pos := _, after := _, guard := some (14, true) }) (v := .string nm) rfl (by kernel_rfl) (by kernel_rfl) (by kernel_rfl) (fun _ _ _ h => h) (Or.inl ⟨by rfl, ?_⟩) hS3a ?_
  · intro wS hSw
    go_simp
  simp only [Act.put, List.setIfInBounds_toArray, List.set_cons_zero, List.set_cons_succ]
  refine wpAnyH_take (i := 18) (oi := { dst := some 64, op := .move (.tmp 1), type := _, pos := _, after := _, guard := some (14, true) }) (v := .pointer (some ⟨gr, 0, none⟩)) rfl (by kernel_rfl) (by kernel_rfl) (by kernel_rfl) (fun _ _ _ h => h) (Or.inl ⟨by rfl, ?_⟩) hS3a ?_
  · intro wS hSw
    go_simp
  simp only [Act.put, List.setIfInBounds_toArray, List.set_cons_zero, List.set_cons_succ]
  refine wpAnyH_take (i := 19) (oi := { dst := some 65, op := .move (.tmp 2), type := _, pos := _, after := _, guard := some (14, true) }) (v := .string nm) rfl (by kernel_rfl) (by kernel_rfl) (by kernel_rfl) (fun _ _ _ h => h) (Or.inl ⟨by rfl, ?_⟩) hS3a ?_
  · intro wS hSw
    go_simp
  simp only [Act.put, List.setIfInBounds_toArray, List.set_cons_zero, List.set_cons_succ]
  refine wpAnyH_ready (rs := [17]) (by kernel_rfl) (by simp) ?_
  refine AllReadyH.cons (o := { dst := some 63, op := .call { callee := .value (.func 23), args := #[.tmp 61, .tmp 62], argTypes := #[22, 9] }, type := _, pos := _, after := _, guard := some (14, true) }) rfl (fun K hK => ?_) AllReadyH.nil
  rw [if_pos (by rfl)]
  have sv4a := hS3a.size
  go_wp2_with (go_at_call 23; refine (HLs.out x3a hS3a).mono ?_; rintro e x4a ⟨rfl, hb4a⟩)
  have sz4a := hb4a.size
  have hS4a := hS3a.trans (hb4a.mono hS3a.size)
  refine hK.out _ _ hS4a (fun _ => ?_)
  clear hK K
  refine wpAnyH_ready (rs := [20]) (by kernel_rfl) (by simp) ?_
  refine AllReadyH.cons (o := { dst := some 66, op := .call { callee := .value (.func 48), args := #[.tmp 64, .tmp 65], argTypes := #[26, 9] }, type := _, pos := _, after := _, guard := some (14, true) }) rfl (fun K hK => ?_) AllReadyH.nil
  rw [if_pos (by rfl)]
  have sv5a := hS4a.size
  go_wp2_with (go_at_call 48; refine (HRL.out x4a hS4a).mono ?_; rintro e x5a ⟨rfl, hb5a⟩)
  have sz5a := hb5a.size
  have hS5a := hS4a.trans (hb5a.mono hS4a.size)
  refine hK.out _ _ hS5a (fun _ => ?_)
  clear hK K
  refine wpAnyH_take (i := 21) (oi := { dst := some 67, op := .binOp .eql 3 (.tmp 63) (.tmp 66) 3, type := _, pos := _, after := _, guard := some (14, true) }) (v := .bool true) rfl (by kernel_rfl) (by kernel_rfl) (by kernel_rfl) (fun _ _ _ h => h) (Or.inl ⟨by rfl, ?_⟩) hS5a ?_
  · intro wS hSw
    go_simp
  simp only [Act.put, List.setIfInBounds_toArray, List.set_cons_zero, List.set_cons_succ]
  refine wpAnyH_take (i := 22) (oi := { dst := some 68, op := .pick (.tmp 60) (.tmp 67) (.const (.bool false)), type := _, pos := _, after := _, guard := none }) (v := .bool true) rfl (by kernel_rfl) (by kernel_rfl) (by kernel_rfl) (fun _ _ _ h => h) (Or.inl ⟨by rfl, ?_⟩) hS5a ?_
  · intro wS hSw
    go_simp
  simp only [Act.put, List.setIfInBounds_toArray, List.set_cons_zero, List.set_cons_succ]
  refine wpAnyH_take (i := 23) (oi := { dst := some 69, op := .move (.tmp 68), type := _, pos := _, after := _, guard := none }) (v := .bool true) rfl (by kernel_rfl) (by kernel_rfl) (by kernel_rfl) (fun _ _ _ h => h) (Or.inl ⟨by rfl, ?_⟩) hS5a ?_
  · intro wS hSw
    go_simp
  simp only [Act.put, List.setIfInBounds_toArray, List.set_cons_zero, List.set_cons_succ]
  refine wpAnyH_take (i := 24) (oi := { dst := some 70, op := .move (.tmp 0), type := _, pos := _, after := _, guard := some (23, true) }) (v := .pointer (some ⟨gc, 0, none⟩)) rfl (by kernel_rfl) (by kernel_rfl) (by kernel_rfl) (fun _ _ _ h => h) (Or.inl ⟨by rfl, ?_⟩) hS5a ?_
  · intro wS hSw
    go_simp
  simp only [Act.put, List.setIfInBounds_toArray, List.set_cons_zero, List.set_cons_succ]
  refine wpAnyH_take (i := 26) (oi := { dst := some 72, op := .move (.tmp 1), type := _, pos := _, after := _, guard := some (23, true) }) (v := .pointer (some ⟨gr, 0, none⟩)) rfl (by kernel_rfl) (by kernel_rfl) (by kernel_rfl) (fun _ _ _ h => h) (Or.inl ⟨by rfl, ?_⟩) hS5a ?_
  · intro wS hSw
    go_simp
  simp only [Act.put, List.setIfInBounds_toArray, List.set_cons_zero, List.set_cons_succ]
  refine wpAnyH_take (i := 27) (oi := { dst := some 73, op := .nilCheck (.tmp 72), type := _, pos := _, after := _, guard := some (23, true) }) (v := .pointer (some ⟨gr, 0, none⟩)) rfl (by kernel_rfl) (by kernel_rfl) (by kernel_rfl) (fun _ _ _ h => h) (Or.inl ⟨by rfl, ?_⟩) hS5a ?_
  · intro wS hSw
    go_simp
  simp only [Act.put, List.setIfInBounds_toArray, List.set_cons_zero, List.set_cons_succ]
  refine wpAnyH_take (i := 28) (oi := { dst := some 74, op := .fieldAddr 61 (.tmp 73) 2, type := _, pos := _, after := _, guard := some (23, true) }) (v := .pointer (some ⟨gr, 2, none⟩)) rfl (by kernel_rfl) (by kernel_rfl) (by kernel_rfl) (fun _ _ _ h => h) (Or.inl ⟨by rfl, ?_⟩) hS5a ?_
  · intro wS hSw
    go_simp
  simp only [Act.put, List.setIfInBounds_toArray, List.set_cons_zero, List.set_cons_succ]
  refine wpAnyH_take (i := 29) (oi := { dst := some 75, op := .load 3 (.tmp 74), type := _, pos := _, after := _, guard := some (23, true) }) (v := .int .i64 L) rfl (by kernel_rfl) (by kernel_rfl) (by kernel_rfl) (fun _ _ _ h => h) (Or.inl ⟨by rfl, ?_⟩) hS5a ?_
  · intro wS hSw
    have z0 := (hSw.cell (lt_of_cell c2)).trans c2
    go_simp
  simp only [Act.put, List.setIfInBounds_toArray, List.set_cons_zero, List.set_cons_succ]
  refine wpAnyH_take (i := 30) (oi := { dst := some 76, op := .binOp .eql 3 (.tmp 75) (.const (.int .i64 0)) 3, type := _, pos := _, after := _, guard := some (23, true) }) (v := .bool (L == 0)) rfl (by kernel_rfl) (by kernel_rfl) (by kernel_rfl) (fun _ _ _ h => h) (Or.inl ⟨by rfl, ?_⟩) hS5a ?_
  · intro wS hSw
    go_simp
  simp only [Act.put, List.setIfInBounds_toArray, List.set_cons_zero, List.set_cons_succ]
  refine wpAnyH_ready (rs := [25]) (by kernel_rfl) (by simp) ?_
  refine AllReadyH.cons (o := { dst := some 71, op := .call { callee := .value (.func 24), args := #[.tmp 70], argTypes := #[22] }, type := _, pos := _, after := _, guard := some (23, true) }) rfl (fun K hK => ?_) AllReadyH.nil
  rw [if_pos (by rfl)]
  have sv6a := hS5a.size
  go_wp2_with (go_at_call 24; refine (HSt.out x5a hS5a).mono ?_; rintro e x6a ⟨rfl, hb6a⟩)
  have sz6a := hb6a.size
  have hS6a := hS5a.trans (hb6a.mono hS5a.size)
  refine hK.out _ _ hS6a (fun _ => ?_)
  clear hK K
  refine wpAnyH_take (i := 31) (oi := { dst := some 77, op := .binOp .eql 4 (.tmp 71) (.tmp 76) 4, type := _, pos := _, after := _, guard := some (23, true) }) (v := .bool true) rfl (by kernel_rfl) (by kernel_rfl) (by kernel_rfl) (fun _ _ _ h => h) (Or.inl ⟨by rfl, ?_⟩) hS6a ?_
  · intro wS hSw
    go_simp
  simp only [Act.put, List.setIfInBounds_toArray, List.set_cons_zero, List.set_cons_succ]
  refine wpAnyH_take (i := 32) (oi := { dst := some 78, op := .pick (.tmp 69) (.tmp 77) (.const (.bool false)), type := _, pos := _, after := _, guard := none }) (v := .bool true) rfl (by kernel_rfl) (by kernel_rfl) (by kernel_rfl) (fun _ _ _ h => h) (Or.inl ⟨by rfl, ?_⟩) hS6a ?_
  · intro wS hSw
    go_simp
  simp only [Act.put, List.setIfInBounds_toArray, List.set_cons_zero, List.set_cons_succ]
  refine wpAnyH_take (i := 33) (oi := { dst := some 79, op := .move (.tmp 78), type := _, pos := _, after := _, guard := none }) (v := .bool true) rfl (by kernel_rfl) (by kernel_rfl) (by kernel_rfl) (fun _ _ _ h => h) (Or.inl ⟨by rfl, ?_⟩) hS6a ?_
  · intro wS hSw
    go_simp
  simp only [Act.put, List.setIfInBounds_toArray, List.set_cons_zero, List.set_cons_succ]
  refine wpAnyH_take (i := 34) (oi := { dst := some 80, op := .move (.tmp 0), type := _, pos := _, after := _, guard := some (33, true) }) (v := .pointer (some ⟨gc, 0, none⟩)) rfl (by kernel_rfl) (by kernel_rfl) (by kernel_rfl) (fun _ _ _ h => h) (Or.inl ⟨by rfl, ?_⟩) hS6a ?_
  · intro wS hSw
    go_simp
  simp only [Act.put, List.setIfInBounds_toArray, List.set_cons_zero, List.set_cons_succ]
  refine wpAnyH_take (i := 36) (oi := { dst := some 82, op := .move (.tmp 1), type := _, pos := _, after := _, guard := some (33, true) }) (v := .pointer (some ⟨gr, 0, none⟩)) rfl (by kernel_rfl) (by kernel_rfl) (by kernel_rfl) (fun _ _ _ h => h) (Or.inl ⟨by rfl, ?_⟩) hS6a ?_
  · intro wS hSw
    go_simp
  simp only [Act.put, List.setIfInBounds_toArray, List.set_cons_zero, List.set_cons_succ]
  refine wpAnyH_take (i := 37) (oi := { dst := some 83, op := .nilCheck (.tmp 82), type := _, pos := _, after := _, guard := some (33, true) }) (v := .pointer (some ⟨gr, 0, none⟩)) rfl (by kernel_rfl) (by kernel_rfl) (by kernel_rfl) (fun _ _ _ h => h) (Or.inl ⟨by rfl, ?_⟩) hS6a ?_
  · intro wS hSw
    go_simp
  simp only [Act.put, List.setIfInBounds_toArray, List.set_cons_zero, List.set_cons_succ]
  refine wpAnyH_take (i := 38) (oi := { dst := some 84, op := .fieldAddr 61 (.tmp 83) 3, type := _, pos := _, after := _, guard := some (33, true) }) (v := .pointer (some ⟨gr, 3, none⟩)) rfl (by kernel_rfl) (by kernel_rfl) (by kernel_rfl) (fun _ _ _ h => h) (Or.inl ⟨by rfl, ?_⟩) hS6a ?_
  · intro wS hSw
    go_simp
  simp only [Act.put, List.setIfInBounds_toArray, List.set_cons_zero, List.set_cons_succ]
  refine wpAnyH_take (i := 39) (oi := { dst := some 85, op := .load 3 (.tmp 84), type := _, pos := _, after := _, guard := some (33, true) }) (v := .int .i64 (N : Int)) rfl (by kernel_rfl) (by kernel_rfl) (by kernel_rfl) (fun _ _ _ h => h) (Or.inl ⟨by rfl, ?_⟩) hS6a ?_
  · intro wS hSw
    have z0 := (hSw.cell (lt_of_cell c3)).trans c3
    go_simp
  simp only [Act.put, List.setIfInBounds_toArray, List.set_cons_zero, List.set_cons_succ]
  refine wpAnyH_ready (rs := [35]) (by kernel_rfl) (by simp) ?_
  refine AllReadyH.cons (o := { dst := some 81, op := .call { callee := .value (.func 25), args := #[.tmp 80], argTypes := #[22] }, type := _, pos := _, after := _, guard := some (33, true) }) rfl (fun K hK => ?_) AllReadyH.nil
  rw [if_pos (by rfl)]
  have sv7a := hS6a.size
  go_wp2_with (go_at_call 25; refine (HWr.out x6a hS6a).mono ?_; rintro e x7a ⟨rfl, hb7a⟩)
  have sz7a := hb7a.size
  have hS7a := hS6a.trans (hb7a.mono hS6a.size)
  refine hK.out _ _ hS7a (fun _ => ?_)
  clear hK K
  refine wpAnyH_take (i := 40) (oi := { dst := some 86, op := .binOp .eql 3 (.tmp 81) (.tmp 85) 3, type := _, pos := _, after := _, guard := some (33, true) }) (v := .bool true) rfl (by kernel_rfl) (by kernel_rfl) (by kernel_rfl) (fun _ _ _ h => h) (Or.inl ⟨by rfl, ?_⟩) hS7a ?_
  · intro wS hSw
    go_simp
  simp only [Act.put, List.setIfInBounds_toArray, List.set_cons_zero, List.set_cons_succ]
  refine wpAnyH_take (i := 41) (oi := { dst := some 87, op := .pick (.tmp 79) (.tmp 86) (.const (.bool false)), type := _, pos := _, after := _, guard := none }) (v := .bool true) rfl (by kernel_rfl) (by kernel_rfl) (by kernel_rfl) (fun _ _ _ h => h) (Or.inl ⟨by rfl, ?_⟩) hS7a ?_
  · intro wS hSw
    go_simp
  simp only [Act.put, List.setIfInBounds_toArray, List.set_cons_zero, List.set_cons_succ]
  refine wpAnyH_take (i := 42) (oi := { dst := some 6, op := .assign (.tmp 87), type := _, pos := _, after := _, guard := none }) (v := .bool true) rfl (by kernel_rfl) (by kernel_rfl) (by kernel_rfl) (fun _ _ _ h => h) (Or.inl ⟨by rfl, ?_⟩) hS7a ?_
  · intro wS hSw
    go_simp
  simp only [Act.put, List.setIfInBounds_toArray, List.set_cons_zero, List.set_cons_succ]
  refine wpAnyH_done (by kernel_rfl) ?_ _
  have HBf := hidU (HB9.out.trans (hS7a.mono HB9.out.size))
  go_wp2
  go_ret
  exact ⟨rfl, HBf.out⟩
end Go.Proofs.YtcmkjjlchljffaaDoor

/- act: a call of both disks. -/
namespace Go.Proofs.YtcmkjjlchljffaaDoor
open Go.RowKit
set_option linter.unusedVariables false

/-- A call. -/
structure Ac where
  kd : Int
  nm : ByteArray
  to : ByteArray
  z : Int
  b : List UInt8
  torn : List Int
/-- .. and where its rows lie. -/
structure AT where
  ac : Ac
  ba : Option Addr
  bc : Nat
  ta : Option Addr
  tc : Nat
def AT.cells (a : AT) : List Value := [.int .i64 a.ac.kd, .string a.ac.nm, .string a.ac.to, .int .i64 a.ac.z, .slice a.ba a.ac.b.length a.bc, .slice a.ta a.ac.torn.length a.tc]
/-- A call that came in: its rows lie below B. -/
structure AT.In (B : Nat) (w : World) (a : AT) : Prop where
  rb : Row w a.ba a.ac.b
  lb : a.ac.b.length ≤ a.bc
  nb : a.ba = none → a.bc = 0
  bb : a.ac.b ≠ [] → ∀ ad, a.ba = some ad → ad.block < B
  rt : RowX eI w a.ta a.ac.torn
  lt : a.ac.torn.length ≤ a.tc
  nt : a.ta = none → a.tc = 0
  tt : a.ac.torn ≠ [] → ∀ ad, a.ta = some ad → ad.block < B
  l1 : a.ac.b.length ≤ 1099511627776
  l2 : a.ac.torn.length ≤ 1099511627776
  l3 : a.ac.nm.size ≤ 9223372036854775807
  l4 : a.ac.to.size ≤ 9223372036854775807
theorem AT.In.below {B : Nat} {w w' : World} {a : AT} (h : a.In B w) (hb : Below B w w') : a.In B w' :=
  ⟨h.rb.same0 fun q ad ha => hb.block _ (h.bb q ad ha), h.lb, h.nb, h.bb, h.rt.same0 fun q ad ha => hb.block _ (h.tt q ad ha), h.lt, h.nt, h.tt, h.l1, h.l2, h.l3, h.l4⟩
def acD (d : Dk) (a : Ac) : Dk :=
  if a.kd = 0 then (apO d a.nm a.b).1 else if a.kd = 1 then (ctO d a.nm a.z).1 else if a.kd = 2 then (syO d a.nm).1 else if a.kd = 3 then (rnO d a.nm a.to).1 else if a.kd = 4 then (rmO d a.nm).1 else if a.kd = 5 then stD d a.z else if a.kd = 6 then crD d a.torn else d
section
variable {U : Prop} {CD : CDT} {B gc gr : Nat} {w x0 x1 x2 x3 : World} {Wc Fc Wr Fr W1 F1 W2 F2 : Nat → Prop} {d d' : Dk}
end
theorem u33 : ∃ d, Tryd.prog.underlying 84 = some d ∧ d.isRow = true := by
  have h : (Tryd.prog.underlying 84).map (·.isRow) = some true := by kernel_rfl
  cases hq : Tryd.prog.underlying 84 with
  | none => rw [hq] at h; cases h
  | some d => rw [hq] at h; simp at h; exact ⟨d, rfl, h⟩
section
variable {w : World} {gb : Nat} {a : AT}
end
theorem ac0 {w : World} {gb : Nat} {a : AT} (h : At 84 w gb a.cells) : w.cell? ⟨gb, 0, none⟩ = some (.int .i64 a.ac.kd) := by rw [h.cell]; rfl
theorem ac1 {w : World} {gb : Nat} {a : AT} (h : At 84 w gb a.cells) : w.cell? ⟨gb, 1, none⟩ = some (.string a.ac.nm) := by rw [h.cell]; rfl
theorem ac2 {w : World} {gb : Nat} {a : AT} (h : At 84 w gb a.cells) : w.cell? ⟨gb, 2, none⟩ = some (.string a.ac.to) := by rw [h.cell]; rfl
theorem ac3 {w : World} {gb : Nat} {a : AT} (h : At 84 w gb a.cells) : w.cell? ⟨gb, 3, none⟩ = some (.int .i64 a.ac.z) := by rw [h.cell]; rfl
theorem ac4 {w : World} {gb : Nat} {a : AT} (h : At 84 w gb a.cells) : w.cell? ⟨gb, 4, none⟩ = some (.slice a.ba a.ac.b.length a.bc) := by rw [h.cell]; rfl
theorem ac5 {w : World} {gb : Nat} {a : AT} (h : At 84 w gb a.cells) : w.cell? ⟨gb, 5, none⟩ = some (.slice a.ta a.ac.torn.length a.tc) := by rw [h.cell]; rfl
section
variable {U : Prop} {CD : CDT} {B gc gr : Nat} {w w1 w2 w' : World} {Wc Fc Wr Fr W F : Nat → Prop} {d : Dk}
theorem RD.lt {B g : Nat} {w : World} {W F : Nat → Prop} {d : Dk} (h : RD B w g W F d) : ∀ k, F k → k < w.heap.size := by
  obtain ⟨_, _, h⟩ := h
  exact h.lt
theorem RD.wf {B g : Nat} {w : World} {W F : Nat → Prop} {d : Dk} (h : RD B w g W F d) : ∀ k, W k → F k ∧ B ≤ k := by
  obtain ⟨_, _, h⟩ := h
  exact h.wf
end
end Go.Proofs.YtcmkjjlchljffaaDoor

/- act: Append, Crash, and what is none. -/
namespace Go.Proofs.YtcmkjjlchljffaaDoor
open Go.RowKit
set_option linter.unusedVariables false

theorem wpList_layI0 {o : Oper} {a : Act} {w : World} {Q : Exit → Act → World → Prop} {ops : Array Oper} {rest : List Oper} (hgd : o.guard = none) (ho : o.op = .buildSlice 52 0 #[])
    (h : ∀ w', OwnX eI w.heap.size w' (.slice (some ⟨w.heap.size, 0, none⟩) 0 0) [] → Below w.heap.size w w' → w'.heap.size = w.heap.size + 1 → wpList Tryd.prog ops Q rest (a.put o.dst (.slice (some ⟨w.heap.size, 0, none⟩) 0 0)) w') : wpList Tryd.prog ops Q (o :: rest) a w := by
  refine wpList_plain hgd fun K hK => ?_
  have := hK _ _ (h _ (own_lay0 eI w) ((Below.refl _ w).alloc (Nat.le_refl _) _) (by simp))
  unfold Oper.wp execOp
  rw [ho]
  go_simp
  exact this
theorem blk_at {w : World} {g : Nat} {cs : List Value} : Blk w g cs ↔ At 5 w g cs := Iff.rfl
theorem allU_map (bs : List UInt8) : AllU (bs.map B8) := fun i v hv => by
  rw [List.getElem?_map] at hv
  cases hb : bs[i]? with
  | none => rw [hb] at hv; cases hv
  | some c => rw [hb] at hv; cases hv; exact ⟨c, rfl⟩
end Go.Proofs.YtcmkjjlchljffaaDoor
