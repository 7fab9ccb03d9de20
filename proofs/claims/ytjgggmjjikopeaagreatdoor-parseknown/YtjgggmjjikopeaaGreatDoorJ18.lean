/- The reader of programs: programs. -/
import Derived.Test.YtjgggmjjikopeaaGreatDoorJ17
namespace Go.Proofs.YtjgggmjjikopeaaGreatDoor
open Go.RowKit
set_option linter.unusedVariables false

/-- 'out = append(out, y)', and what stands. -/
theorem wp_grow2 {α δ : Type} {e : Elt α δ} {A : Nat} {w : World} {v : Value} {ys : List α} {o : Oper} {a : Act} {K : Act → World → Prop} {Q : Exit → Act → World → Prop} (s x : Operand) (T : TypeId) (z : Value) (bytes : Nat) (ho : o.op = .call { callee := .builtin .append, args := #[s, x], argTypes := #[T, T] })
    (ht : Tryz.prog.underlying T = some (.slice e.E)) (hif : (Tryz.prog.info? e.E).map (fun i => (i.zero, i.size, i.bytes)) = some (some z, e.n, bytes)) (hzs : z.cells.size = e.n) (hsz : 0 < e.n)
    (hs : a.eval s = v) (b : Nat) (hx : a.eval x = .slice (some ⟨b, 0, none⟩) 1 1) (h : Gr e A w v ys) (y : α) (hA : At e.E w b (e.cl y)) (hi : e.In w.heap.size w y) (hy : e.Lies (fun k => A ≤ k ∧ some k ≠ v.ownBlock) y)
    (k : Nat) (hk : ys.length = k) (hl : k ≤ 1048576) (hby : bytes ≤ 1024)
    (hK : ∀ g cap w', Gr e A w' (.slice (some ⟨g, 0, none⟩) (k + 1) cap) (ys ++ [y]) → w.grownBy w' v.ownBlock → K (a.put o.dst (.slice (some ⟨g, 0, none⟩) (k + 1) cap)) w') : o.wp Tryz.prog a w K Q := by
  obtain ⟨i0, hi0, hz0, hz1, hz2⟩ := info_parts hif
  subst hk
  refine wp_append_lies (P := Tryz.prog) w s x T ho A e.E i0 z e.n bytes ht hi0 hz0 hz1 hz2 hzs hsz v ys.length (ys.flatMap e.cl) hs h.own ⟨b, 0, none⟩ 1 1 (e.cl y) hx (by rw [e.hlen, Nat.one_mul]) (fun j u hj => ?_) (e.hone y) (by decide) (by unfold maxLen; omega) (by have : (ys.length + 1) * bytes ≤ 1048577 * 1024 := Nat.mul_le_mul (by omega) hby; omega) h.size w.heap.size rfl ?_
  · rw [Addr.add_mid, Nat.zero_add, hA.cell]; exact hj
  · intro g cap w' h1 h2 h3 _
    exact hK g cap w' (h.app hi hy h1 h2 h3) h2
theorem own_at {w : World} {A E sz n : Nat} {v : Value} {xs : List Value} (h : w.ownsRow A E sz v n xs) (k : Nat) (hk : v.ownBlock = some k) : ∃ cs, At E w k cs := by
  obtain ⟨h1, ⟨h2, -⟩ | ⟨g, cap, cur, hv, hg, hc, h3⟩⟩ := h
  · rw [h2] at hk; cases hk
  · rw [hv] at hk
    cases hk
    exact ⟨cur.toList, hc⟩
/-- Another row grows. -/
theorem Gr.grown {α β δ η : Type} {e : Elt α δ} {f : Elt β η} {A A' : Nat} {w w' : World} {v u : Value} {ys : List α} {zs : List β} (h : Gr e A w v ys) (k : Gr f A' w u zs) (hE : e.E ≠ f.E) (hg : w.grownBy w' u.ownBlock) (hoff : ∀ y ∈ ys, e.Lies (fun q => some q ≠ u.ownBlock) y) : Gr e A w' v ys := by
  refine ⟨own_stay h.own fun q hq => hg.block q (h.own.lt q hq).2 fun hn => ?_, fun y hy => e.stay (h.ins y hy) (hoff y hy) hg.size fun q hq hl => hg.block q hl hq, h.off, Nat.le_trans h.size hg.size⟩
  obtain ⟨cs, h1⟩ := own_at h.own q hq
  obtain ⟨cs', h2⟩ := own_at k.own q hn.symm
  exact h1.ne h2 hE rfl
theorem RowV.stay {S : Nat → Prop} {B B' c : Nat} {w w' : World} {a : Option Addr} {ks : List VT} (h : RowV B w a c ks) (hu : ks = [] ∨ ∃ g o, a = some ⟨g, o, none⟩ ∧ S g) (hB : B ≤ B') (hk : ∀ k, S k → k < B → w'.heap[k]? = w.heap[k]?) : RowV B' w' a c ks := by
  obtain ⟨h1, h2, h | ⟨g, o, ha, hg, hr⟩⟩ := h
  · exact ⟨h1, h2, .inl h⟩
  · rcases hu with hu | ⟨g', o', ha', hg'⟩
    · exact ⟨h1, h2, .inl hu⟩
    · rw [ha] at ha'
      cases ha'
      refine ⟨h1, h2, .inr ⟨g, o, ha, by omega, fun i v hv => ⟨fun j x hj => ?_, (hr i v hv).2⟩⟩⟩
      rw [World.cell?_of_block (w := w) (hk g hg' hg)]
      exact (hr i v hv).1 j x hj
theorem RowN.stay {S : Nat → Prop} {B B' c : Nat} {w w' : World} {a : Option Addr} {ks : List ByteArray} (h : RowN B w a c ks) (hu : ks = [] ∨ ∃ g o, a = some ⟨g, o, none⟩ ∧ S g) (hB : B ≤ B') (hk : ∀ k, S k → k < B → w'.heap[k]? = w.heap[k]?) : RowN B' w' a c ks := by
  obtain ⟨h1, h2, h | ⟨g, o, ha, hg, hr⟩⟩ := h
  · exact ⟨h1, h2, .inl h⟩
  · rcases hu with hu | ⟨g', o', ha', hg'⟩
    · exact ⟨h1, h2, .inl hu⟩
    · rw [ha] at ha'
      cases ha'
      refine ⟨h1, h2, .inr ⟨g, o, ha, by omega, fun i v hv => ?_⟩⟩
      rw [World.cell?_of_block (w := w) (hk g hg' hg)]
      exact hr i v hv
theorem RowS.stay {S : Nat → Prop} {B B' c : Nat} {w w' : World} {a : Option Addr} {ks : List ST} (h : RowS B w a c ks) (hu : ks = [] ∨ ∃ g o, a = some ⟨g, o, none⟩ ∧ S g) (hL : ST.LiesL S ks) (hB : B ≤ B') (hk : ∀ k, S k → k < B → w'.heap[k]? = w.heap[k]?) : RowS B' w' a c ks := by
  obtain ⟨h1, h2, h | ⟨g, o, ha, hg, hr⟩⟩ := h
  · exact ⟨h1, h2, .inl h⟩
  · rcases hu with hu | ⟨g', o', ha', hg'⟩
    · exact ⟨h1, h2, .inl hu⟩
    · rw [ha] at ha'
      cases ha'
      exact ⟨h1, h2, .inr ⟨g, o, ha, by omega, ST.Row.up hB (ST.Row.stay hk hg' hg hr hL)⟩⟩
def TT.Lies (S : Nat → Prop) (x : TT) : Prop := (x.locals = [] ∨ ∃ g o, x.a1 = some ⟨g, o, none⟩ ∧ S g) ∧ (x.body = [] ∨ ∃ g o, x.a2 = some ⟨g, o, none⟩ ∧ S g) ∧ ST.LiesL S x.body
theorem at_lies {α : Type} {S T : Nat → Prop} {B : Nat} {a : Option Addr} {ks : List α} (h : ks = [] ∨ ∃ g o, a = some ⟨g, o, none⟩ ∧ S g) (hB : ks = [] ∨ ∃ g o, a = some ⟨g, o, none⟩ ∧ g < B) (hS : ∀ k, S k → k < B → T k) : ks = [] ∨ ∃ g o, a = some ⟨g, o, none⟩ ∧ T g := by
  rcases h with h | ⟨g, o, ha, hg⟩
  · exact .inl h
  · rcases hB with hB | ⟨g', o', ha', hg'⟩
    · exact .inl hB
    · rw [ha] at ha'
      cases ha'
      exact .inr ⟨g, o, ha, hS g hg hg'⟩
theorem RowV.bound {B c : Nat} {w : World} {a : Option Addr} {ks : List VT} (h : RowV B w a c ks) : ks = [] ∨ ∃ g o, a = some ⟨g, o, none⟩ ∧ g < B := by
  obtain ⟨_, _, h | ⟨g, o, ha, hg, _⟩⟩ := h
  · exact .inl h
  · exact .inr ⟨g, o, ha, hg⟩
theorem RowS.bound {B c : Nat} {w : World} {a : Option Addr} {ks : List ST} (h : RowS B w a c ks) : ks = [] ∨ ∃ g o, a = some ⟨g, o, none⟩ ∧ g < B := by
  obtain ⟨_, _, h | ⟨g, o, ha, hg, _⟩⟩ := h
  · exact .inl h
  · exact .inr ⟨g, o, ha, hg⟩
theorem RowS.lies {S T : Nat → Prop} {B c : Nat} {w : World} {a : Option Addr} {ks : List ST} (h : RowS B w a c ks) (hL : ST.LiesL S ks) (hS : ∀ k, S k → k < B → T k) : ST.LiesL T ks := by
  obtain ⟨_, _, h | ⟨g, o, ha, hg, hr⟩⟩ := h
  · rw [h]; unfold ST.LiesL; trivial
  · exact (ST.Row.lies hr hL).mono fun k hk => hS k hk.1 hk.2
def eT : Elt TT Th := ⟨TT.cells, 3, 53, fun _ => rfl, TT.one, TT.th, fun B w x => x.In B w, fun S x => x.Lies S,
  fun h hS => ⟨at_imp hS h.1, at_imp hS h.2.1, h.2.2.mono hS⟩, fun h hl hB hk => ⟨h.1.stay hl.1 hB hk, h.2.stay hl.2.1 hl.2.2 hB hk⟩, fun h hl hS => ⟨at_lies hl.1 h.1.bound hS, at_lies hl.2.1 h.2.bound hS, h.2.lies hl.2.2 hS⟩⟩
theorem i26 : (Tryz.prog.info? 26).map (·.size) = some 3 := by kernel_rfl
theorem zz26 : (Tryz.prog.info? 26).map (fun i => (i.zero, i.size)) = some (some (.agg ([.slice none 0 0, .slice none 0 0, .slice none 0 0] : List Value).toArray), 3) := by kernel_rfl
theorem PT.one (p : PT) : ∀ v ∈ p.cells, v.oneCell' = true := by intro v hv; simp [PT.cells] at hv; rcases hv with rfl | rfl | rfl <;> rfl
theorem Gr.names {A : Nat} {w : World} {a : Option Addr} {n c : Nat} {ys : List ByteArray} (h : Gr eN A w (.slice a n c) ys) (hl : ys.length ≤ 1048576) : RowN w.heap.size w a c ys ∧ (ys = [] ∨ ∃ g o, a = some ⟨g, o, none⟩ ∧ A ≤ g) := by
  obtain ⟨h1, h2⟩ := h.cell
  rcases h2 with rfl | ⟨g, rfl, hg, hlt, hr⟩
  · exact ⟨⟨by simp, Nat.zero_le _, .inl rfl⟩, .inl rfl⟩
  · refine ⟨⟨hl, h1, .inr ⟨g, 0, rfl, hlt, fun i v hv => ?_⟩⟩, .inr ⟨g, 0, rfl, hg⟩⟩
    have := hr _ _ (flat_cells_at eN.cl 1 (fun _ => rfl) ys i v hv 0 _ rfl)
    rwa [show 0 + (i * 1 + 0) = 0 + i by omega] at this
theorem Gr.threads {A : Nat} {w : World} {a : Option Addr} {n c : Nat} {ys : List TT} (h : Gr eT A w (.slice a n c) ys) (hl : ys.length ≤ 1048576) : RowT w.heap.size w a c ys ∧ (ys = [] ∨ ∃ g o, a = some ⟨g, o, none⟩ ∧ A ≤ g) ∧ ∀ y ∈ ys, y.Lies (fun k => A ≤ k) := by
  obtain ⟨h1, h2⟩ := h.cell
  have hL : ∀ y ∈ ys, y.Lies (fun k => A ≤ k) := fun y hy => eT.mono (h.off y hy) fun k hk => hk.1
  rcases h2 with rfl | ⟨g, rfl, hg, hlt, hr⟩
  · exact ⟨⟨by simp, Nat.zero_le _, .inl rfl⟩, .inl rfl, hL⟩
  · refine ⟨⟨hl, h1, .inr ⟨g, 0, rfl, hlt, fun i v hv => ⟨fun j u hj => ?_, h.ins v (List.mem_of_getElem? hv)⟩⟩⟩, .inr ⟨g, 0, rfl, hg⟩, hL⟩
    have := hr _ u (flat_cells_at TT.cells 3 (fun _ => rfl) ys i v hv j u hj)
    rwa [show 0 + (i * 3 + j) = 0 + i * 3 + j by omega] at this
def PT.Lies (S : Nat → Prop) (p : PT) : Prop := (p.shared = [] ∨ ∃ g o, p.a1 = some ⟨g, o, none⟩ ∧ S g) ∧ (p.mutexes = [] ∨ ∃ g o, p.a2 = some ⟨g, o, none⟩ ∧ S g) ∧ (p.threads = [] ∨ ∃ g o, p.a3 = some ⟨g, o, none⟩ ∧ S g) ∧ ∀ t ∈ p.threads, t.Lies S
/-- What the reader of a program tells. -/
def PostPg (B g : Nat) (w : World) (R : Rs Pg) (r : Ending) (w' : World) : Prop :=
  match R with
  | .ok p l => ∃ y : PT, r = .returned (.agg y.cells.toArray) ∧ y.pg = p ∧ y.In w'.heap.size w' ∧ y.Lies (fun k => w.heap.size ≤ k) ∧ Rd B w' g l ∧ But g w w'
  | .bad e p => r = PanW e p ∧ But g w w'
set_option maxRecDepth 100000 in
set_option maxHeartbeats 25600000 in
theorem program_any {B : Nat} (g : Nat) (l : List Tk) (w : World) (h : Rd B w g l) (hBw : B ≤ w.heap.size) (hlm : l.length ≤ 1048576) : Calls Tryz.prog 26 #[.pointer (some ⟨g, 0, none⟩)] w (PostPg B g w (programR l)) := by
  have lg := h.lt
  have HR : Hid (Rd B w g l) := h
  clear h
  obtain ⟨D, hD⟩ : ∃ D, Hid (D = programR l) := ⟨_, (rfl : programR l = _)⟩
  rw [← hD.out]
  unfold programR at hD
  go_enter Tryz.func26, Tryz.ntmps26
  go_wp2_with (first
    | ((with_reducible show wpList _ _ _ _ _ _); refine wpList_alloc_at (o := { dst := some 2, .. }) rfl 26 rfl [.slice none 0 0, .slice none 0 0, .slice none 0 0] 3 zz26 ?_; intro w1 hA2 hb1 hs1; clear hs1)
    | ((with_reducible show wpList _ _ _ _ _ _); refine wpList_alloc_at (o := { dst := some 3, .. }) rfl 26 rfl [.slice none 0 0, .slice none 0 0, .slice none 0 0] 3 zz26 ?_; intro w5 hA3 hb2 hs2; clear hs2; refine Hid.out ?_))
  refine hidU ?_
  have l01 := hA2.lt
  have hw5 : Below w.heap.size w w5 := hb1.trans (hb2.mono hb1.size)
  have hA2 := hA2.below hb2
  obtain ⟨g3, hg3⟩ : ∃ q, q = w1.heap.size := ⟨_, rfl⟩
  rw [← hg3] at hA3 ⊢
  have lg3 : w.heap.size < g3 := by omega
  obtain ⟨M, hM⟩ : ∃ q, q = w5.heap.size := ⟨_, rfl⟩
  have hg3M : g3 < M := by rw [hM]; exact hA3.lt
  have HI : Hid (∃ (l' : List Tk) (f' : Nat) (aV : Option Addr) (k1 cV : Nat) (vs : List VT) (aN : Option Addr) (k2 cN : Nat) (ms : List ByteArray), (vs.length = k1 ∧ ms.length = k2) ∧ At 26 w5 g3 [.slice aV k1 cV, .slice aN k2 cN, .slice none 0 0] ∧ At 26 w5 w.heap.size [.slice none 0 0, .slice none 0 0, .slice none 0 0] ∧ (Gr eV M w5 (.slice aV k1 cV) vs ∧ Gr eN M w5 (.slice aN k2 cN) ms) ∧ Rd B w5 g l' ∧ But g w w5 ∧ k1 + k2 + l'.length ≤ l.length ∧ l'.length + 1 ≤ f' ∧ M ≤ w5.heap.size ∧ D = ((declsR f' l').bind fun x r => .ok (vs.map VT.vr ++ x.1, ms.map (fun m => m.data.toList) ++ x.2) r).bind fun x r => (threadsR (r.length + 1) r).bind fun ts r => .ok ⟨x.1, x.2, ts⟩ r) := by
    refine ⟨l, l.length + 1, none, 0, 0, [], none, 0, 0, [], ⟨rfl, rfl⟩, hA3, hA2, ⟨Gr.nil (by omega), Gr.nil (by omega)⟩, HR.out.below hw5, But.of_below hw5, by omega, by omega, by omega, ?_⟩
    rw [hD.out]
    cases declsR (l.length + 1) l <;> rfl
  clear hb1 hb2 hw5 hA2 hA3 hg3 hM HR hD
  go_wp2_with fail
  go_loopw [5] (fun _ wr => Hid (∃ (l' : List Tk) (f' : Nat) (aV : Option Addr) (k1 cV : Nat) (vs : List VT) (aN : Option Addr) (k2 cN : Nat) (ms : List ByteArray), (vs.length = k1 ∧ ms.length = k2) ∧ At 26 wr g3 [.slice aV k1 cV, .slice aN k2 cN, .slice none 0 0] ∧ At 26 wr w.heap.size [.slice none 0 0, .slice none 0 0, .slice none 0 0] ∧ (Gr eV M wr (.slice aV k1 cV) vs ∧ Gr eN M wr (.slice aN k2 cN) ms) ∧ Rd B wr g l' ∧ But g w wr ∧ k1 + k2 + l'.length ≤ l.length ∧ l'.length + 1 ≤ f' ∧ M ≤ wr.heap.size ∧ D = ((declsR f' l').bind fun x r => .ok (vs.map VT.vr ++ x.1, ms.map (fun m => m.data.toList) ++ x.2) r).bind fun x r => (threadsR (r.length + 1) r).bind fun ts r => .ok ⟨x.1, x.2, ts⟩ r)) (fun _ wr => tokLen wr g)
  case atStart => exact HI
  case round =>
    clear HI
    obtain ⟨l', f', aV, k1, cV, vs, aN, k2, cN, ms, ⟨hl1, hl2⟩, hA3, hA2, ⟨hGV, hGN⟩, hR, hbt, hkl, hf', lM, hD⟩ := hrel.out
    clear hrel
    obtain ⟨f', rfl⟩ : ∃ q, f' = q + 1 := ⟨f' - 1, by omega⟩
    have HD : Hid (D = ((declsR (f' + 1) l').bind fun x r => .ok (vs.map VT.vr ++ x.1, ms.map (fun m => m.data.toList) ++ x.2) r).bind fun x r => (threadsR (r.length + 1) r).bind fun ts r => .ok ⟨x.1, x.2, ts⟩ r) := hD
    rw [declsR] at HD
    clear hD
    have htk := hR.len
    by_cases c0 : (hdT l').text = [115, 104, 97, 114, 101, 100]
    · rw [if_pos c0] at HD
      have htl := tail_lt (l := l') (by rw [c0]; decide)
      have C55 := takes_yes g l' ⟨#[115, 104, 97, 114, 101, 100]⟩ (by decide) c0 wr hR
      clear hR c0
      go_wp2_with (go_at_call 55; refine C55.mono ?_; rintro r w2 ⟨rfl, hR, hb2⟩; refine Hid.out ?_)
      refine hidU ?_
      have hA2 := hb2.at hA2 (by omega)
      have hA3 := hb2.at hA3 (by omega)
      have hGV := hGV.but hb2 (by omega)
      have hGN := hGN.but hb2 (by omega)
      have hbt := hbt.trans hb2
      have l2 := hb2.size
      clear C55 hb2
      go_wp2_with fail
      cases hN : variableR l'.tail with
      | bad e p =>
        rw [hN] at HD
        have hD' : D = .bad e p := HD.out
        subst hD'
        have hS0r : At 26 w2.drew g3 [.slice aV k1 cV, .slice aN k2 cN, .slice none 0 0] := hA3.drew
        refine wp_region_S (S := fun xS => At 26 xS g3 [.slice aV k1 cV, .slice aN k2 cN, .slice none 0 0]) (St := [7]) (by kernel_rfl) hS0r ?_
        have hB0 : Below w2.heap.size w2 w2.drew := Below.drew (Below.refl _ _)
        obtain ⟨x0r, hx0⟩ : ∃ x, x = w2.drew := ⟨_, rfl⟩
        rw [← hx0] at hS0r hB0 ⊢
        clear hx0
        intro hH
        refine wpAnyS_pure (i := 0) (oi := { dst := some 6, op := .fieldAddr 26 (.tmp 3) 0, type := _, pos := _, after := _, guard := none }) (v := .pointer (some ⟨g3, 0, none⟩)) rfl (by kernel_rfl) (by kernel_rfl) (by kernel_rfl) (by kernel_rfl) (fun _ _ _ h => h) (Or.inl ⟨by rfl, ?_⟩) hH (fun hH => ?_)
        · intro wS hSw
          go_simp
        simp only [Act.put, List.setIfInBounds_toArray, List.set_cons_zero, List.set_cons_succ]
        refine wpAnyS_take [5, 6, 7] (i := 1) (oi := { dst := some 7, op := .load 22 (.tmp 6), type := _, pos := _, after := _, guard := none }) (v := .slice aV k1 cV) rfl (by kernel_rfl) (by kernel_rfl) (by kernel_rfl) (by kernel_rfl) (by kernel_rfl) (by kernel_rfl) (by kernel_rfl) (fun _ _ _ h => h) (Or.inl ⟨by rfl, ?_⟩) hH (fun hH => ?_)
        · intro wS hSw
          have z0 := (c3_cells hSw).1
          go_simp
        simp only [Act.put, List.setIfInBounds_toArray, List.set_cons_zero, List.set_cons_succ]
        refine wpAnyS_pure (i := 2) (oi := { dst := some 8, op := .move (.tmp 0), type := _, pos := _, after := _, guard := none }) (v := .pointer (some ⟨g, 0, none⟩)) rfl (by kernel_rfl) (by kernel_rfl) (by kernel_rfl) (by kernel_rfl) (fun _ _ _ h => h) (Or.inl ⟨by rfl, ?_⟩) hH (fun hH => ?_)
        · intro wS hSw
          go_simp
        simp only [Act.put, List.setIfInBounds_toArray, List.set_cons_zero, List.set_cons_succ]
        refine wpAnyS_ready (rs := [3]) (by kernel_rfl) (by simp) ?_
        refine AllReadyS.cons (o := { dst := some 9, op := .call { callee := .value (.func 56), args := #[.tmp 8], argTypes := #[66] }, type := _, pos := _, after := _, guard := none }) rfl (fun K hK => ?_) AllReadyS.nil
        rw [if_pos (by rfl)]
        have CV := variable_any g l'.tail x0r (hR.below hB0) (by have := hB0.size; omega)
        rw [hN] at CV
        go_wp2_with (go_at_call 56; refine CV.mono ?_; rintro e' x1r ⟨hr, hb1r⟩; unfold PanW at hr; subst hr)
        exact ⟨rfl, rfl, (hbt.trans (But.of_below hB0)).trans hb1r⟩
      | ok v r3 =>
        have hvl' := variableR_left l'.tail
        rw [hN] at hvl'
        have hr3 : r3.length < l'.tail.length := hvl'
        rw [hN] at HD
        have hD' : D = (((declsR f' r3).bind fun x r => .ok (v :: x.1, x.2) r).bind fun x r => .ok (vs.map VT.vr ++ x.1, ms.map (fun m => m.data.toList) ++ x.2) r).bind fun x r => (threadsR (r.length + 1) r).bind fun ts r => .ok ⟨x.1, x.2, ts⟩ r := HD.out
        rw [Rs.bind_bind (declsR f' r3)] at hD'
        clear HD hvl'
        have hS0r : At 26 w2.drew g3 [.slice aV k1 cV, .slice aN k2 cN, .slice none 0 0] := hA3.drew
        refine wp_region_S (S := fun xS => At 26 xS g3 [.slice aV k1 cV, .slice aN k2 cN, .slice none 0 0]) (St := [7]) (by kernel_rfl) hS0r ?_
        have hB0 : Below w2.heap.size w2 w2.drew := Below.drew (Below.refl _ _)
        obtain ⟨x0r, hx0⟩ : ∃ x, x = w2.drew := ⟨_, rfl⟩
        rw [← hx0] at hS0r hB0 ⊢
        clear hx0
        intro hH
        refine wpAnyS_pure (i := 0) (oi := { dst := some 6, op := .fieldAddr 26 (.tmp 3) 0, type := _, pos := _, after := _, guard := none }) (v := .pointer (some ⟨g3, 0, none⟩)) rfl (by kernel_rfl) (by kernel_rfl) (by kernel_rfl) (by kernel_rfl) (fun _ _ _ h => h) (Or.inl ⟨by rfl, ?_⟩) hH (fun hH => ?_)
        · intro wS hSw
          go_simp
        simp only [Act.put, List.setIfInBounds_toArray, List.set_cons_zero, List.set_cons_succ]
        refine wpAnyS_take [5, 6, 7] (i := 1) (oi := { dst := some 7, op := .load 22 (.tmp 6), type := _, pos := _, after := _, guard := none }) (v := .slice aV k1 cV) rfl (by kernel_rfl) (by kernel_rfl) (by kernel_rfl) (by kernel_rfl) (by kernel_rfl) (by kernel_rfl) (by kernel_rfl) (fun _ _ _ h => h) (Or.inl ⟨by rfl, ?_⟩) hH (fun hH => ?_)
        · intro wS hSw
          have z0 := (c3_cells hSw).1
          go_simp
        simp only [Act.put, List.setIfInBounds_toArray, List.set_cons_zero, List.set_cons_succ]
        refine wpAnyS_pure (i := 2) (oi := { dst := some 8, op := .move (.tmp 0), type := _, pos := _, after := _, guard := none }) (v := .pointer (some ⟨g, 0, none⟩)) rfl (by kernel_rfl) (by kernel_rfl) (by kernel_rfl) (by kernel_rfl) (fun _ _ _ h => h) (Or.inl ⟨by rfl, ?_⟩) hH (fun hH => ?_)
        · intro wS hSw
          go_simp
        simp only [Act.put, List.setIfInBounds_toArray, List.set_cons_zero, List.set_cons_succ]
        refine wpAnyS_ready (rs := [3]) (by kernel_rfl) (by simp) ?_
        refine AllReadyS.cons (o := { dst := some 9, op := .call { callee := .value (.func 56), args := #[.tmp 8], argTypes := #[66] }, type := _, pos := _, after := _, guard := none }) rfl (fun K hK => ?_) AllReadyS.nil
        rw [if_pos (by rfl)]
        have CV := variable_any g l'.tail x0r (hR.below hB0) (by have := hB0.size; omega)
        rw [hN] at CV
        go_wp2_with (go_at_call 56; refine CV.mono ?_; rintro e' x1r ⟨rfl, hvl, hR1, hb1r⟩)
        have ls0 := hB0.size
        have ls1 := hb1r.size
        have hS1r := (hb1r.at hS0r (by omega))
        refine hK.out _ _ (Hold.of hS1r) (fun hH => ?_)
        clear hK K
        refine wpAnyS_ready (rs := [4]) (by kernel_rfl) (by simp) ?_
        refine AllReadyS.cons (o := { dst := some 10, op := .buildSlice 22 1 #[(0, .tmp 9)], type := _, pos := _, after := _, guard := none }) rfl (fun K hK => ?_) AllReadyS.nil
        rw [if_pos (by rfl)]
        refine wp_layV (.tmp 9) rfl (VT.cells (⟨⟨v.nm.toArray⟩, v.t, v.b⟩ : VT)) rfl rfl ?_
        intro x2r hA2r hb2r
        have ls2 := hb2r.size
        have hS2r := (hS1r.below hb2r)
        refine hK.out _ _ (Hold.of hS2r) (fun hH => ?_)
        clear hK K
        refine wpAnyS_ready (rs := [5]) (by kernel_rfl) (by simp) ?_
        refine AllReadyS.cons (o := { dst := some 11, op := .call { callee := .builtin .append, args := #[.tmp 7, .tmp 10], argTypes := #[22, 22] }, type := _, pos := _, after := _, guard := none }) rfl (fun K hK => ?_) AllReadyS.nil
        rw [if_pos (by rfl)]
        have hGx : Gr eV M x2r (.slice aV k1 cV) vs := (((hGV.below hB0).but hb1r (by omega)).below hb2r)
        have hNx : Gr eN M x2r (.slice aN k2 cN) ms := (((hGN.below hB0).but hb1r (by omega)).below hb2r)
        refine wp_grow2 (e := eV) (A := M) (ys := vs) (.tmp 7) (.tmp 10) 22 _ 32 rfl Tryz.underlying22 f48 rfl (by decide) rfl x1r.heap.size rfl hGx (⟨⟨v.nm.toArray⟩, v.t, v.b⟩ : VT) hA2r hvl trivial k1 hl1 (by omega) (by decide) ?_
        intro gW cW x3r hG3r hgb
        have hb3r : Below M x2r x3r := (Below.refl _ _).grown hgb hGx.size fun q hq => (hGx.own.lt q hq).1
        have ls3 := hb3r.size
        have hS3r := (hS2r.belowA hb3r hg3M)
        refine hK.out _ _ (Hold.of hS3r) (fun hH => ?_)
        clear hK K
        refine wpAnyS_pure (i := 6) (oi := { dst := some 12, op := .fieldAddr 26 (.tmp 3) 0, type := _, pos := _, after := _, guard := none }) (v := .pointer (some ⟨g3, 0, none⟩)) rfl (by kernel_rfl) (by kernel_rfl) (by kernel_rfl) (by kernel_rfl) (fun _ _ _ h => h) (Or.inl ⟨by rfl, ?_⟩) hH (fun hH => ?_)
        · intro wS hSw
          go_simp
        simp only [Act.put, List.setIfInBounds_toArray, List.set_cons_zero, List.set_cons_succ]
        refine wpAnyS_ready (rs := [7]) (by kernel_rfl) (by simp) ?_
        refine AllReadyS.cons (o := { dst := none, op := .store 22 (.tmp 12) (.tmp 11), type := _, pos := _, after := _, guard := none }) rfl (fun K hK => ?_) AllReadyS.nil
        rw [if_pos (by rfl)]
        refine wp_store_one 22 (.tmp 12) (.tmp 11) rfl g3 0 (.slice (some ⟨gW, 0, none⟩) (k1 + 1) cW) rfl rfl 26 _ hS3r (show 0 + 1 ≤ 3 by decide) (by kernel_rfl) rfl rfl ?_
        intro x4r hA4r hb4r hs4r
        refine hK.out _ _ (Hold.over (s := 7) (by decide) (by rfl)) (fun hH => ?_)
        clear hK K
        refine wpAnyS_done (by kernel_rfl) ?_ _
        simp only [Act.put]
        have hR4 : Rd B x4r g r3 := ((hR1.below hb2r).low hb3r (by omega)).but hb4r (by omega)
        have hA24 : At 26 x4r w.heap.size [.slice none 0 0, .slice none 0 0, .slice none 0 0] := hb4r.at ((((hb1r.at (hA2.below hB0) (by omega)).below hb2r)).belowA hb3r (by omega)) (by omega)
        have hN3 : Gr eN M x3r (.slice aN k2 cN) ms := hNx.grown hGx (by decide) hgb fun _ _ => trivial
        have HRel : Hid (∃ (l' : List Tk) (f' : Nat) (aV : Option Addr) (k1 cV : Nat) (vs : List VT) (aN : Option Addr) (k2 cN : Nat) (ms : List ByteArray), (vs.length = k1 ∧ ms.length = k2) ∧ At 26 x4r g3 [.slice aV k1 cV, .slice aN k2 cN, .slice none 0 0] ∧ At 26 x4r w.heap.size [.slice none 0 0, .slice none 0 0, .slice none 0 0] ∧ (Gr eV M x4r (.slice aV k1 cV) vs ∧ Gr eN M x4r (.slice aN k2 cN) ms) ∧ Rd B x4r g l' ∧ But g w x4r ∧ k1 + k2 + l'.length ≤ l.length ∧ l'.length + 1 ≤ f' ∧ M ≤ x4r.heap.size ∧ D = ((declsR f' l').bind fun x r => .ok (vs.map VT.vr ++ x.1, ms.map (fun m => m.data.toList) ++ x.2) r).bind fun x r => (threadsR (r.length + 1) r).bind fun ts r => .ok ⟨x.1, x.2, ts⟩ r) := by
          refine ⟨r3, f', some ⟨gW, 0, none⟩, k1 + 1, cW, vs ++ [_], aN, k2, cN, ms, ⟨by rw [List.length_append, hl1]; rfl, hl2⟩, hA4r, hA24, ⟨hG3r.but hb4r hg3M, hN3.but hb4r hg3M⟩, hR4, ?_, by omega, by omega, by have := hb4r.size; omega, ?_⟩
          · have h1 := ((hbt.trans (But.of_below hB0)).trans hb1r).trans (But.of_below hb2r)
            have h2 : But g w x3r := ⟨hb3r.os.trans h1.os, hb3r.tape.trans h1.tape, hb3r.output.trans h1.output, Nat.le_trans h1.size hb3r.size, fun q hq hne => (hb3r.block q (by omega)).trans (h1.block q hq hne)⟩
            exact h2.fresh hb4r (by omega)
          · rw [hD']
            congr 2
            funext x r
            show Rs.ok (vs.map VT.vr ++ v :: x.1, _) r = _
            rw [List.map_append, List.append_assoc]
            rfl
        have hm : tokLen x4r g < tokLen wr g := by rw [hR4.len, htk]; omega
        clear hR4 hA24 hA4r hb4r hb3r hb2r hb1r hB0 hG3r hR1 hvl hD' hA2 hA3 hGV hGN hR hbt hA2r hGx hNx hN3 hs4r ls0 ls1 ls2 ls3 htk hgb
        go_wp2_with fail
        go_roundw
        case rel => exact HRel
        case measure => exact hm
    · rw [if_neg c0] at HD
      have C55 := takes_no g l' ⟨#[115, 104, 97, 114, 101, 100]⟩ (by decide) c0 wr hR
      clear hR c0
      go_wp2_with (go_at_call 55; refine C55.mono ?_; rintro r w2 ⟨rfl, hR, hb2⟩; refine Hid.out ?_)
      refine hidU ?_
      have hA2 := hb2.at hA2 (by omega)
      have hA3 := hb2.at hA3 (by omega)
      have hGV := hGV.but hb2 (by omega)
      have hGN := hGN.but hb2 (by omega)
      have hbt := hbt.trans hb2
      have l2 := hb2.size
      clear C55 hb2
      by_cases c1 : (hdT l').text = [109, 117, 116, 101, 120]
      · rw [if_pos c1] at HD
        have htl := tail_lt (l := l') (by rw [c1]; decide)
        have C55 := takes_yes g l' ⟨#[109, 117, 116, 101, 120]⟩ (by decide) c1 w2 hR
        clear hR c1
        go_wp2_with (go_at_call 55; refine C55.mono ?_; rintro r w3 ⟨rfl, hR, hb3⟩; refine Hid.out ?_)
        refine hidU ?_
        have hA2 := hb3.at hA2 (by omega)
        have hA3 := hb3.at hA3 (by omega)
        have hGV := hGV.but hb3 (by omega)
        have hGN := hGN.but hb3 (by omega)
        have hbt := hbt.trans hb3
        have l3 := hb3.size
        clear C55 hb3
        go_wp2_with fail
        cases hN : nameR l'.tail with
        | bad e p =>
          rw [hN] at HD
          have hD' : D = .bad e p := HD.out
          subst hD'
          have hS0r : At 26 w3.drew g3 [.slice aV k1 cV, .slice aN k2 cN, .slice none 0 0] := hA3.drew
          refine wp_region_S (S := fun xS => At 26 xS g3 [.slice aV k1 cV, .slice aN k2 cN, .slice none 0 0]) (St := [7]) (by kernel_rfl) hS0r ?_
          have hB0 : Below w3.heap.size w3 w3.drew := Below.drew (Below.refl _ _)
          obtain ⟨x0r, hx0⟩ : ∃ x, x = w3.drew := ⟨_, rfl⟩
          rw [← hx0] at hS0r hB0 ⊢
          clear hx0
          intro hH
          refine wpAnyS_pure (i := 0) (oi := { dst := some 15, op := .fieldAddr 26 (.tmp 3) 1, type := _, pos := _, after := _, guard := none }) (v := .pointer (some ⟨g3, 1, none⟩)) rfl (by kernel_rfl) (by kernel_rfl) (by kernel_rfl) (by kernel_rfl) (fun _ _ _ h => h) (Or.inl ⟨by rfl, ?_⟩) hH (fun hH => ?_)
          · intro wS hSw
            go_simp
          simp only [Act.put, List.setIfInBounds_toArray, List.set_cons_zero, List.set_cons_succ]
          refine wpAnyS_take [5, 6, 7] (i := 1) (oi := { dst := some 16, op := .load 23 (.tmp 15), type := _, pos := _, after := _, guard := none }) (v := .slice aN k2 cN) rfl (by kernel_rfl) (by kernel_rfl) (by kernel_rfl) (by kernel_rfl) (by kernel_rfl) (by kernel_rfl) (by kernel_rfl) (fun _ _ _ h => h) (Or.inl ⟨by rfl, ?_⟩) hH (fun hH => ?_)
          · intro wS hSw
            have z0 := (c3_cells hSw).2.1
            go_simp
          simp only [Act.put, List.setIfInBounds_toArray, List.set_cons_zero, List.set_cons_succ]
          refine wpAnyS_pure (i := 2) (oi := { dst := some 17, op := .move (.tmp 0), type := _, pos := _, after := _, guard := none }) (v := .pointer (some ⟨g, 0, none⟩)) rfl (by kernel_rfl) (by kernel_rfl) (by kernel_rfl) (by kernel_rfl) (fun _ _ _ h => h) (Or.inl ⟨by rfl, ?_⟩) hH (fun hH => ?_)
          · intro wS hSw
            go_simp
          simp only [Act.put, List.setIfInBounds_toArray, List.set_cons_zero, List.set_cons_succ]
          refine wpAnyS_ready (rs := [3]) (by kernel_rfl) (by simp) ?_
          refine AllReadyS.cons (o := { dst := some 18, op := .call { callee := .value (.func 57), args := #[.tmp 17], argTypes := #[66] }, type := _, pos := _, after := _, guard := none }) rfl (fun K hK => ?_) AllReadyS.nil
          rw [if_pos (by rfl)]
          have CV := readName_any g l'.tail x0r (hR.below hB0)
          rw [hN] at CV
          go_wp2_with (go_at_call 57; refine CV.mono ?_; rintro e' x1r ⟨hr, hb1r⟩; unfold PanW at hr; subst hr)
          exact ⟨rfl, rfl, (hbt.trans (But.of_below hB0)).trans hb1r⟩
        | ok m r3 =>
          have hvl' := nameR_left l'.tail
          rw [hN] at hvl'
          have hr3 : r3.length < l'.tail.length := hvl'
          rw [hN] at HD
          have hD1 : Hid (D = (((mustR [59] r3).bind fun _ r => (declsR f' r).bind fun x r => .ok (x.1, m :: x.2) r).bind fun x r => .ok (vs.map VT.vr ++ x.1, ms.map (fun m => m.data.toList) ++ x.2) r).bind fun x r => (threadsR (r.length + 1) r).bind fun ts r => .ok ⟨x.1, x.2, ts⟩ r) := HD
          clear HD hvl'
          have hS0r : At 26 w3.drew g3 [.slice aV k1 cV, .slice aN k2 cN, .slice none 0 0] := hA3.drew
          refine wp_region_S (S := fun xS => At 26 xS g3 [.slice aV k1 cV, .slice aN k2 cN, .slice none 0 0]) (St := [7]) (by kernel_rfl) hS0r ?_
          have hB0 : Below w3.heap.size w3 w3.drew := Below.drew (Below.refl _ _)
          obtain ⟨x0r, hx0⟩ : ∃ x, x = w3.drew := ⟨_, rfl⟩
          rw [← hx0] at hS0r hB0 ⊢
          clear hx0
          intro hH
          refine wpAnyS_pure (i := 0) (oi := { dst := some 15, op := .fieldAddr 26 (.tmp 3) 1, type := _, pos := _, after := _, guard := none }) (v := .pointer (some ⟨g3, 1, none⟩)) rfl (by kernel_rfl) (by kernel_rfl) (by kernel_rfl) (by kernel_rfl) (fun _ _ _ h => h) (Or.inl ⟨by rfl, ?_⟩) hH (fun hH => ?_)
          · intro wS hSw
            go_simp
          simp only [Act.put, List.setIfInBounds_toArray, List.set_cons_zero, List.set_cons_succ]
          refine wpAnyS_take [5, 6, 7] (i := 1) (oi := { dst := some 16, op := .load 23 (.tmp 15), type := _, pos := _, after := _, guard := none }) (v := .slice aN k2 cN) rfl (by kernel_rfl) (by kernel_rfl) (by kernel_rfl) (by kernel_rfl) (by kernel_rfl) (by kernel_rfl) (by kernel_rfl) (fun _ _ _ h => h) (Or.inl ⟨by rfl, ?_⟩) hH (fun hH => ?_)
          · intro wS hSw
            have z0 := (c3_cells hSw).2.1
            go_simp
          simp only [Act.put, List.setIfInBounds_toArray, List.set_cons_zero, List.set_cons_succ]
          refine wpAnyS_pure (i := 2) (oi := { dst := some 17, op := .move (.tmp 0), type := _, pos := _, after := _, guard := none }) (v := .pointer (some ⟨g, 0, none⟩)) rfl (by kernel_rfl) (by kernel_rfl) (by kernel_rfl) (by kernel_rfl) (fun _ _ _ h => h) (Or.inl ⟨by rfl, ?_⟩) hH (fun hH => ?_)
          · intro wS hSw
            go_simp
          simp only [Act.put, List.setIfInBounds_toArray, List.set_cons_zero, List.set_cons_succ]
          refine wpAnyS_ready (rs := [3]) (by kernel_rfl) (by simp) ?_
          refine AllReadyS.cons (o := { dst := some 18, op := .call { callee := .value (.func 57), args := #[.tmp 17], argTypes := #[66] }, type := _, pos := _, after := _, guard := none }) rfl (fun K hK => ?_) AllReadyS.nil
          rw [if_pos (by rfl)]
          have CV := readName_any g l'.tail x0r (hR.below hB0)
          rw [hN] at CV
          go_wp2_with (go_at_call 57; refine CV.mono ?_; rintro e' x1r ⟨rfl, hR1, hb1r⟩)
          have ls0 := hB0.size
          have ls1 := hb1r.size
          have hS1r := (hb1r.at hS0r (by omega))
          refine hK.out _ _ (Hold.of hS1r) (fun hH => ?_)
          clear hK K
          refine wpAnyS_ready (rs := [4]) (by kernel_rfl) (by simp) ?_
          refine AllReadyS.cons (o := { dst := some 19, op := .buildSlice 23 1 #[(0, .tmp 18)], type := _, pos := _, after := _, guard := none }) rfl (fun K hK => ?_) AllReadyS.nil
          rw [if_pos (by rfl)]
          refine wp_layN (.tmp 18) rfl ⟨m.toArray⟩ rfl ?_
          intro x2r hA2r hb2r
          have ls2 := hb2r.size
          have hS2r := (hS1r.below hb2r)
          refine hK.out _ _ (Hold.of hS2r) (fun hH => ?_)
          clear hK K
          refine wpAnyS_ready (rs := [5]) (by kernel_rfl) (by simp) ?_
          refine AllReadyS.cons (o := { dst := some 20, op := .call { callee := .builtin .append, args := #[.tmp 16, .tmp 19], argTypes := #[23, 23] }, type := _, pos := _, after := _, guard := none }) rfl (fun K hK => ?_) AllReadyS.nil
          rw [if_pos (by rfl)]
          have hGx : Gr eN M x2r (.slice aN k2 cN) ms := (((hGN.below hB0).but hb1r (by omega)).below hb2r)
          have hVx : Gr eV M x2r (.slice aV k1 cV) vs := (((hGV.below hB0).but hb1r (by omega)).below hb2r)
          refine wp_grow2 (e := eN) (A := M) (ys := ms) (.tmp 16) (.tmp 19) 23 _ 16 rfl Tryz.underlying23 f9 rfl (by decide) rfl x1r.heap.size rfl hGx ⟨m.toArray⟩ hA2r trivial trivial k2 hl2 (by omega) (by decide) ?_
          intro gW cW x3r hG3r hgb
          have hb3r : Below M x2r x3r := (Below.refl _ _).grown hgb hGx.size fun q hq => (hGx.own.lt q hq).1
          have ls3 := hb3r.size
          have hS3r := (hS2r.belowA hb3r hg3M)
          refine hK.out _ _ (Hold.of hS3r) (fun hH => ?_)
          clear hK K
          refine wpAnyS_pure (i := 6) (oi := { dst := some 21, op := .fieldAddr 26 (.tmp 3) 1, type := _, pos := _, after := _, guard := none }) (v := .pointer (some ⟨g3, 1, none⟩)) rfl (by kernel_rfl) (by kernel_rfl) (by kernel_rfl) (by kernel_rfl) (fun _ _ _ h => h) (Or.inl ⟨by rfl, ?_⟩) hH (fun hH => ?_)
          · intro wS hSw
            go_simp
          simp only [Act.put, List.setIfInBounds_toArray, List.set_cons_zero, List.set_cons_succ]
          refine wpAnyS_ready (rs := [7]) (by kernel_rfl) (by simp) ?_
          refine AllReadyS.cons (o := { dst := none, op := .store 23 (.tmp 21) (.tmp 20), type := _, pos := _, after := _, guard := none }) rfl (fun K hK => ?_) AllReadyS.nil
          rw [if_pos (by rfl)]
          refine wp_store_one 23 (.tmp 21) (.tmp 20) rfl g3 1 (.slice (some ⟨gW, 0, none⟩) (k2 + 1) cW) rfl rfl 26 _ hS3r (show 1 + 1 ≤ 3 by decide) (by kernel_rfl) rfl rfl ?_
          intro x4r hA4r hb4r hs4r
          refine hK.out _ _ (Hold.over (s := 7) (by decide) (by rfl)) (fun hH => ?_)
          clear hK K
          refine wpAnyS_done (by kernel_rfl) ?_ _
          simp only [Act.put]
          have hR4 : Rd B x4r g r3 := ((hR1.below hb2r).low hb3r (by omega)).but hb4r (by omega)
          have hA24 : At 26 x4r w.heap.size [.slice none 0 0, .slice none 0 0, .slice none 0 0] := hb4r.at ((((hb1r.at (hA2.below hB0) (by omega)).below hb2r)).belowA hb3r (by omega)) (by omega)
          have hV3 : Gr eV M x3r (.slice aV k1 cV) vs := hVx.grown hGx (by decide) hgb fun _ _ => trivial
          have hbt4 : But g w x4r := by
            have h1 := ((hbt.trans (But.of_below hB0)).trans hb1r).trans (But.of_below hb2r)
            have h2 : But g w x3r := ⟨hb3r.os.trans h1.os, hb3r.tape.trans h1.tape, hb3r.output.trans h1.output, Nat.le_trans h1.size hb3r.size, fun q hq hne => (hb3r.block q (by omega)).trans (h1.block q hq hne)⟩
            exact h2.fresh hb4r (by omega)
          have hV4 := hV3.but hb4r hg3M
          have hN4 := hG3r.but hb4r hg3M
          have lM4 : M ≤ x4r.heap.size := by have := hb4r.size; omega
          clear hb4r hb3r hb2r hb1r hB0 hG3r hR1 hA2 hA3 hGV hGN hR hbt hA2r hGx hVx hV3 hs4r ls0 ls1 ls2 ls3 hgb
          have CM := must_any g r3 ⟨#[59]⟩ (by decide) x4r hR4
          have eb : bytes ⟨#[59]⟩ = [59] := rfl
          rw [eb] at CM
          have hml := mustR_left (x := [59]) (l := r3) (by decide)
          clear eb hR4
          generalize mustR [59] r3 = N at CM hD1 hml
          cases N with
          | bad e p =>
            have hD' : D = .bad e p := hD1.out
            subst hD'
            go_wp2_with (go_at_call 58; refine CM.mono ?_; rintro r wF ⟨hr, hbF⟩; unfold PanW at hr; subst hr)
            exact ⟨rfl, rfl, hbt4.trans hbF⟩
          | ok u r4 =>
          have hr4 : r4.length < r3.length := hml
          have hD' : D = (((declsR f' r4).bind fun x r => .ok (x.1, m :: x.2) r).bind fun x r => .ok (vs.map VT.vr ++ x.1, ms.map (fun m => m.data.toList) ++ x.2) r).bind fun x r => (threadsR (r.length + 1) r).bind fun ts r => .ok ⟨x.1, x.2, ts⟩ r := hD1.out
          rw [Rs.bind_bind (declsR f' r4)] at hD'
          go_wp2_with (go_at_call 58; refine CM.mono ?_; rintro r wF ⟨rfl, hRF, hbF⟩; refine Hid.out ?_)
          refine hidU ?_
          have HRel : Hid (∃ (l' : List Tk) (f' : Nat) (aV : Option Addr) (k1 cV : Nat) (vs : List VT) (aN : Option Addr) (k2 cN : Nat) (ms : List ByteArray), (vs.length = k1 ∧ ms.length = k2) ∧ At 26 wF g3 [.slice aV k1 cV, .slice aN k2 cN, .slice none 0 0] ∧ At 26 wF w.heap.size [.slice none 0 0, .slice none 0 0, .slice none 0 0] ∧ (Gr eV M wF (.slice aV k1 cV) vs ∧ Gr eN M wF (.slice aN k2 cN) ms) ∧ Rd B wF g l' ∧ But g w wF ∧ k1 + k2 + l'.length ≤ l.length ∧ l'.length + 1 ≤ f' ∧ M ≤ wF.heap.size ∧ D = ((declsR f' l').bind fun x r => .ok (vs.map VT.vr ++ x.1, ms.map (fun m => m.data.toList) ++ x.2) r).bind fun x r => (threadsR (r.length + 1) r).bind fun ts r => .ok ⟨x.1, x.2, ts⟩ r) := by
            refine ⟨r4, f', aV, k1, cV, vs, some ⟨gW, 0, none⟩, k2 + 1, cW, ms ++ [_], ⟨hl1, by rw [List.length_append, hl2]; rfl⟩, hbF.at hA4r (by omega), hbF.at hA24 (by omega), ⟨hV4.but hbF (by omega), hN4.but hbF (by omega)⟩, hRF, hbt4.trans hbF, by omega, by omega, by have := hbF.size; omega, ?_⟩
            rw [hD']
            congr 2
            funext x r
            show Rs.ok (_, ms.map (fun m => m.data.toList) ++ m :: x.2) r = _
            rw [List.map_append, List.append_assoc]
            rfl
          have hm : tokLen wF g < tokLen wr g := by rw [hRF.len, htk]; omega
          clear CM hRF hbF hA4r hA24 hV4 hN4 hbt4 hD' hD1 hml htk
          go_wp2_with fail
          go_roundw
          case rel => exact HRel
          case measure => exact hm
      · rw [if_neg c1] at HD
        have C55 := takes_no g l' ⟨#[109, 117, 116, 101, 120]⟩ (by decide) c1 w2 hR
        have hD1 : Hid (D = (threadsR (l'.length + 1) l').bind fun ts r => .ok ⟨vs.map VT.vr ++ [], ms.map (fun m => m.data.toList) ++ [], ts⟩ r) := HD
        rw [List.append_nil, List.append_nil] at hD1
        clear hR c1 HD htk
        go_wp2_with (go_at_call 55; refine C55.mono ?_; rintro r w3 ⟨rfl, hR, hb3⟩; refine Hid.out ?_)
        refine hidU ?_
        have hA2 := hb3.at hA2 (by omega)
        have hA3 := hb3.at hA3 (by omega)
        have hGV := hGV.but hb3 (by omega)
        have hGN := hGN.but hb3 (by omega)
        have hbt := hbt.trans hb3
        have l3 := hb3.size
        have hTv := hGV.vars (by omega)
        have hTn := hGN.names (by omega)
        obtain ⟨M2, hM2⟩ : ∃ q, q = w3.heap.size := ⟨_, rfl⟩
        have hg3M2 : g3 < M2 := by omega
        have lMM : M ≤ M2 := by omega
        have HU : Hid ((vs = [] ∨ ∃ g o, aV = some ⟨g, o, none⟩ ∧ M ≤ g) ∧ (ms = [] ∨ ∃ g o, aN = some ⟨g, o, none⟩ ∧ M ≤ g)) := ⟨hTv.2, hTn.2⟩
        have HI : Hid (∃ (l' : List Tk) (f' : Nat) (aT : Option Addr) (k3 cT : Nat) (ts : List TT), ts.length = k3 ∧ At 26 w3 g3 [.slice aV k1 cV, .slice aN k2 cN, .slice aT k3 cT] ∧ At 26 w3 w.heap.size [.slice none 0 0, .slice none 0 0, .slice none 0 0] ∧ Gr eT M2 w3 (.slice aT k3 cT) ts ∧ Rd B w3 g l' ∧ But g w w3 ∧ (RowV M2 w3 aV cV vs ∧ RowN M2 w3 aN cN ms) ∧ k3 + l'.length ≤ l.length ∧ l'.length + 1 ≤ f' ∧ M2 ≤ w3.heap.size ∧ D = ((threadsR f' l').bind fun ss r => .ok (ts.map TT.th ++ ss) r).bind fun ts r => .ok ⟨vs.map VT.vr, ms.map (fun m => m.data.toList), ts⟩ r) := by
          refine ⟨l', l'.length + 1, none, 0, 0, [], rfl, hA3, hA2, Gr.nil (by omega), hR, hbt, ⟨by rw [hM2]; exact hTv.1, by rw [hM2]; exact hTn.1⟩, by omega, by omega, by omega, ?_⟩
          rw [hD1.out]
          cases threadsR (l'.length + 1) l' <;> rfl
        obtain ⟨lz, hlz⟩ : ∃ q, q = l' := ⟨_, rfl⟩
        clear C55 hb3 hA2 hA3 hGV hGN hR hbt hTv hTn hM2 hD1 hlz
        go_wp2_with fail
        go_loopw [25] (fun _ wr => Hid (∃ (l' : List Tk) (f' : Nat) (aT : Option Addr) (k3 cT : Nat) (ts : List TT), ts.length = k3 ∧ At 26 wr g3 [.slice aV k1 cV, .slice aN k2 cN, .slice aT k3 cT] ∧ At 26 wr w.heap.size [.slice none 0 0, .slice none 0 0, .slice none 0 0] ∧ Gr eT M2 wr (.slice aT k3 cT) ts ∧ Rd B wr g l' ∧ But g w wr ∧ (RowV M2 wr aV cV vs ∧ RowN M2 wr aN cN ms) ∧ k3 + l'.length ≤ l.length ∧ l'.length + 1 ≤ f' ∧ M2 ≤ wr.heap.size ∧ D = ((threadsR f' l').bind fun ss r => .ok (ts.map TT.th ++ ss) r).bind fun ts r => .ok ⟨vs.map VT.vr, ms.map (fun m => m.data.toList), ts⟩ r)) (fun _ wr => tokLen wr g)
        case atStart => exact HI
        case round =>
          clear HI
          obtain ⟨l', f', aT, k3, cT, ts, hl3, hA3, hA2, hGT, hR, hbt, hst, hkl, hf', lM2, hD⟩ := hrel.out
          clear hrel
          obtain ⟨f', rfl⟩ : ∃ q, f' = q + 1 := ⟨f' - 1, by omega⟩
          have HD : Hid (D = ((threadsR (f' + 1) l').bind fun ss r => .ok (ts.map TT.th ++ ss) r).bind fun ts r => .ok ⟨vs.map VT.vr, ms.map (fun m => m.data.toList), ts⟩ r) := hD
          rw [threadsR] at HD
          clear hD
          have htk := hR.len
          by_cases c0 : (hdT l').text = [116, 104, 114, 101, 97, 100]
          · rw [if_pos c0] at HD
            have htl := tail_lt (l := l') (by rw [c0]; decide)
            have C55 := takes_yes g l' ⟨#[116, 104, 114, 101, 97, 100]⟩ (by decide) c0 wr hR
            clear hR c0
            go_wp2_with (go_at_call 55; refine C55.mono ?_; rintro r w2 ⟨rfl, hR, hb2⟩; refine Hid.out ?_)
            refine hidU ?_
            have hA2 := hb2.at hA2 (by omega)
            have hA3 := hb2.at hA3 (by omega)
            have hGT := hGT.but hb2 (by omega)
            have hbt := hbt.trans hb2
            have hst : RowV M2 w2 aV cV vs ∧ RowN M2 w2 aN cN ms := ⟨hst.1.stay HU.out.1 (Nat.le_refl _) fun q hq hl => hb2.block q (by omega) (by omega), hst.2.stay HU.out.2 (Nat.le_refl _) fun q hq hl => hb2.block q (by omega) (by omega)⟩
            have l2 := hb2.size
            clear C55 hb2
            go_wp2_with fail
            cases hN : threadR l'.tail with
            | bad e p =>
              rw [hN] at HD
              have hD' : D = .bad e p := HD.out
              subst hD'
              have hS0r : At 26 w2.drew g3 [.slice aV k1 cV, .slice aN k2 cN, .slice aT k3 cT] := hA3.drew
              refine wp_region_S (S := fun xS => At 26 xS g3 [.slice aV k1 cV, .slice aN k2 cN, .slice aT k3 cT]) (St := [7]) (by kernel_rfl) hS0r ?_
              have hB0 : Below w2.heap.size w2 w2.drew := Below.drew (Below.refl _ _)
              obtain ⟨x0r, hx0⟩ : ∃ x, x = w2.drew := ⟨_, rfl⟩
              rw [← hx0] at hS0r hB0 ⊢
              clear hx0
              intro hH
              refine wpAnyS_pure (i := 0) (oi := { dst := some 26, op := .fieldAddr 26 (.tmp 3) 2, type := _, pos := _, after := _, guard := none }) (v := .pointer (some ⟨g3, 2, none⟩)) rfl (by kernel_rfl) (by kernel_rfl) (by kernel_rfl) (by kernel_rfl) (fun _ _ _ h => h) (Or.inl ⟨by rfl, ?_⟩) hH (fun hH => ?_)
              · intro wS hSw
                go_simp
              simp only [Act.put, List.setIfInBounds_toArray, List.set_cons_zero, List.set_cons_succ]
              refine wpAnyS_take [5, 6, 7] (i := 1) (oi := { dst := some 27, op := .load 24 (.tmp 26), type := _, pos := _, after := _, guard := none }) (v := .slice aT k3 cT) rfl (by kernel_rfl) (by kernel_rfl) (by kernel_rfl) (by kernel_rfl) (by kernel_rfl) (by kernel_rfl) (by kernel_rfl) (fun _ _ _ h => h) (Or.inl ⟨by rfl, ?_⟩) hH (fun hH => ?_)
              · intro wS hSw
                have z0 := (c3_cells hSw).2.2
                go_simp
              simp only [Act.put, List.setIfInBounds_toArray, List.set_cons_zero, List.set_cons_succ]
              refine wpAnyS_pure (i := 2) (oi := { dst := some 28, op := .move (.tmp 0), type := _, pos := _, after := _, guard := none }) (v := .pointer (some ⟨g, 0, none⟩)) rfl (by kernel_rfl) (by kernel_rfl) (by kernel_rfl) (by kernel_rfl) (fun _ _ _ h => h) (Or.inl ⟨by rfl, ?_⟩) hH (fun hH => ?_)
              · intro wS hSw
                go_simp
              simp only [Act.put, List.setIfInBounds_toArray, List.set_cons_zero, List.set_cons_succ]
              refine wpAnyS_ready (rs := [3]) (by kernel_rfl) (by simp) ?_
              refine AllReadyS.cons (o := { dst := some 29, op := .call { callee := .value (.func 59), args := #[.tmp 28], argTypes := #[66] }, type := _, pos := _, after := _, guard := none }) rfl (fun K hK => ?_) AllReadyS.nil
              rw [if_pos (by rfl)]
              have CV := thread_any g l'.tail x0r (hR.below hB0) (by have := hB0.size; omega) (by omega)
              rw [hN] at CV
              go_wp2_with (go_at_call 59; refine CV.mono ?_; rintro e' x1r ⟨hr, hb1r⟩; unfold PanW at hr; subst hr)
              exact ⟨rfl, rfl, (hbt.trans (But.of_below hB0)).trans hb1r⟩
            | ok t r3 =>
              have hvl' := threadR_left l'.tail
              rw [hN] at hvl'
              have hr3 : r3.length < l'.tail.length := hvl'
              rw [hN] at HD
              have hD' : D = (((threadsR f' r3).bind fun ss r => .ok (t :: ss) r).bind fun ss r => .ok (ts.map TT.th ++ ss) r).bind fun ts r => .ok ⟨vs.map VT.vr, ms.map (fun m => m.data.toList), ts⟩ r := HD.out
              rw [Rs.bind_bind (threadsR f' r3)] at hD'
              clear HD hvl'
              have hS0r : At 26 w2.drew g3 [.slice aV k1 cV, .slice aN k2 cN, .slice aT k3 cT] := hA3.drew
              refine wp_region_S (S := fun xS => At 26 xS g3 [.slice aV k1 cV, .slice aN k2 cN, .slice aT k3 cT]) (St := [7]) (by kernel_rfl) hS0r ?_
              have hB0 : Below w2.heap.size w2 w2.drew := Below.drew (Below.refl _ _)
              obtain ⟨x0r, hx0⟩ : ∃ x, x = w2.drew := ⟨_, rfl⟩
              rw [← hx0] at hS0r hB0 ⊢
              clear hx0
              intro hH
              refine wpAnyS_pure (i := 0) (oi := { dst := some 26, op := .fieldAddr 26 (.tmp 3) 2, type := _, pos := _, after := _, guard := none }) (v := .pointer (some ⟨g3, 2, none⟩)) rfl (by kernel_rfl) (by kernel_rfl) (by kernel_rfl) (by kernel_rfl) (fun _ _ _ h => h) (Or.inl ⟨by rfl, ?_⟩) hH (fun hH => ?_)
              · intro wS hSw
                go_simp
              simp only [Act.put, List.setIfInBounds_toArray, List.set_cons_zero, List.set_cons_succ]
              refine wpAnyS_take [5, 6, 7] (i := 1) (oi := { dst := some 27, op := .load 24 (.tmp 26), type := _, pos := _, after := _, guard := none }) (v := .slice aT k3 cT) rfl (by kernel_rfl) (by kernel_rfl) (by kernel_rfl) (by kernel_rfl) (by kernel_rfl) (by kernel_rfl) (by kernel_rfl) (fun _ _ _ h => h) (Or.inl ⟨by rfl, ?_⟩) hH (fun hH => ?_)
              · intro wS hSw
                have z0 := (c3_cells hSw).2.2
                go_simp
              simp only [Act.put, List.setIfInBounds_toArray, List.set_cons_zero, List.set_cons_succ]
              refine wpAnyS_pure (i := 2) (oi := { dst := some 28, op := .move (.tmp 0), type := _, pos := _, after := _, guard := none }) (v := .pointer (some ⟨g, 0, none⟩)) rfl (by kernel_rfl) (by kernel_rfl) (by kernel_rfl) (by kernel_rfl) (fun _ _ _ h => h) (Or.inl ⟨by rfl, ?_⟩) hH (fun hH => ?_)
              · intro wS hSw
                go_simp
              simp only [Act.put, List.setIfInBounds_toArray, List.set_cons_zero, List.set_cons_succ]
              refine wpAnyS_ready (rs := [3]) (by kernel_rfl) (by simp) ?_
              refine AllReadyS.cons (o := { dst := some 29, op := .call { callee := .value (.func 59), args := #[.tmp 28], argTypes := #[66] }, type := _, pos := _, after := _, guard := none }) rfl (fun K hK => ?_) AllReadyS.nil
              rw [if_pos (by rfl)]
              have CV := thread_any g l'.tail x0r (hR.below hB0) (by have := hB0.size; omega) (by omega)
              rw [hN] at CV
              go_wp2_with (go_at_call 59; refine CV.mono ?_; rintro e' x1r ⟨y, rfl, hye, hyt, hR1, hb1r⟩)
              have ls0 := hB0.size
              have ls1 := hb1r.size
              have hS1r := (hb1r.at hS0r (by omega))
              refine hK.out _ _ (Hold.of hS1r) (fun hH => ?_)
              clear hK K
              refine wpAnyS_ready (rs := [4]) (by kernel_rfl) (by simp) ?_
              refine AllReadyS.cons (o := { dst := some 30, op := .buildSlice 24 1 #[(0, .tmp 29)], type := _, pos := _, after := _, guard := none }) rfl (fun K hK => ?_) AllReadyS.nil
              rw [if_pos (by rfl)]
              refine wp_layT (.tmp 29) rfl y.cells rfl rfl ?_
              intro x2r hA2r hb2r
              have ls2 := hb2r.size
              have hS2r := (hS1r.below hb2r)
              refine hK.out _ _ (Hold.of hS2r) (fun hH => ?_)
              clear hK K
              refine wpAnyS_ready (rs := [5]) (by kernel_rfl) (by simp) ?_
              refine AllReadyS.cons (o := { dst := some 31, op := .call { callee := .builtin .append, args := #[.tmp 27, .tmp 30], argTypes := #[24, 24] }, type := _, pos := _, after := _, guard := none }) rfl (fun K hK => ?_) AllReadyS.nil
              rw [if_pos (by rfl)]
              have hyin : eT.In x2r.heap.size x2r y := ⟨RowV.stay hyt.1.1 hyt.1.2 hb2r.size (S := fun q => x0r.heap.size ≤ q) (fun q hq hl => hb2r.block q hl), RowS.stay hyt.2.1 hyt.2.2.1 hyt.2.2.2 hb2r.size (S := fun q => x0r.heap.size ≤ q) (fun q hq hl => hb2r.block q hl)⟩
              have hyoff : eT.Lies (fun q => M2 ≤ q ∧ some q ≠ (Value.slice aT k3 cT).ownBlock) y := Gr.fresh (hGT.below hB0) (show y.Lies (fun q => x0r.heap.size ≤ q) from ⟨hyt.1.2, hyt.2.2.1, hyt.2.2.2⟩)
              have hGx : Gr eT M2 x2r (.slice aT k3 cT) ts := (((hGT.below hB0).but hb1r (by omega)).below hb2r)
              refine wp_grow2 (e := eT) (A := M2) (ys := ts) (.tmp 27) (.tmp 30) 24 _ 64 rfl Tryz.underlying24 f53 rfl (by decide) rfl x1r.heap.size rfl hGx y hA2r hyin hyoff k3 hl3 (by omega) (by decide) ?_
              intro gW cW x3r hG3r hgb
              have hb3r : Below M2 x2r x3r := (Below.refl _ _).grown hgb hGx.size fun q hq => (hGx.own.lt q hq).1
              have ls3 := hb3r.size
              have hS3r := (hS2r.belowA hb3r hg3M2)
              refine hK.out _ _ (Hold.of hS3r) (fun hH => ?_)
              clear hK K
              refine wpAnyS_pure (i := 6) (oi := { dst := some 32, op := .fieldAddr 26 (.tmp 3) 2, type := _, pos := _, after := _, guard := none }) (v := .pointer (some ⟨g3, 2, none⟩)) rfl (by kernel_rfl) (by kernel_rfl) (by kernel_rfl) (by kernel_rfl) (fun _ _ _ h => h) (Or.inl ⟨by rfl, ?_⟩) hH (fun hH => ?_)
              · intro wS hSw
                go_simp
              simp only [Act.put, List.setIfInBounds_toArray, List.set_cons_zero, List.set_cons_succ]
              refine wpAnyS_ready (rs := [7]) (by kernel_rfl) (by simp) ?_
              refine AllReadyS.cons (o := { dst := none, op := .store 24 (.tmp 32) (.tmp 31), type := _, pos := _, after := _, guard := none }) rfl (fun K hK => ?_) AllReadyS.nil
              rw [if_pos (by rfl)]
              refine wp_store_one 24 (.tmp 32) (.tmp 31) rfl g3 2 (.slice (some ⟨gW, 0, none⟩) (k3 + 1) cW) rfl rfl 26 _ hS3r (show 2 + 1 ≤ 3 by decide) (by kernel_rfl) rfl rfl ?_
              intro x4r hA4r hb4r hs4r
              refine hK.out _ _ (Hold.over (s := 7) (by decide) (by rfl)) (fun hH => ?_)
              clear hK K
              refine wpAnyS_done (by kernel_rfl) ?_ _
              simp only [Act.put]
              have hR4 : Rd B x4r g r3 := ((hR1.below hb2r).low hb3r (by omega)).but hb4r (by omega)
              have hA24 : At 26 x4r w.heap.size [.slice none 0 0, .slice none 0 0, .slice none 0 0] := hb4r.at ((((hb1r.at (hA2.below hB0) (by omega)).below hb2r)).belowA hb3r (by omega)) (by omega)
              have hkeep : ∀ q, M ≤ q → q < M2 → x4r.heap[q]? = w2.heap[q]? := fun q h1 h2 => (hb4r.block q (by omega) (by omega)).trans ((hb3r.block q h2).trans ((hb2r.block q (by omega)).trans ((hb1r.block q (by omega) (by omega)).trans (hB0.block q (by omega)))))
              have HRel : Hid (∃ (l' : List Tk) (f' : Nat) (aT : Option Addr) (k3 cT : Nat) (ts : List TT), ts.length = k3 ∧ At 26 x4r g3 [.slice aV k1 cV, .slice aN k2 cN, .slice aT k3 cT] ∧ At 26 x4r w.heap.size [.slice none 0 0, .slice none 0 0, .slice none 0 0] ∧ Gr eT M2 x4r (.slice aT k3 cT) ts ∧ Rd B x4r g l' ∧ But g w x4r ∧ (RowV M2 x4r aV cV vs ∧ RowN M2 x4r aN cN ms) ∧ k3 + l'.length ≤ l.length ∧ l'.length + 1 ≤ f' ∧ M2 ≤ x4r.heap.size ∧ D = ((threadsR f' l').bind fun ss r => .ok (ts.map TT.th ++ ss) r).bind fun ts r => .ok ⟨vs.map VT.vr, ms.map (fun m => m.data.toList), ts⟩ r) := by
                refine ⟨r3, f', some ⟨gW, 0, none⟩, k3 + 1, cW, ts ++ [_], by rw [List.length_append, hl3]; rfl, hA4r, hA24, hG3r.but hb4r hg3M2, hR4, ?_, ⟨hst.1.stay HU.out.1 (Nat.le_refl _) hkeep, hst.2.stay HU.out.2 (Nat.le_refl _) hkeep⟩, by omega, by omega, by have := hb4r.size; omega, ?_⟩
                · have h1 := ((hbt.trans (But.of_below hB0)).trans hb1r).trans (But.of_below hb2r)
                  have h2 : But g w x3r := ⟨hb3r.os.trans h1.os, hb3r.tape.trans h1.tape, hb3r.output.trans h1.output, Nat.le_trans h1.size hb3r.size, fun q hq hne => (hb3r.block q (by omega)).trans (h1.block q hq hne)⟩
                  exact h2.fresh hb4r (by omega)
                · rw [hD']
                  congr 2
                  funext ss r
                  show Rs.ok (ts.map TT.th ++ t :: ss) r = _
                  rw [List.map_append, List.append_assoc, ← hye]
                  rfl
              have hm : tokLen x4r g < tokLen wr g := by rw [hR4.len, htk]; omega
              clear hkeep hR4 hA24 hA4r hb4r hb3r hb2r hb1r hB0 hG3r hR1 hyt hye hyin hyoff hD' hA2 hA3 hGT hR hbt hst hA2r hGx hs4r ls0 ls1 ls2 ls3 htk hgb
              go_wp2_with fail
              go_roundw
              case rel => exact HRel
              case measure => exact hm
          · rw [if_neg c0] at HD
            have hD' : D = .ok ⟨vs.map VT.vr, ms.map (fun m => m.data.toList), ts.map TT.th ++ []⟩ l' := HD.out
            rw [List.append_nil] at hD'
            subst hD'
            have C55 := takes_no g l' ⟨#[116, 104, 114, 101, 97, 100]⟩ (by decide) c0 wr hR
            clear hR c0 HD htk
            go_wp2_with (go_at_call 55; refine C55.mono ?_; rintro r w2 ⟨rfl, hR, hb2⟩; refine Hid.out ?_)
            refine hidU ?_
            have hA2 := hb2.at hA2 (by omega)
            have hA3 := hb2.at hA3 (by omega)
            have hGT := hGT.but hb2 (by omega)
            have hbt := hbt.trans hb2
            have hst : RowV M2 w2 aV cV vs ∧ RowN M2 w2 aN cN ms := ⟨hst.1.stay HU.out.1 (Nat.le_refl _) fun q hq hl => hb2.block q (by omega) (by omega), hst.2.stay HU.out.2 (Nat.le_refl _) fun q hq hl => hb2.block q (by omega) (by omega)⟩
            have l2 := hb2.size
            clear C55 hb2
            have hcs : (⟨aV, cV, vs, aN, cN, ms, aT, cT, ts⟩ : PT).cells = [.slice aV k1 cV, .slice aN k2 cN, .slice aT k3 cT] := by
              show [Value.slice aV vs.length cV, .slice aN ms.length cN, .slice aT ts.length cT] = _
              rw [hl1, hl2, hl3]
            go_wp2_with (first
              | ((with_reducible show wpList _ _ _ _ _ _); refine wpList_load_at (P := Tryz.prog) rfl 26 (.tmp 3) rfl g3 rfl 26 [.slice aV k1 cV, .slice aN k2 cN, .slice aT k3 cT] hA3 _ Tryz.underlying26 rfl i26 ?_)
              | ((with_reducible show wpList _ _ _ _ _ _); refine wpList_store_at (P := Tryz.prog) rfl 26 (.tmp 2) (.tmp 33) rfl w.heap.size [.slice aV k1 cV, .slice aN k2 cN, .slice aT k3 cT] rfl rfl 26 _ hA2 i26 rfl (by rw [← hcs]; exact PT.one _) ?_; intro wE hAE hbE hsE; clear hsE))
            refine bodyPost_ret (results_at rfl _ _ w.heap.size 26 [.slice aV k1 cV, .slice aN k2 cN, .slice aT k3 cT] _ rfl hAE Tryz.underlying26 rfl i26) rfl ?_
            have hT := (hGT.but hbE (by omega)).threads (by omega)
            have lE := hbE.size
            refine ⟨⟨aV, cV, vs, aN, cN, ms, aT, cT, ts⟩, by rw [hcs], rfl, ⟨hst.1.stay HU.out.1 (by omega) fun q hq hl => hbE.block q (by omega) (by omega), hst.2.stay HU.out.2 (by omega) fun q hq hl => hbE.block q (by omega) (by omega), hT.1⟩, ⟨at_imp (fun q hq => by omega) HU.out.1, at_imp (fun q hq => by omega) HU.out.2, at_imp (fun q hq => by omega) hT.2.1, fun y hy => eT.mono (hT.2.2 y hy) fun q hq => by omega⟩, hR.but hbE hBw, hbt.fresh hbE (Nat.le_refl _)⟩
end Go.Proofs.YtjgggmjjikopeaaGreatDoor
