/- The fixed answers of layer 13. -/
import Derived.Test.YtopabkkapbaibaaGramGot
import Derived.Deep.Cut
import Derived.Test.YtopabkkapbaibaaGramPcs
import Derived.Test.YtopabkkapbaibaaMsgPut3
import Derived.Test.YtopabkkapbaibaaShelf
import Derived.Test.YtopabkkapbaibaaWalkBuilder
import Derived.Test.YtopabkkapbaibaaOrdEv
import Derived.Test.YtopabkkapbaibaaMsgChk2
import Derived.Test.YtopabkkapbaibaaGramGots
import Derived.Test.YtopabkkapbaibaaMsgBackM
set_option linter.unusedVariables false
namespace Go.Proofs.Ytopabkkapbaibaa.Gram
open Go.RowKit Go.Shelf
open Go.Proofs.Ytopabkkapbaibaa.Addr (hiN loN RowAt below2 below_drew below_new bset RowAt.lt RowAt.cell RowAt.frozen RowAt.below RowAt.drew RowAt.new RowAt.alloc cells2 cells4 results_cell)
open Go.Proofs.Ytopabkkapbaibaa.Msg (Ev evV evC getE eget_any zeroE zeroC cells12 results_cell_tmp1)
def ofG (p : PcT) : GtT × Int := if rightP p then (gotG p, 0) else ((zeroE, 0), 2)
set_option maxHeartbeats 4000000 in
theorem of_any (k : Nat) (b : List UInt8) (w : World) (hk : k ≤ 255) (hb : (b.length : Int) ≤ 200000000000000) :
    Calls Try.prog 20 #[pcV (k, b)] w fun e w' => e = .returned (.tuple #[gtV (ofG (k, b)).1, .int .i64 (ofG (k, b)).2]) ∧ Below w.heap.size w w' := by
  have c1 := fun W => right_any k b W hk
  have c2 := fun W => got_any k b W hk hb
  obtain ⟨a, ha⟩ : ∃ a, a = ofG (k, b) := ⟨_, rfl⟩
  have HA : Hid (a = if rightP (k, b) then (gotG (k, b), 0) else ((zeroE, 0), 2)) := ha
  rw [← ha]
  clear ha
  generalize rightP (k, b) = R at *
  generalize gotG (k, b) = G at *
  obtain ⟨⟨ek, er, es, et, ⟨s6, n, ln⟩, ⟨ak, ai⟩, ei, ee⟩, y⟩ := G
  have HEQ : Hid (gtV (⟨ek, er, es, et, ⟨s6, n, ln⟩, ⟨ak, ai⟩, ei, ee⟩, y) = .agg #[.int .u8 (ek : Int), .int .i64 er, .int .u64 (es : Int), .int .i64 et, .bool s6, .int .u64 (hiN n : Int), .int .u64 (loN n : Int), .int .i64 ln, .int .u8 (ak : Int), .int .i64 ai, .int .i64 ei, .int .i64 ee, .int .i64 y]) := rfl
  unfold gtV gtC evC at c2
  simp only [List.cons_append, List.nil_append] at c2
  generalize hh : hiN n = nh at *
  generalize hh2 : loN n = nl at *
  clear hh hh2
  unfold pcV at *
  obtain ⟨X, hX⟩ : ∃ X, X = (w.alloc (.cells #[.int .u8 (k : Int), .string ⟨b.toArray⟩] 70)).alloc (.cells #[.int .u8 0, .int .i64 0, .int .u64 0, .int .i64 0, .bool false, .int .u64 0, .int .u64 0, .int .i64 0, .int .u8 0, .int .i64 0, .int .i64 0, .int .i64 0, .int .i64 0] 52) := ⟨_, rfl⟩
  have hB : Below w.heap.size w X := by rw [hX]; exact below_new (below_new (Below.refl _ _) _) _
  have rx : RowAt X (w.heap.size + 1) [.int .u8 0, .int .i64 0, .int .u64 0, .int .i64 0, .bool false, .int .u64 0, .int .u64 0, .int .i64 0, .int .u8 0, .int .i64 0, .int .i64 0, .int .i64 0, .int .i64 0] 52 := by rw [hX, ← World.size_alloc w (.cells #[.int .u8 (k : Int), .string ⟨b.toArray⟩] 70)]; exact RowAt.new _ _ _
  have rp : RowAt X w.heap.size [.int .u8 (k : Int), .string ⟨b.toArray⟩] 70 := by rw [hX]; exact (RowAt.new _ _ _).alloc _
  go_enter Try.func20, Try.ntmps20
  go_upto_region 1 with fail
  rw [← hX]
  clear hX
  obtain ⟨r0, r1, rf⟩ := cells2 rp
  go_wp2_with fail
  go_at_call 33; refine (c1 _).mono ?_; rintro e w1 ⟨rfl, hb1⟩
  replace rx := RowAt.below rx hb1
  replace rp := RowAt.below rp hb1
  replace hB := below2 hB hb1
  clear hb1 c1 r0 r1 rf
  obtain ⟨r0, r1, rf⟩ := cells2 rp
  cases R
  · have e : a = ((zeroE, 0), 2) := HA.out
    obtain ⟨⟨y0, y1, y2, y3, y4, y5⟩, ⟨y6, y7, y8, y9, y10, y11, y12⟩, yf, yl⟩ := cells13 rx
    clear rx rp HA c2
    go_wp2_with fail
    refine bodyPost_ret (v := .tuple #[.agg #[.int .u8 0, .int .i64 0, .int .u64 0, .int .i64 0, .bool false, .int .u64 0, .int .u64 0, .int .i64 0, .int .u8 0, .int .i64 0, .int .i64 0, .int .i64 0, .int .i64 0], .int .i64 2]) ?_ rfl ⟨by rw [e, gtV_z], ?_⟩
    · rw [results_cell_tmp1 rfl]
      go_simp
    · repeat' (first | with_reducible exact hB | with_reducible refine bset ?_ (by omega))
  · have e : a = ((⟨ek, er, es, et, ⟨s6, n, ln⟩, ⟨ak, ai⟩, ei, ee⟩, y), 0) := HA.out
    clear HA
    go_wp2_with fail
    go_at_call 25; refine (c2 _).mono ?_; rintro e w2 ⟨rfl, hb2⟩
    replace rx := RowAt.below rx hb2
    replace hB := below2 hB hb2
    obtain ⟨⟨y0, y1, y2, y3, y4, y5⟩, ⟨y6, y7, y8, y9, y10, y11, y12⟩, yf, yl⟩ := cells13 rx
    clear rx rp hb2 c2 r0 r1 rf
    go_wp2_with fail
    refine bodyPost_ret (v := .tuple #[.agg #[.int .u8 (ek : Int), .int .i64 er, .int .u64 (es : Int), .int .i64 et, .bool s6, .int .u64 (nh : Int), .int .u64 (nl : Int), .int .i64 ln, .int .u8 (ak : Int), .int .i64 ai, .int .i64 ei, .int .i64 ee, .int .i64 y], .int .i64 0]) ?_ rfl ⟨by rw [e, HEQ.out], ?_⟩
    · rw [results_cell_tmp1 rfl]
      go_simp
    · repeat' (first | with_reducible exact hB | with_reducible refine bset ?_ (by omega))
end Go.Proofs.Ytopabkkapbaibaa.Gram
namespace Go.Proofs.Ytopabkkapbaibaa.Gram
open Go.RowKit
open Go.Proofs.Ytopabkkapbaibaa.Msg (Ev evV evC okE evB checkE FitE eput_any bytes_cat)
open Go.Proofs.Ytopabkkapbaibaa.Addr (RowAt below2 below_drew below_new bset RowAt.lt RowAt.cell RowAt.frozen RowAt.below RowAt.drew RowAt.new RowAt.alloc cells2 cells4)
def fitN (n : Nat) : Bool := decide (1 ≤ n ∧ n ≤ 64)
def wrapL (l : List UInt8) : List UInt8 := [245, 0, UInt8.ofNat l.length] ++ l
theorem isFit_any (n : Nat) (w : World) (h : (n : Int) ≤ 9223372036854775807) : Calls Try.prog 46 #[.int .i64 (n : Int)] w fun e w' => e = .returned (.bool (fitN n)) ∧ w' = w := by
  have HF : Hid (fitN n = decide (1 ≤ n ∧ n ≤ 64)) := rfl
  generalize fitN n = R at HF ⊢
  by_cases h1 : 1 ≤ n
  · have d1 : decide (1 ≤ (n : Int)) = true := by rw [decide_eq_true_iff]; omega
    have HV : Hid (R = decide ((n : Int) ≤ 64)) := by show _ = _; rw [HF.out]; exact decide_eq_decide.2 (by omega)
    clear HF
    go_enter Try.func46, Try.ntmps46
    go_wp2
    go_ret
    exact ⟨by rw [HV.out]; rfl, rfl⟩
  · have d1 : decide (1 ≤ (n : Int)) = false := by rw [decide_eq_false_iff_not]; omega
    have HV : Hid (R = false) := by show _ = _; rw [HF.out, decide_eq_false_iff_not]; omega
    clear HF
    go_enter Try.func46, Try.ntmps46
    go_wp2
    go_ret
    exact ⟨by rw [HV.out]; rfl, rfl⟩
theorem wrap_ok (l : List UInt8) (h : fitN l.length = true) : 1 ≤ l.length ∧ l.length ≤ 64 := by unfold fitN at h; simpa using h
theorem conv3 (W : World) (n : Nat) (x : Int) (t : TypeId) (hn : n ≤ 64) (hx : x = 0) : (convert 56 9 (.slice (some ⟨W.heap.size, 0, none⟩) 3 3)).run Try.prog (W.alloc (.cells #[.int .u8 245, .int .u8 x, .int .u8 (n : Int)] t)) = .ok (.string ⟨#[245, 0, UInt8.ofNat n]⟩) (W.alloc (.cells #[.int .u8 245, .int .u8 x, .int .u8 (n : Int)] t)) := by
  have hr := RowAt.new W [.int .u8 245, .int .u8 x, .int .u8 (n : Int)] t
  subst hx
  refine run_convert_bytes_back (P := Try.prog) _ 56 9 5 ⟨W.heap.size, 0, none⟩ 3 [245, 0, UInt8.ofNat n] Try.underlying56 Try.underlying5 Try.underlying9 (fun j hj => ?_)
  have hj3 : j < 3 := by simpa using hj
  rw [addr_add, Nat.zero_add, hr.cell]
  have h3 : j = 0 ∨ j = 1 ∨ j = 2 := by omega
  rcases h3 with rfl | rfl | rfl
  · rfl
  · rfl
  · show some (Value.int .u8 (n : Int)) = some (Value.int .u8 ((UInt8.ofNat n).toNat : Int))
    rw [UInt8.toNat_ofNat_of_lt' (by show n < 256; omega)]
set_option maxHeartbeats 2000000 in
set_option maxRecDepth 20000 in
theorem wrap_any (l : List UInt8) (w : World) (hl : (l.length : Int) ≤ 140737488351232) :
    Calls Try.prog 27 #[.string ⟨l.toArray⟩] w fun e w' => e = .returned (.tuple #[strV (if fitN l.length then wrapL l else []), .int .i64 (if fitN l.length then 0 else 11)]) ∧ Below w.heap.size w w' := by
  have cf := fun W => isFit_any l.length W (by omega)
  have hF := wrap_ok l
  have HW : Hid (wrapL l = [245, 0, UInt8.ofNat l.length] ++ l) := rfl
  have hcat := bytes_cat [245, 0, UInt8.ofNat l.length] l
  generalize wrapL l = R at HW ⊢
  cases hb : fitN l.length
  · rw [hb] at cf
    clear hF hb hcat
    unfold strV
    go_enter Try.func27, Try.ntmps27
    go_wp2_with fail
    go_at_call 46; refine (cf _).mono ?_; rintro e w1 ⟨rfl, rfl⟩
    go_wp2_with fail
    go_ret2
    exact ⟨rfl, Below.refl _ _⟩
  · rw [hb] at cf
    have h64 := hF hb
    clear hF hb
    unfold strV
    have hi : (l.length : Int) ≤ 64 := by omega
    have hc3 := conv3 w l.length ((l.length : Int) / 256) 97 (by omega) (by omega)
    rw [← HW.out] at hcat
    have hin : l.length ≤ 64 := h64.2
    clear h64 HW
    go_enter Try.func27, Try.ntmps27
    go_wp2_with fail
    go_at_call 46; refine (cf _).mono ?_; rintro e w1 ⟨rfl, rfl⟩
    go_wp2_with fail
    go_ret2
    exact ⟨rfl, below_new (Below.refl _ _) _⟩
def messG (e : Ev) : List UInt8 × Int := if okE e then (if fitN (evB e).length then (wrapL (evB e), 0) else ([], 11)) else ([], 2)
set_option maxHeartbeats 4000000 in
set_option maxRecDepth 20000 in
theorem message_any (e : Ev) (w : World) (hf : FitE e) (hl : okE e = true → (evB e).length ≤ 64) :
    Calls Try.prog 15 #[evV e] w fun r w' => r = .returned (.tuple #[strV (messG e).1, .int .i64 (messG e).2]) ∧ Below w.heap.size w w' := by
  have c1 := fun W => eput_any e W hf
  have c2 := fun (h : okE e = true) W => wrap_any (evB e) W (by have := hl h; omega)
  have hc : checkE e = if okE e = true then 0 else 2 := rfl
  rw [hc] at c1
  obtain ⟨a, ha⟩ : ∃ a, a = messG e := ⟨_, rfl⟩
  have HA : Hid (a = if okE e then (if fitN (evB e).length then (wrapL (evB e), 0) else ([], 11)) else ([], 2)) := ha
  rw [← ha]
  clear ha hc
  unfold strV at *
  generalize fitN (evB e).length = F at *
  generalize wrapL (evB e) = R at *
  generalize evB e = B at *
  clear hl
  cases hk : okE e
  · rw [hk] at c1
    have e1 : a = ([], 2) := by rw [HA.out, hk]; rfl
    subst e1
    simp only [Bool.false_eq_true, if_false] at c1
    clear c2 HA hk
    unfold evV evC at *
    go_enter Try.func15, Try.ntmps15
    go_wp2_with fail
    go_at_call 26; refine (c1 _).mono ?_; rintro r w1 ⟨rfl, hb1⟩
    go_wp2_with fail
    go_ret2
    exact ⟨rfl, below2 (below_new (Below.refl _ _) _) hb1⟩
  · rw [hk] at c1
    have c3 := c2 hk
    have e1 : a = if F then (R, 0) else ([], 11) := by rw [HA.out, hk]; rfl
    simp only [if_true] at c1
    clear c2 HA hk
    unfold evV evC at *
    go_enter Try.func15, Try.ntmps15
    go_wp2_with fail
    go_at_call 26; refine (c1 _).mono ?_; rintro r w1 ⟨rfl, hb1⟩
    go_wp2_with fail
    go_at_call 27; refine (c3 _).mono ?_; rintro r w2 ⟨rfl, hb2⟩
    cases F
    · simp only [Bool.false_eq_true, if_false] at e1 ⊢
      subst e1
      go_wp2_with fail
      go_ret2
      exact ⟨rfl, below2 (below2 (below_new (Below.refl _ _) _) hb1) hb2⟩
    · simp only [if_true] at e1 ⊢
      subst e1
      go_wp2_with fail
      go_ret2
      exact ⟨rfl, below2 (below2 (below_new (Below.refl _ _) _) hb1) hb2⟩
end Go.Proofs.Ytopabkkapbaibaa.Gram
namespace Go.Proofs.Ytopabkkapbaibaa.Gram
open Go.RowKit Go.Shelf
open Go.Proofs.Ytopabkkapbaibaa.Ord (HasEvs HasEvs.keep HasEvs.cell HasRow.slice)
open Go.Proofs.Ytopabkkapbaibaa.Msg (Ev evV evC okE evB checkE FitE eput_any bytes_cat cells12')
open Go.Proofs.Ytopabkkapbaibaa.Addr (hiN loN RowAt below2 below_drew below_new bset RowAt.lt RowAt.cell RowAt.frozen RowAt.below RowAt.drew RowAt.new RowAt.alloc cells2 cells4)
def streamG : List UInt8 → List Ev → List UInt8 × Int
  | acc, [] => (acc, 0)
  | acc, e :: es => if (messG e).2 = 0 then streamG (acc ++ (messG e).1) es else ([], (messG e).2)
theorem stream_step (acc : List UInt8) (es : List Ev) (k : Nat) (hk : k < es.length) : streamG acc (es.drop k) = if (messG es[k]).2 = 0 then streamG (acc ++ (messG es[k]).1) (es.drop (k + 1)) else ([], (messG es[k]).2) := by
  rw [List.drop_eq_getElem_cons hk]; rfl
theorem mess_len (e : Ev) : (messG e).1.length ≤ 67 := by
  unfold messG
  split
  · split
    · rename_i h
      have := wrap_ok _ h
      simp [wrapL]; omega
    · simp
  · simp
theorem strCells_eq (l : List UInt8) : Lib.strCells ⟨l.toArray⟩ = Lib.byteCells l := by simp [Lib.strCells, Lib.byteCells]
theorem byteCells_app (a b : List UInt8) : Lib.byteCells a ++ Lib.byteCells b = Lib.byteCells (a ++ b) := by simp [Lib.byteCells]
theorem isb_new (w : World) : Lib.IsBuilder 58 5 w.heap.size w.heap.size [] (w.alloc (.cells #[.pointer none, .slice none 0 0] 58)) :=
  .inl ⟨Nat.le_refl _, .slice none 0 0, World.alloc_heap_new w _, World.ownsRow_nil _ _ _ _, by simp [Value.ownBlock]⟩
set_option maxHeartbeats 4000000 in
set_option maxRecDepth 20000 in
theorem stream_any (es : List Ev) (v : Value) (w : World) (he : HasEvs w v es) (hf : ∀ e ∈ es, FitE e) (hl : ∀ e ∈ es, okE e = true → (evB e).length ≤ 64) (hm : es.length ≤ 2000000000000) :
    Calls Try.prog 7 #[v] w fun r w' => r = .returned (.tuple #[strV (streamG [] es).1, .int .i64 (streamG [] es).2]) ∧ Below w.heap.size w w' := by
  obtain ⟨o, c, rfl, hc1, hc2⟩ := HasRow.slice he
  have HR : Hid (∀ wr : World, Below w.heap.size w wr → HasEvs wr (.slice o es.length c) es) := fun wr hb => he.keep hb
  obtain ⟨n, hn⟩ : ∃ n, n = es.length := ⟨_, rfl⟩
  have HN : Hid (n = es.length) := hn
  have HF : Hid (∀ e ∈ es, FitE e ∧ (okE e = true → (evB e).length ≤ 64)) := fun e h => ⟨hf e h, hl e h⟩
  rw [← hn] at HR hc1 hm ⊢
  have hni : (n : Int) ≤ 9223372036854775807 := by omega
  obtain ⟨R, hR⟩ : ∃ R, R = streamG [] es := ⟨_, rfl⟩
  have HD : Hid (R = streamG [] (es.drop 0)) := hR
  rw [← hR]
  clear he hf hn hR hl
  unfold strV
  go_enter Try.func7, Try.ntmps7
  go_wp2_with fail
  go_loopw [11] (fun i wr => ∃ (k : Nat) (acc : List UInt8), k ≤ n ∧ i = .int .i64 k ∧ Hid (Lib.IsBuilder 58 5 w.heap.size w.heap.size (Lib.byteCells acc) wr) ∧ Below w.heap.size w wr ∧ Hid (R = streamG acc (es.drop k)) ∧ Hid (acc.length ≤ 67 * k)) (fun i _ => n - (intOf i).toNat)
  case atStart => exact ⟨0, [], by omega, rfl, (isb_new w : Lib.IsBuilder _ _ _ _ _ _), (Below.refl _ w).alloc (Nat.le_refl _) _, HD, by show _ ≤ _; simp⟩
  case round =>
    obtain ⟨k, acc, hk, rfl, HI, hB, HG, HL⟩ := hrel
    have hh := HR.out _ hB
    have hsz := hB.size
    by_cases hlt : k < n
    · have hkz : k < es.length := by rw [← HN.out]; exact hlt
      obtain ⟨g1, i1, rfl, hg1, a0, a1, a2, a3, a4, a5, a6, a7, a8, a9, a10, a11⟩ := HasEvs.cell hh k hkz
      have hfe := HF.out es[k] (List.getElem_mem hkz)
      have HB1 : Hid ((messG es[k]).2 = 0 → R = streamG (acc ++ (messG es[k]).1) (es.drop (k + 1))) := fun e => by rw [HG.out, stream_step acc es k hkz, if_pos e]
      have HB2 : Hid ((messG es[k]).2 ≠ 0 → R = ([], (messG es[k]).2)) := fun e => by rw [HG.out, stream_step acc es k hkz, if_neg e]
      have hml := mess_len es[k]
      have hki : (k : Int) < (n : Int) := by omega
      obtain ⟨e0, he0⟩ : ∃ e0 : Ev, e0 = es[k] := ⟨_, rfl⟩
      rw [← he0] at a0 a1 a2 a3 a4 a5 a6 a7 a8 a9 a10 a11 HB1 HB2 hfe hml
      clear he0 HG hg1
      go_upto_region 5 with fail
      obtain ⟨X, hX⟩ : ∃ X, X = wr.alloc (.cells #[.int .u8 (e0.kind : Int), .int .i64 e0.router, .int .u64 (e0.seq : Int), .int .i64 e0.time, .bool e0.pf.six, .int .u64 (hiN e0.pf.n : Int), .int .u64 (loN e0.pf.n : Int), .int .i64 e0.pf.len, .int .u8 (e0.act.k : Int), .int .i64 e0.act.i, .int .i64 e0.iface, .int .i64 e0.peer] 50) := ⟨_, rfl⟩
      have hbX : Below wr.heap.size wr X := by rw [hX]; exact below_new (Below.refl _ _) _
      have r0 : RowAt X wr.heap.size [.int .u8 (e0.kind : Int), .int .i64 e0.router, .int .u64 (e0.seq : Int), .int .i64 e0.time, .bool e0.pf.six, .int .u64 (hiN e0.pf.n : Int), .int .u64 (loN e0.pf.n : Int), .int .i64 e0.pf.len, .int .u8 (e0.act.k : Int), .int .i64 e0.act.i, .int .i64 e0.iface, .int .i64 e0.peer] 50 := by rw [hX]; exact RowAt.new _ _ _
      rw [← hX]
      have hBX := below2 hB hbX
      have cn := fun W => message_any e0 W hfe.1 hfe.2
      unfold evV evC strV at cn
      clear hX a0 a1 a2 a3 a4 a5 a6 a7 a8 a9 a10 a11 hh
      obtain ⟨gs, hgs⟩ : ∃ g, g = wr.heap.size := ⟨_, rfl⟩
      have HI1 := isb_below HI.out hbX
      rw [← hgs] at r0 ⊢
      clear hgs hbX
      obtain ⟨⟨y0, y1, y2, y3, y4, y5⟩, ⟨y6, y7, y8, y9, y10, y11⟩, yf, hly⟩ := cells12' r0
      have HI2 : Hid (Lib.IsBuilder 58 5 w.heap.size w.heap.size (Lib.byteCells acc) X) := HI1
      clear HI1 HI
      go_wp2_with fail
      go_at_call 15; refine (cn _).mono ?_; rintro e w2 ⟨rfl, hb2⟩
      have hW := below2 hBX hb2
      have hI3 := isb_below HI2.out hb2
      have HI3 : Hid (Lib.IsBuilder 58 5 w.heap.size w.heap.size (Lib.byteCells acc) w2) := hI3
      have hs2 := hW.size
      clear cn hb2 hBX y0 y1 y2 y3 y4 y5 y6 y7 y8 y9 y10 y11 yf hly r0 hfe HI2 hI3
      generalize messG e0 = M at *
      obtain ⟨fr, y⟩ := M
      simp only at HB1 HB2 hml ⊢
      have HM : Hid (fr.length ≤ 67) := hml
      clear hml
      by_cases hy : y = 0
      · subst hy
        have HB := HB1.out rfl
        have HB3 : Hid (R = streamG (acc ++ fr) (es.drop (k + 1))) := HB
        clear HB HB1 HB2
        go_wp2_with fail
        go_at_call 16
        refine (writeString_any w.heap.size w.heap.size _ ⟨fr.toArray⟩ w2 HI3.out (by rw [Lib.byteCells_length]; show _ + fr.toArray.size ≤ _; have := HL.out; have := HM.out; simp; omega) (by omega)).mono ?_
        rintro e w4 ⟨rfl, hI4, hb4⟩
        rw [strCells_eq, byteCells_app] at hI4
        have HI4 : Hid (Lib.IsBuilder 58 5 w.heap.size w.heap.size (Lib.byteCells (acc ++ fr)) w4) := hI4
        clear hI4
        go_wp2
        go_roundw
        case rel => exact ⟨k + 1, acc ++ fr, by omega, by go_num, HI4, hW.trans hb4, HB3, by show _ ≤ _; have := HL.out; have := HM.out; rw [List.length_append]; omega⟩
        case measure => simp [intOf]; omega
      · have ny : (y != 0) = true := by simpa using hy
        have HB := HB2.out hy
        clear HB1 HB2
        go_wp2_with fail
        go_ret2
        exact ⟨by rw [HB]; rfl, hW⟩
    · obtain rfl : k = n := by omega
      have HE : Hid (R = (acc, 0)) := by show _ = _; rw [HG.out, HN.out, List.drop_length]; rfl
      go_wp2_with fail
      go_at_call 17
      refine (Try.Builder_String_any w.heap.size w.heap.size _ wr HI.out hsz).mono ?_
      rintro e w5 ⟨rfl, hb5⟩
      go_wp2
      go_ret2
      exact ⟨by rw [HE.out]; rfl, hB.trans hb5⟩
end Go.Proofs.Ytopabkkapbaibaa.Gram
namespace Go.Proofs.Ytopabkkapbaibaa.Gram
open Go.Proofs.Ytopabkkapbaibaa.Msg (Ev evV evC okE evB restB restB_le okE_bd checkE FitE getE firstP rdE rdE_put zeroE ofNat_byte)

theorem get_put (e : Ev) (h : okE e = true) : getE (evB e) = (e, 0) := by
  have h1 := rdE_put e [] h
  rw [List.append_nil] at h1
  have h2 : firstP rdE okE zeroE (evB e) = (e, [], 0) := by
    unfold firstP
    rw [h1]
    simp only
    rw [if_pos h]
  unfold getE
  rw [h2]
  rfl
theorem putL_pos (n : Nat) : 1 ≤ (putL n).length := List.length_pos_iff.2 (putL_ne n)
theorem evB_len (e : Ev) (h : okE e = true) : 4 ≤ (evB e).length ∧ (evB e).length ≤ 64 := by
  have h1 := restB_le e h
  have p1 := putL_pos e.router.toNat
  have p2 := putL_pos e.seq
  have p3 := putL_pos e.time.toNat
  obtain ⟨⟨hk, hr, hs, ht⟩, _, _⟩ := okE_bd h
  have q1 := putL_le e.router.toNat (by omega)
  have q2 := putL_le e.seq (by omega)
  have q3 := putL_le e.time.toNat (by omega)
  unfold evB
  simp only [List.length_append, List.length_cons, List.length_nil]
  omega
theorem first_wrap (b t : List UInt8) (h1 : 1 ≤ b.length) (h2 : b.length ≤ 64) : firstG (wrapL b ++ t) = ((1, b), t) := by
  have h3 : (UInt8.ofNat b.length).toNat = b.length := ofNat_byte _ (by omega)
  have h4 : (0 : UInt8).toNat = 0 := rfl
  show firstG (245 :: 0 :: UInt8.ofNat b.length :: (b ++ t)) = _
  unfold firstG
  simp only [if_true]
  unfold msgG
  simp only [h3, h4, Nat.zero_mul, Nat.zero_add]
  rw [if_neg (by omega), if_neg (by rw [List.length_append]; omega), List.take_left, List.drop_left]
theorem pieces_wrap (b t : List UInt8) (h1 : 1 ≤ b.length) (h2 : b.length ≤ 64) : piecesL (wrapL b ++ t) = (1, b) :: piecesL t := by
  rw [pieces_step _ (by simp [wrapL]), first_wrap b t h1 h2]
  rfl
def wraps (es : List Ev) : List UInt8 := es.flatMap (fun e => wrapL (evB e))
theorem mess_ok (e : Ev) (h : okE e = true) : messG e = (wrapL (evB e), 0) := by
  have h2 := evB_len e h
  unfold messG
  rw [if_pos h, if_pos (by unfold fitN; exact decide_eq_true ⟨by omega, by omega⟩)]
theorem mess_no (e : Ev) (h : okE e = false) : messG e = ([], 2) := by
  unfold messG
  rw [h]
  rfl
theorem stream_ok (es : List Ev) : ∀ acc : List UInt8, (∀ e ∈ es, okE e = true) → streamG acc es = (acc ++ wraps es, 0) := by
  induction es with
  | nil => intro acc _; simp [streamG, wraps]
  | cons e es ih =>
    intro acc h
    unfold streamG
    rw [mess_ok e (h e (by simp)), if_pos rfl, ih _ (fun x hx => h x (by simp [hx]))]
    simp [wraps]
theorem stream_no (es : List Ev) : ∀ acc : List UInt8, ¬ (∀ e ∈ es, okE e = true) → streamG acc es = ([], 2) := by
  induction es with
  | nil => intro acc h; exact absurd (by simp) h
  | cons e es ih =>
    intro acc h
    unfold streamG
    cases ho : okE e with
    | false => rw [mess_no e ho]; rfl
    | true =>
      rw [mess_ok e ho, if_pos rfl]
      refine ih _ (fun h2 => h (fun x hx => ?_))
      rcases List.mem_cons.1 hx with rfl | hx
      · exact ho
      · exact h2 x hx
theorem pieces_wraps (es : List Ev) (t : List UInt8) (h : ∀ e ∈ es, okE e = true) : piecesL (wraps es ++ t) = es.map (fun e => ((1, evB e) : PcT)) ++ piecesL t := by
  induction es with
  | nil => rfl
  | cons e es ih =>
    have h2 := evB_len e (h e (by simp))
    show piecesL ((wrapL (evB e) ++ wraps es) ++ t) = _
    rw [List.append_assoc, pieces_wrap _ _ (by omega) h2.2, ih (fun x hx => h x (by simp [hx]))]
    rfl
theorem got_ev (e : Ev) (h : okE e = true) : gotG (1, evB e) = (e, 0) := by
  unfold gotG
  rw [if_neg (show ¬ ((1 : Nat) = 2) by decide), if_neg (show ¬ ((1 : Nat) = 3) by decide)]
  rw [get_put e h]
  rfl
theorem gots_wraps (es : List Ev) (t : List UInt8) (h : ∀ e ∈ es, okE e = true) : (piecesL (wraps es ++ t)).map gotG = es.map (fun e => ((e, 0) : GtT)) ++ (piecesL t).map gotG := by
  rw [pieces_wraps es t h, List.map_append, List.map_map]
  congr 1
  exact List.map_congr_left (fun e he => got_ev e (h e he))
theorem piecesF_le (f : Nat) : ∀ s : List UInt8, (piecesF f s).length ≤ f := by
  induction f with
  | zero => intro s; exact Nat.le_refl _
  | succ f ih =>
    intro s
    unfold piecesF
    split
    · exact Nat.zero_le _
    · have := ih (firstG s).2
      rw [List.length_append]
      split
      · simp only [List.length_nil]; omega
      · simp only [List.length_cons, List.length_nil]; omega
theorem pieces_le (s : List UInt8) : (piecesL s).length ≤ s.length := piecesF_le _ s
theorem wraps_len (es : List Ev) (h : ∀ e ∈ es, okE e = true) : (wraps es).length ≤ es.length * 67 := by
  induction es with
  | nil => simp [wraps]
  | cons e es ih =>
    have h2 := evB_len e (h e (by simp))
    have h3 := ih (fun x hx => h x (by simp [hx]))
    show (wrapL (evB e) ++ wraps es).length ≤ _
    rw [List.length_append, List.length_cons]
    have : (wrapL (evB e)).length = 3 + (evB e).length := by simp [wrapL]; omega
    omega
theorem noM_noise (s t : List UInt8) (h : ∀ b ∈ s, b ≠ 245) (ht : t = [] ∨ ∃ r, t = 245 :: r) : noM (s ++ t) = t := by
  induction s with
  | nil =>
    rcases ht with rfl | ⟨r, rfl⟩
    · rfl
    · unfold noM; simp
  | cons b s ih =>
    have hb := h b (by simp)
    have h2 := ih (fun x hx => h x (by simp [hx]))
    unfold noM at h2 ⊢
    rw [List.cons_append, List.dropWhile_cons_of_pos (by simpa using hb)]
    exact h2
theorem pieces_noise (s t : List UInt8) (hn : s ≠ []) (h : ∀ b ∈ s, b ≠ 245) (ht : t = [] ∨ ∃ r, t = 245 :: r) : piecesL (s ++ t) = (2, []) :: piecesL t := by
  obtain ⟨b, s, rfl⟩ := List.exists_cons_of_ne_nil hn
  have hb := h b (by simp)
  rw [pieces_step _ (by simp)]
  have h1 : firstG (b :: s ++ t) = ((2, []), t) := by
    show firstG (b :: (s ++ t)) = _
    unfold firstG
    simp only
    rw [if_neg hb, noM_noise s t (fun x hx => h x (by simp [hx])) ht]
  rw [h1]
  rfl
theorem wraps_head (es : List Ev) : wraps es = [] ∨ ∃ r, wraps es = 245 :: r := by
  cases es with
  | nil => exact .inl rfl
  | cons e es => exact .inr ⟨0 :: UInt8.ofNat (evB e).length :: (evB e ++ wraps es), by simp [wraps, wrapL]⟩
theorem got_bad : gotG (2, []) = (zeroE, 7) := rfl
end Go.Proofs.Ytopabkkapbaibaa.Gram
namespace Go.Proofs.Ytopabkkapbaibaa.Gram
open Go.RowKit Go.Shelf
open Go.Proofs.Ytopabkkapbaibaa.Ord (HasRow hasRow_nil hasRow_own HasRow.keep HasRow.slice HasRow.at)
open Go.Proofs.Ytopabkkapbaibaa.Msg (Ev evV evC getE zeroE zeroC)
open Go.Proofs.Ytopabkkapbaibaa.Addr (hiN loN RowAt below2 below_drew below_new RowAt.lt RowAt.cell RowAt.frozen RowAt.below RowAt.drew RowAt.new RowAt.alloc)
attribute [-go_sem] Builtin.append_

def HasPcs (W : World) (v : Value) (l : List PcT) : Prop := HasRow W v 2 l.length (pcCs l)
def HasGts (W : World) (v : Value) (l : List GtT) : Prop := HasRow W v 13 l.length (gtCs l)
theorem HasPcs.keep {W W' : World} {v : Value} {l : List PcT} (h : HasPcs W v l) (hb : Below W.heap.size W W') : HasPcs W' v l := HasRow.keep h hb
theorem HasGts.keep {W W' : World} {v : Value} {l : List GtT} (h : HasGts W v l) (hb : Below W.heap.size W W') : HasGts W' v l := HasRow.keep h hb
theorem pcCs_len (l : List PcT) : (pcCs l).length = l.length * 2 := by
  induction l with
  | nil => rfl
  | cons s l ih =>
    show (pcC s ++ pcCs l).length = _
    rw [List.length_append, ih, List.length_cons]
    show 2 + _ = _
    omega
theorem gtCs_len (l : List GtT) : (gtCs l).length = l.length * 13 := by
  induction l with
  | nil => rfl
  | cons s l ih =>
    show (gtC s ++ gtCs l).length = _
    rw [List.length_append, ih, List.length_cons]
    show 13 + _ = _
    omega
theorem pcCs_at (ps : List PcT) : ∀ j (h : j < ps.length), (pcCs ps)[2 * j]? = some (.int .u8 (ps[j].1 : Int)) ∧ (pcCs ps)[2 * j + 1]? = some (strV ps[j].2) := by
  induction ps with
  | nil => intro j h; simp at h
  | cons p ps ih =>
    intro j h
    cases j with
    | zero => exact ⟨rfl, rfl⟩
    | succ j =>
      have := ih j (by simpa using h)
      rw [show pcCs (p :: ps) = .int .u8 (p.1 : Int) :: strV p.2 :: pcCs ps from rfl, show 2 * (j + 1) = 2 * j + 1 + 1 by omega]
      simp only [List.getElem?_cons_succ, List.getElem_cons_succ]
      exact this
theorem HasPcs.cell {W : World} {o : Option Addr} {m cap : Nat} {ps : List PcT} (h : HasPcs W (.slice o m cap) ps) (j : Nat) (hj : j < ps.length) : ∃ b i, o = some ⟨b, i, none⟩ ∧ b < W.heap.size ∧ W.cell? ⟨b, i + j * 2, none⟩ = some (.int .u8 (ps[j].1 : Int)) ∧ W.cell? ⟨b, i + j * 2 + 1, none⟩ = some (strV ps[j].2) := by
  obtain ⟨_, b, i, e, hb, hc⟩ := HasRow.at h (by omega)
  have h2 := pcCs_at ps j hj
  exact ⟨b, i, e, hb, by rw [hc (j * 2) (by omega), Nat.mul_comm]; exact h2.1, by rw [Nat.add_assoc, hc (j * 2 + 1) (by omega), Nat.mul_comm]; exact h2.2⟩
theorem gtCs_at (l : List GtT) : ∀ j (h : j < l.length), (gtCs l)[13 * j]? = some (.int .u8 (l[j].1.kind : Int)) ∧ (gtCs l)[13 * j + 1]? = some (.int .i64 l[j].1.router) ∧ (gtCs l)[13 * j + 2]? = some (.int .u64 (l[j].1.seq : Int)) ∧ (gtCs l)[13 * j + 3]? = some (.int .i64 l[j].1.time) ∧ (gtCs l)[13 * j + 4]? = some (.bool l[j].1.pf.six) ∧ (gtCs l)[13 * j + 5]? = some (.int .u64 (hiN l[j].1.pf.n : Int)) ∧ (gtCs l)[13 * j + 6]? = some (.int .u64 (loN l[j].1.pf.n : Int)) ∧ (gtCs l)[13 * j + 7]? = some (.int .i64 l[j].1.pf.len) ∧ (gtCs l)[13 * j + 8]? = some (.int .u8 (l[j].1.act.k : Int)) ∧ (gtCs l)[13 * j + 9]? = some (.int .i64 l[j].1.act.i) ∧ (gtCs l)[13 * j + 10]? = some (.int .i64 l[j].1.iface) ∧ (gtCs l)[13 * j + 11]? = some (.int .i64 l[j].1.peer) ∧ (gtCs l)[13 * j + 12]? = some (.int .i64 l[j].2) := by
  induction l with
  | nil => intro j h; simp at h
  | cons p ps ih =>
    intro j h
    cases j with
    | zero => exact ⟨rfl, rfl, rfl, rfl, rfl, rfl, rfl, rfl, rfl, rfl, rfl, rfl, rfl⟩
    | succ j =>
      have := ih j (by simpa using h)
      rw [show gtCs (p :: ps) = .int .u8 (p.1.kind : Int) :: .int .i64 p.1.router :: .int .u64 (p.1.seq : Int) :: .int .i64 p.1.time :: .bool p.1.pf.six :: .int .u64 (hiN p.1.pf.n : Int) :: .int .u64 (loN p.1.pf.n : Int) :: .int .i64 p.1.pf.len :: .int .u8 (p.1.act.k : Int) :: .int .i64 p.1.act.i :: .int .i64 p.1.iface :: .int .i64 p.1.peer :: .int .i64 p.2 :: gtCs ps from rfl, show 13 * (j + 1) = 13 * j + 1 + 1 + 1 + 1 + 1 + 1 + 1 + 1 + 1 + 1 + 1 + 1 + 1 by omega]
      simp only [List.getElem?_cons_succ, List.getElem_cons_succ]
      exact this
theorem HasGts.cell {W : World} {o : Option Addr} {m cap : Nat} {l : List GtT} (h : HasGts W (.slice o m cap) l) (j : Nat) (hj : j < l.length) : ∃ b i, o = some ⟨b, i, none⟩ ∧ b < W.heap.size ∧ W.cell? ⟨b, i + j * 13, none⟩ = some (.int .u8 (l[j].1.kind : Int)) ∧ W.cell? ⟨b, i + j * 13 + 1, none⟩ = some (.int .i64 l[j].1.router) ∧ W.cell? ⟨b, i + j * 13 + 2, none⟩ = some (.int .u64 (l[j].1.seq : Int)) ∧ W.cell? ⟨b, i + j * 13 + 3, none⟩ = some (.int .i64 l[j].1.time) ∧ W.cell? ⟨b, i + j * 13 + 4, none⟩ = some (.bool l[j].1.pf.six) ∧ W.cell? ⟨b, i + j * 13 + 5, none⟩ = some (.int .u64 (hiN l[j].1.pf.n : Int)) ∧ W.cell? ⟨b, i + j * 13 + 6, none⟩ = some (.int .u64 (loN l[j].1.pf.n : Int)) ∧ W.cell? ⟨b, i + j * 13 + 7, none⟩ = some (.int .i64 l[j].1.pf.len) ∧ W.cell? ⟨b, i + j * 13 + 8, none⟩ = some (.int .u8 (l[j].1.act.k : Int)) ∧ W.cell? ⟨b, i + j * 13 + 9, none⟩ = some (.int .i64 l[j].1.act.i) ∧ W.cell? ⟨b, i + j * 13 + 10, none⟩ = some (.int .i64 l[j].1.iface) ∧ W.cell? ⟨b, i + j * 13 + 11, none⟩ = some (.int .i64 l[j].1.peer) ∧ W.cell? ⟨b, i + j * 13 + 12, none⟩ = some (.int .i64 l[j].2) := by
  obtain ⟨_, b, i, e, hb, hc⟩ := HasRow.at h (by omega)
  obtain ⟨h0, h1, h2, h3, h4, h5, h6, h7, h8, h9, h10, h11, h12⟩ := gtCs_at l j hj
  refine ⟨b, i, e, hb, ?_, ?_, ?_, ?_, ?_, ?_, ?_, ?_, ?_, ?_, ?_, ?_, ?_⟩
  · rw [hc (j * 13) (by omega), Nat.mul_comm]; exact h0
  · rw [Nat.add_assoc, hc (j * 13 + 1) (by omega), Nat.mul_comm]; exact h1
  · rw [Nat.add_assoc, hc (j * 13 + 2) (by omega), Nat.mul_comm]; exact h2
  · rw [Nat.add_assoc, hc (j * 13 + 3) (by omega), Nat.mul_comm]; exact h3
  · rw [Nat.add_assoc, hc (j * 13 + 4) (by omega), Nat.mul_comm]; exact h4
  · rw [Nat.add_assoc, hc (j * 13 + 5) (by omega), Nat.mul_comm]; exact h5
  · rw [Nat.add_assoc, hc (j * 13 + 6) (by omega), Nat.mul_comm]; exact h6
  · rw [Nat.add_assoc, hc (j * 13 + 7) (by omega), Nat.mul_comm]; exact h7
  · rw [Nat.add_assoc, hc (j * 13 + 8) (by omega), Nat.mul_comm]; exact h8
  · rw [Nat.add_assoc, hc (j * 13 + 9) (by omega), Nat.mul_comm]; exact h9
  · rw [Nat.add_assoc, hc (j * 13 + 10) (by omega), Nat.mul_comm]; exact h10
  · rw [Nat.add_assoc, hc (j * 13 + 11) (by omega), Nat.mul_comm]; exact h11
  · rw [Nat.add_assoc, hc (j * 13 + 12) (by omega), Nat.mul_comm]; exact h12
theorem pc_neq (k : Int) (B : ByteArray) (w : World) : (binOp .neq 70 (.agg #[.int .u8 k, .string B]) (.agg #[.int .u8 k, .string B])).run Try.prog w = .ok (.bool false) w := by
  have u0 := Try.underlying68
  have a0 := Try.isAgg68
  have z0 := Try.sizeOf68
  have u1 := Try.underlying9
  have a1 := Try.isAgg9
  have z1 := Try.sizeOf9
  have hS : Try.prog.underlying 70 = some (.struct (Try.prog.fieldsOf 70)) := by kernel_rfl
  have hp : Try.prog.stoodInHeld 70 = false := by kernel_rfl
  rw [run_neq_struct, show (10000 : Nat) = 9999 + 1 from rfl, run_equalIn_agg w 9999 70 _ _ hS hp]
  simp only [Program.fieldsOf, Try.underlying70]
  go_simp
theorem pc_guard : Try.prog.eqGuardType Try.prog.depth 70 = false := by kernel_rfl
theorem ad_inS (x y : Int) (w : World) (f : Nat) : (Op.equalIn (f + 2) 43 (.agg #[.int .u64 x, .int .u64 y]) (.agg #[.int .u64 x, .int .u64 y])).run Try.prog w = .ok true w := by
  have u0 := Try.underlying41
  have a0 := Try.isAgg41
  have z0 := Try.sizeOf41

  have hS : Try.prog.underlying 43 = some (.struct (Try.prog.fieldsOf 43)) := by kernel_rfl
  have hp : Try.prog.stoodInHeld 43 = false := by kernel_rfl

  rw [show f + 2 = (f + 1) + 1 from rfl, run_equalIn_agg w (f + 1) 43 _ _ hS hp]
  simp only [Program.fieldsOf, Try.underlying43]
  go_simp
theorem ac_inS (x y : Int) (w : World) (f : Nat) : (Op.equalIn (f + 2) 48 (.agg #[.int .u8 x, .int .i64 y]) (.agg #[.int .u8 x, .int .i64 y])).run Try.prog w = .ok true w := by
  have u0 := Try.underlying46
  have a0 := Try.isAgg46
  have z0 := Try.sizeOf46
  have u1 := Try.underlying3
  have a1 := Try.isAgg3
  have z1 := Try.sizeOf3

  have hS : Try.prog.underlying 48 = some (.struct (Try.prog.fieldsOf 48)) := by kernel_rfl
  have hp : Try.prog.stoodInHeld 48 = false := by kernel_rfl

  rw [show f + 2 = (f + 1) + 1 from rfl, run_equalIn_agg w (f + 1) 48 _ _ hS hp]
  simp only [Program.fieldsOf, Try.underlying48]
  go_simp
theorem pf_inS (s : Bool) (x y z : Int) (w : World) (f : Nat) : (Op.equalIn (f + 3) 45 (.agg #[.bool s, .int .u64 x, .int .u64 y, .int .i64 z]) (.agg #[.bool s, .int .u64 x, .int .u64 y, .int .i64 z])).run Try.prog w = .ok true w := by
  have u0 := Try.underlying4
  have a0 := Try.isAgg4
  have z0 := Try.sizeOf4
  have u1 := Try.underlying3
  have a1 := Try.isAgg3
  have z1 := Try.sizeOf3
  have b0 := Try.isAgg43
  have y0 := Try.sizeOf43
  have hS : Try.prog.underlying 45 = some (.struct (Try.prog.fieldsOf 45)) := by kernel_rfl
  have hp : Try.prog.stoodInHeld 45 = false := by kernel_rfl
  have h0 := fun w => ad_inS x y w f
  rw [show f + 3 = (f + 2) + 1 from rfl, run_equalIn_agg w (f + 2) 45 _ _ hS hp]
  simp only [Program.fieldsOf, Try.underlying45]
  go_simp
set_option maxHeartbeats 1000000 in
theorem ev_inS (x0 : Int) (x1 : Int) (x2 : Int) (x3 : Int) (x4 : Bool) (x5 : Int) (x6 : Int) (x7 : Int) (x8 : Int) (x9 : Int) (x10 : Int) (x11 : Int) (w : World) (f : Nat) : (Op.equalIn (f + 4) 50 (.agg #[.int .u8 x0, .int .i64 x1, .int .u64 x2, .int .i64 x3, .bool x4, .int .u64 x5, .int .u64 x6, .int .i64 x7, .int .u8 x8, .int .i64 x9, .int .i64 x10, .int .i64 x11]) (.agg #[.int .u8 x0, .int .i64 x1, .int .u64 x2, .int .i64 x3, .bool x4, .int .u64 x5, .int .u64 x6, .int .i64 x7, .int .u8 x8, .int .i64 x9, .int .i64 x10, .int .i64 x11])).run Try.prog w = .ok true w := by
  have u0 := Try.underlying40
  have a0 := Try.isAgg40
  have z0 := Try.sizeOf40
  have u1 := Try.underlying3
  have a1 := Try.isAgg3
  have z1 := Try.sizeOf3
  have u2 := Try.underlying41
  have a2 := Try.isAgg41
  have z2 := Try.sizeOf41
  have u3 := Try.underlying2
  have a3 := Try.isAgg2
  have z3 := Try.sizeOf2
  have b0 := Try.isAgg45
  have y0 := Try.sizeOf45
  have b1 := Try.isAgg48
  have y1 := Try.sizeOf48
  have hS : Try.prog.underlying 50 = some (.struct (Try.prog.fieldsOf 50)) := by kernel_rfl
  have hp : Try.prog.stoodInHeld 50 = false := by kernel_rfl
  have h0 := fun w => pf_inS x4 x5 x6 x7 w f
  have h1 := fun w => ac_inS x8 x9 w (f + 1)
  rw [show f + 4 = (f + 3) + 1 from rfl, run_equalIn_agg w (f + 3) 50 _ _ hS hp]
  simp only [Program.fieldsOf, Try.underlying50]
  go_simp
theorem gt_inS (x0 : Int) (x1 : Int) (x2 : Int) (x3 : Int) (x4 : Bool) (x5 : Int) (x6 : Int) (x7 : Int) (x8 : Int) (x9 : Int) (x10 : Int) (x11 : Int) (x12 : Int) (w : World) (f : Nat) : (Op.equalIn (f + 5) 52 (.agg #[.int .u8 x0, .int .i64 x1, .int .u64 x2, .int .i64 x3, .bool x4, .int .u64 x5, .int .u64 x6, .int .i64 x7, .int .u8 x8, .int .i64 x9, .int .i64 x10, .int .i64 x11, .int .i64 x12]) (.agg #[.int .u8 x0, .int .i64 x1, .int .u64 x2, .int .i64 x3, .bool x4, .int .u64 x5, .int .u64 x6, .int .i64 x7, .int .u8 x8, .int .i64 x9, .int .i64 x10, .int .i64 x11, .int .i64 x12])).run Try.prog w = .ok true w := by
  have u0 := Try.underlying23
  have a0 := Try.isAgg23
  have z0 := Try.sizeOf23
  have b0 := Try.isAgg50
  have y0 := Try.sizeOf50
  have hS : Try.prog.underlying 52 = some (.struct (Try.prog.fieldsOf 52)) := by kernel_rfl
  have hp : Try.prog.stoodInHeld 52 = false := by kernel_rfl
  have h0 := fun w => ev_inS x0 x1 x2 x3 x4 x5 x6 x7 x8 x9 x10 x11 w f
  rw [show f + 5 = (f + 4) + 1 from rfl, run_equalIn_agg w (f + 4) 52 _ _ hS hp]
  simp only [Program.fieldsOf, Try.underlying52]
  go_simp
theorem gt_neq (x0 : Int) (x1 : Int) (x2 : Int) (x3 : Int) (x4 : Bool) (x5 : Int) (x6 : Int) (x7 : Int) (x8 : Int) (x9 : Int) (x10 : Int) (x11 : Int) (x12 : Int) (w : World) : (binOp .neq 52 (.agg #[.int .u8 x0, .int .i64 x1, .int .u64 x2, .int .i64 x3, .bool x4, .int .u64 x5, .int .u64 x6, .int .i64 x7, .int .u8 x8, .int .i64 x9, .int .i64 x10, .int .i64 x11, .int .i64 x12]) (.agg #[.int .u8 x0, .int .i64 x1, .int .u64 x2, .int .i64 x3, .bool x4, .int .u64 x5, .int .u64 x6, .int .i64 x7, .int .u8 x8, .int .i64 x9, .int .i64 x10, .int .i64 x11, .int .i64 x12])).run Try.prog w = .ok (.bool false) w := by
  rw [run_neq_struct]
  have h := gt_inS x0 x1 x2 x3 x4 x5 x6 x7 x8 x9 x10 x11 x12 w 9995
  rw [show (9995 + 5 : Nat) = 10000 from rfl] at h
  rw [h]
  rfl
theorem gt_eql (x0 : Int) (x1 : Int) (x2 : Int) (x3 : Int) (x4 : Bool) (x5 : Int) (x6 : Int) (x7 : Int) (x8 : Int) (x9 : Int) (x10 : Int) (x11 : Int) (x12 : Int) (w : World) : (binOp .eql 52 (.agg #[.int .u8 x0, .int .i64 x1, .int .u64 x2, .int .i64 x3, .bool x4, .int .u64 x5, .int .u64 x6, .int .i64 x7, .int .u8 x8, .int .i64 x9, .int .i64 x10, .int .i64 x11, .int .i64 x12]) (.agg #[.int .u8 x0, .int .i64 x1, .int .u64 x2, .int .i64 x3, .bool x4, .int .u64 x5, .int .u64 x6, .int .i64 x7, .int .u8 x8, .int .i64 x9, .int .i64 x10, .int .i64 x11, .int .i64 x12])).run Try.prog w = .ok (.bool true) w := by
  rw [run_eql_struct]
  have h := gt_inS x0 x1 x2 x3 x4 x5 x6 x7 x8 x9 x10 x11 x12 w 9995
  rw [show (9995 + 5 : Nat) = 10000 from rfl] at h
  rw [h]
  rfl
theorem gt_guard : Try.prog.eqGuardType Try.prog.depth 52 = false := by kernel_rfl
theorem below_drewN {B : Nat} {w0 w : World} (h : Below B w0 w) (n : Nat) : Below B w0 (w.drewN n) := h.trans ⟨rfl, rfl, rfl, Nat.le_refl _, fun _ _ => rfl⟩
set_option maxHeartbeats 2000000 in
set_option maxRecDepth 20000 in
theorem same12_any (l : List PcT) (v u : Value) (w : World) (h1 : HasPcs w v l) (h2 : HasPcs w u l) :
    Calls Try.prog 11 #[v, u] w fun e w' => e = .returned (.bool true) ∧ Below w.heap.size w w' := by
  obtain ⟨o1, c1, rfl, hq1, hq2⟩ := HasRow.slice h1
  obtain ⟨o2, c2, rfl, _, _⟩ := HasRow.slice h2
  have HR : Hid (∀ wr : World, Below w.heap.size w wr → HasPcs wr (.slice o1 l.length c1) l ∧ HasPcs wr (.slice o2 l.length c2) l) := fun wr hb => ⟨h1.keep hb, h2.keep hb⟩
  obtain ⟨n, hn⟩ : ∃ n, n = l.length := ⟨_, rfl⟩
  have HN : Hid (n = l.length) := hn
  rw [← hn] at HR hq1 ⊢
  have hni : (n : Int) ≤ 9223372036854775807 := by omega
  have hneq := pc_neq
  have hgd := pc_guard
  have hnn : ((n : Int) != (n : Int)) = false := by simp
  clear h1 h2 hn hq1 hq2
  go_enter Try.func11, Try.ntmps11
  go_wp2_with fail
  go_loopw [13] (fun i wr => ∃ k : Nat, k ≤ n ∧ i = .int .i64 k ∧ Below w.heap.size w wr) (fun i _ => n - (intOf i).toNat)
  case atStart => exact ⟨0, by omega, rfl, Below.refl _ _⟩
  case round =>
    obtain ⟨k, hk, rfl, hB⟩ := hrel
    obtain ⟨ha, hb⟩ := HR.out _ hB
    by_cases hlt : k < n
    · have hkz : k < l.length := by rw [← HN.out]; exact hlt
      obtain ⟨g1, i1, rfl, _, a1, a2⟩ := HasPcs.cell ha k hkz
      obtain ⟨g2, i2, rfl, _, b1, b2⟩ := HasPcs.cell hb k hkz
      unfold strV at a2 b2
      generalize (⟨(l[k]).2.toArray⟩ : ByteArray) = Z at a2 b2
      generalize (((l[k]).1 : Nat) : Int) = pa at a1 b1
      have hki : (k : Int) < (n : Int) := by omega
      clear ha hb
      go_wp2_with fail
      go_quiet (fail)
      go_wp2_with fail
      go_roundw
      case rel => exact ⟨k + 1, by omega, by go_num, by first | exact hB | exact below_drew hB | exact below_drewN hB _⟩
      case measure => simp [intOf]; omega
    · clear ha hb
      go_wp2
      go_ret
      exact ⟨rfl, hB⟩
set_option maxHeartbeats 2000000 in
set_option maxRecDepth 20000 in
theorem same13_any (l : List GtT) (v u : Value) (w : World) (h1 : HasGts w v l) (h2 : HasGts w u l) :
    Calls Try.prog 14 #[v, u] w fun e w' => e = .returned (.bool true) ∧ Below w.heap.size w w' := by
  obtain ⟨o1, c1, rfl, hq1, hq2⟩ := HasRow.slice h1
  obtain ⟨o2, c2, rfl, _, _⟩ := HasRow.slice h2
  have HR : Hid (∀ wr : World, Below w.heap.size w wr → HasGts wr (.slice o1 l.length c1) l ∧ HasGts wr (.slice o2 l.length c2) l) := fun wr hb => ⟨h1.keep hb, h2.keep hb⟩
  obtain ⟨n, hn⟩ : ∃ n, n = l.length := ⟨_, rfl⟩
  have HN : Hid (n = l.length) := hn
  rw [← hn] at HR hq1 ⊢
  have hni : (n : Int) ≤ 9223372036854775807 := by omega
  have hneq := gt_neq
  have hgd := gt_guard
  have hnn : ((n : Int) != (n : Int)) = false := by simp
  clear h1 h2 hn hq1 hq2
  go_enter Try.func14, Try.ntmps14
  go_wp2_with fail
  go_loopw [13] (fun i wr => ∃ k : Nat, k ≤ n ∧ i = .int .i64 k ∧ Below w.heap.size w wr) (fun i _ => n - (intOf i).toNat)
  case atStart => exact ⟨0, by omega, rfl, Below.refl _ _⟩
  case round =>
    obtain ⟨k, hk, rfl, hB⟩ := hrel
    obtain ⟨ha, hb⟩ := HR.out _ hB
    by_cases hlt : k < n
    · have hkz : k < l.length := by rw [← HN.out]; exact hlt
      obtain ⟨g1, i1, rfl, _, a0, a1, a2, a3, a4, a5, a6, a7, a8, a9, a10, a11, a12⟩ := HasGts.cell ha k hkz
      obtain ⟨g2, i2, rfl, _, b0, b1, b2, b3, b4, b5, b6, b7, b8, b9, b10, b11, b12⟩ := HasGts.cell hb k hkz
      generalize (((l[k]).1.kind : Nat) : Int) = p0 at a0 b0
      generalize (l[k]).1.router = p1 at a1 b1
      generalize (((l[k]).1.seq : Nat) : Int) = p2 at a2 b2
      generalize (l[k]).1.time = p3 at a3 b3
      generalize (l[k]).1.pf.six = p4 at a4 b4
      generalize ((hiN (l[k]).1.pf.n : Nat) : Int) = p5 at a5 b5
      generalize ((loN (l[k]).1.pf.n : Nat) : Int) = p6 at a6 b6
      generalize (l[k]).1.pf.len = p7 at a7 b7
      generalize (((l[k]).1.act.k : Nat) : Int) = p8 at a8 b8
      generalize (l[k]).1.act.i = p9 at a9 b9
      generalize (l[k]).1.iface = p10 at a10 b10
      generalize (l[k]).1.peer = p11 at a11 b11
      generalize (l[k]).2 = p12 at a12 b12
      have hki : (k : Int) < (n : Int) := by omega
      clear ha hb
      go_wp2_with fail
      go_quiet (fail)
      go_wp2_with fail
      go_roundw
      case rel => exact ⟨k + 1, by omega, by go_num, by first | exact hB | exact below_drew hB | exact below_drewN hB _⟩
      case measure => simp [intOf]; omega
    · clear ha hb
      go_wp2
      go_ret
      exact ⟨rfl, hB⟩
theorem pcs_lit (W : World) (ps : List PcT) (n : Nat) (hn : n = ps.length) (hm : n ≤ 1000) (cs : Array Value) (hc : cs = (pcCs ps).toArray) : HasPcs (W.alloc (.cells cs 70)) (.slice (some ⟨W.heap.size, 0, none⟩) n n) ps := by
  subst hn hc
  refine ⟨pcCs_len ps, .inr ⟨⟨W.heap.size, 0, none⟩, ps.length, rfl, Nat.le_refl _, by omega, fun _ => ⟨rfl, by simp⟩, fun j hj => ?_⟩⟩
  rw [Ord.addr_add, Nat.zero_add]
  exact (RowAt.new W (pcCs ps) 70).cell j
theorem gts_lit (W : World) (ps : List GtT) (n : Nat) (hn : n = ps.length) (hm : n ≤ 1000) (cs : Array Value) (hc : cs = (gtCs ps).toArray) : HasGts (W.alloc (.cells cs 52)) (.slice (some ⟨W.heap.size, 0, none⟩) n n) ps := by
  subst hn hc
  refine ⟨gtCs_len ps, .inr ⟨⟨W.heap.size, 0, none⟩, ps.length, rfl, Nat.le_refl _, by omega, fun _ => ⟨rfl, by simp⟩, fun j hj => ?_⟩⟩
  rw [Ord.addr_add, Nat.zero_add]
  exact (RowAt.new W (gtCs ps) 52).cell j
end Go.Proofs.Ytopabkkapbaibaa.Gram
namespace Go.Proofs.Ytopabkkapbaibaa.Gram
open Go.RowKit Go.Shelf
open Go.Proofs.Ytopabkkapbaibaa.Ord (HasRow hasRow_nil hasRow_own HasRow.keep HasRow.slice HasRow.at)
open Go.Proofs.Ytopabkkapbaibaa.Msg (Ev evV evC getE zeroE zeroC)
open Go.Proofs.Ytopabkkapbaibaa.Addr (hiN loN RowAt below2 below_drew below_new)
theorem row_part {W : World} {b i n cap sz : Nat} {cs : List Value} (h : HasRow W (.slice (some ⟨b, i, none⟩) n cap) sz n cs) (j k : Nat) (hj : j + k ≤ n) (cap' : Nat) (hc : k ≤ cap') (hc2 : cap' ≤ 9223372036854775807) :
    HasRow W (.slice (some ⟨b, i + j * sz, none⟩) k cap') sz k ((cs.drop (j * sz)).take (k * sz)) := by
  have hm : (j + k) * sz ≤ n * sz := Nat.mul_le_mul_right sz hj
  rw [Nat.add_mul] at hm
  refine ⟨by rw [List.length_take, List.length_drop, h.1]; omega, .inr ⟨⟨b, i + j * sz, none⟩, cap', rfl, hc, hc2, fun h0 => ⟨rfl, ?_⟩, fun x hx => ?_⟩⟩
  · obtain ⟨_, b', i', e, hb, _⟩ := HasRow.at h (by omega)
    injection e with e; injection e with e1 e2; subst e1
    exact hb
  · have hn : 0 < n := by
      rcases Nat.eq_zero_or_pos n with h0 | h0
      · subst h0
        have : k = 0 := by omega
        subst this
        omega
      · exact h0
    obtain ⟨_, b', i', e, hb, hcell⟩ := HasRow.at h hn
    injection e with e; injection e with e1 e2; subst e1 e2
    rw [Ord.addr_add, Nat.add_assoc, hcell (j * sz + x) (by omega), List.getElem?_take_of_lt hx, List.getElem?_drop]
theorem gtCs_drop (l : List GtT) : ∀ j, (gtCs l).drop (j * 13) = gtCs (l.drop j) := by
  induction l with
  | nil => intro j; simp [gtCs]
  | cons g l ih =>
    intro j
    cases j with
    | zero => rfl
    | succ j =>
      show (gtC g ++ gtCs l).drop ((j + 1) * 13) = gtCs (l.drop j)
      rw [← ih j, show (j + 1) * 13 = (gtC g).length + j * 13 by show _ = 13 + _; omega, List.drop_append]
      simp
theorem gtCs_take (l : List GtT) : ∀ j, (gtCs l).take (j * 13) = gtCs (l.take j) := by
  induction l with
  | nil => intro j; simp [gtCs]
  | cons g l ih =>
    intro j
    cases j with
    | zero => simp [gtCs]
    | succ j =>
      show (gtC g ++ gtCs l).take ((j + 1) * 13) = gtC g ++ gtCs (l.take j)
      rw [← ih j, show (j + 1) * 13 = (gtC g).length + j * 13 by show _ = 13 + _; omega, List.take_length_add_append]
/-- a part of a row of what pieces come to -/
theorem gts_part {W : World} {b i n cap : Nat} {l : List GtT} (h : HasGts W (.slice (some ⟨b, i, none⟩) n cap) l) (j k : Nat) (hn : n = l.length) (hj : j + k ≤ n) (cap' : Nat) (hc : k ≤ cap') (hc2 : cap' ≤ 9223372036854775807) :
    HasGts W (.slice (some ⟨b, i + j * 13, none⟩) k cap') ((l.drop j).take k) := by
  subst hn
  have := row_part h j k hj cap' hc hc2
  rw [gtCs_drop, gtCs_take] at this
  have e : ((l.drop j).take k).length = k := by rw [List.length_take, List.length_drop]; omega
  unfold HasGts
  rw [e]
  exact this
/-- where a row lies that a call made -/
def Lies (W : World) (V : Value) (n : Nat) : Prop := (V = .slice none 0 0 ∧ n = 0) ∨ ∃ g cap, V = .slice (some ⟨g, 0, none⟩) n cap ∧ n ≤ cap ∧ cap ≤ 9223372036854775807 ∧ W.heap.size ≤ g
theorem lies_own {W W' : World} {e sz n : Nat} {v : Value} {cs : List Value} (h : W'.ownsRow W.heap.size e sz v n cs) : Lies W v n := by
  rcases h.2 with h0 | ⟨g, cap, cur, rfl, hg, hgb, hnc, hcm, rest⟩
  · exact .inl h0
  · exact .inr ⟨g, cap, rfl, hnc, by unfold maxLen at hcm; exact hcm, hg⟩
theorem gotsR_any (l : List UInt8) (w : World) (hl : l.length ≤ 281474976710656) (hm : (piecesL l).length ≤ 1000000000000) :
    Calls Try.prog 13 #[.string ⟨l.toArray⟩] w fun e w' => ∃ v, e = .returned v ∧ HasGts w' v ((piecesL l).map gotG) ∧ Lies w v ((piecesL l).map gotG).length ∧ Below w.heap.size w w' := by
  refine (gots_any l w hl hm).mono ?_
  rintro e w' ⟨v, h1, h2, h3⟩
  refine ⟨v, h1, ?_, ?_, h3⟩
  · unfold HasGts; rw [List.length_map]; exact hasRow_own h2
  · rw [List.length_map]; exact lies_own h2
theorem piecesR_any (l : List UInt8) (w : World) (hl : l.length ≤ 281474976710656) (hm : (piecesL l).length ≤ 4398046511104) :
    Calls Try.prog 12 #[.string ⟨l.toArray⟩] w fun e w' => ∃ v, e = .returned v ∧ HasPcs w' v (piecesL l) ∧ Lies w v (piecesL l).length ∧ Below w.heap.size w w' := by
  refine (pieces_any l w hl hm).mono ?_
  rintro e w' ⟨v, h1, h2, h3⟩
  exact ⟨v, h1, hasRow_own h2, lies_own h2, h3⟩
end Go.Proofs.Ytopabkkapbaibaa.Gram
namespace Go.Proofs.Ytopabkkapbaibaa.Gram
open Go.RowKit Go.Shelf
open Go.Proofs.Ytopabkkapbaibaa.Ord (HasRow hasRow_nil hasRow_own HasEvs evCs evCs_len)
open Go.Proofs.Ytopabkkapbaibaa.Msg (Ev okE evB checkE evV evC FitE cells12' gkeep gsetO set1 results_cell_tmp1 zeroPf zeroA zeroE evV_zero evV_z)
open Go.Proofs.Ytopabkkapbaibaa.Addr (hiN loN RowAt below2 below_drew below_new bset RowAt.lt RowAt.cell RowAt.frozen RowAt.below RowAt.drew RowAt.new RowAt.alloc gdrew gset gbelow galloc grefl gfinal cells2 cells4 results_cell)
attribute [-go_sem] Builtin.append_

def upE : Ev := ⟨1, 1, 1, 5, zeroPf, zeroA, 0, 0⟩
theorem fit_up : FitE upE := ⟨by decide, by decide, by decide, by decide, by decide, by decide, ⟨by decide, by decide, by decide⟩, by decide, by decide⟩
theorem fit_ze : FitE zeroE := ⟨by decide, by decide, by decide, by decide, by decide, by decide, ⟨by decide, by decide, by decide⟩, by decide, by decide⟩
theorem v_up : evV upE = .agg #[.int .u8 1, .int .i64 1, .int .u64 1, .int .i64 5, .bool false, .int .u64 0, .int .u64 0, .int .i64 0, .int .u8 0, .int .i64 0, .int .i64 0, .int .i64 0] := by unfold upE; rw [evV_zero]; rfl
theorem c_up : evC upE = [.int .u8 1, .int .i64 1, .int .u64 1, .int .i64 5, .bool false, .int .u64 0, .int .u64 0, .int .i64 0, .int .u8 0, .int .i64 0, .int .i64 0, .int .i64 0] := by have := v_up; unfold evV at this; injection this with this; exact List.toArray_inj this
theorem c_ze : evC zeroE = [.int .u8 0, .int .i64 0, .int .u64 0, .int .i64 0, .bool false, .int .u64 0, .int .u64 0, .int .i64 0, .int .u8 0, .int .i64 0, .int .i64 0, .int .i64 0] := by have := evV_z; unfold evV at this; injection this with this; exact List.toArray_inj this
theorem evs_lit (W : World) (es : List Ev) (n : Nat) (hn : n = es.length) (hm : n ≤ 1000) (cs : Array Value) (hc : cs = (evCs es).toArray) : HasEvs (W.alloc (.cells cs 50)) (.slice (some ⟨W.heap.size, 0, none⟩) n n) es := by
  subst hn hc
  refine ⟨evCs_len es, .inr ⟨⟨W.heap.size, 0, none⟩, es.length, rfl, Nat.le_refl _, by omega, fun _ => ⟨rfl, by simp⟩, fun j hj => ?_⟩⟩
  rw [Ord.addr_add, Nat.zero_add]
  exact (RowAt.new W (evCs es) 50).cell j
theorem l1 : streamG [] [upE] = ([245, 0, 4, 1, 1, 1, 5], 0) := by kernel_rfl
theorem l2 : (piecesL [245, 0, 4, 1, 1, 1, 5, 0]).map gotG = [(upE, 0), (zeroE, 7)] := by kernel_rfl
theorem l2n : (piecesL [245, 0, 4, 1, 1, 1, 5, 0]).length = 2 := by kernel_rfl
theorem l3 : piecesL [245, 0, 4, 1, 1, 1, 5, 245, 0, 0, 245] = [(1, [1, 1, 1, 5]), (3, [])] := by kernel_rfl
theorem l4 : ofG (1, [63]) = ((zeroE, 2), 0) := by kernel_rfl
theorem l5 : ofG (2, [63]) = ((zeroE, 0), 2) := by kernel_rfl
theorem l6 : streamG [] [zeroE] = ([], 2) := by kernel_rfl
theorem lg : (#[.int .u8 1, .int .i64 1, .int .u64 1, .int .i64 5, .bool false, .int .u64 0, .int .u64 0, .int .i64 0, .int .u8 0, .int .i64 0, .int .i64 0, .int .i64 0, .int .i64 0, .int .u8 0, .int .i64 0, .int .u64 0, .int .i64 0, .bool false, .int .u64 0, .int .u64 0, .int .i64 0, .int .u8 0, .int .i64 0, .int .i64 0, .int .i64 0, .int .i64 7] : Array Value) = (gtCs [(upE, 0), (zeroE, 7)]).toArray := by
  show _ = ((evC upE ++ ([.int .i64 0] : List Value)) ++ ((evC zeroE ++ ([.int .i64 7] : List Value)) ++ [])).toArray
  rw [c_up, c_ze]
  rfl
theorem lp : (#[.int .u8 1, .string ⟨#[1, 1, 1, 5]⟩, .int .u8 3, .string ⟨#[]⟩] : Array Value) = (pcCs [(1, [1, 1, 1, 5]), (3, [])]).toArray := rfl
set_option maxHeartbeats 8000000 in
set_option maxRecDepth 20000 in
theorem lives_any (w : World) : Calls Try.prog 9 #[] w fun e w' => e = .returned (.bool true) ∧ Below w.heap.size w w' := by
  have k1 : ∀ (W : World) (v : Value), HasEvs W v [upE] → Calls Try.prog 7 #[v] W fun r w' => r = .returned (.tuple #[.string ⟨#[245, 0, 4, 1, 1, 1, 5]⟩, .int .i64 0]) ∧ Below W.heap.size W w' := fun W v hv => by
    have := stream_any [upE] v W hv (by simp only [List.mem_singleton]; rintro e rfl; exact fit_up) (by simp only [List.mem_singleton]; rintro e rfl h; exact (evB_len _ h).2) (by decide)
    rw [l1] at this
    exact this
  have k2 : ∀ W : World, Calls Try.prog 13 #[.string ⟨#[245, 0, 4, 1, 1, 1, 5, 0]⟩] W fun r w' => ∃ v, r = .returned v ∧ HasGts w' v [(upE, 0), (zeroE, 7)] ∧ Below W.heap.size W w' := fun W => by
    have := gots_any [245, 0, 4, 1, 1, 1, 5, 0] W (by decide) (by rw [l2n]; decide)
    rw [l2, l2n] at this
    refine this.mono ?_
    rintro r w' ⟨v, h1, h2, h3⟩
    exact ⟨v, h1, hasRow_own h2, h3⟩
  have k3 : ∀ W : World, Calls Try.prog 12 #[.string ⟨#[245, 0, 4, 1, 1, 1, 5, 245, 0, 0, 245]⟩] W fun r w' => ∃ v, r = .returned v ∧ HasPcs w' v [(1, [1, 1, 1, 5]), (3, [])] ∧ Below W.heap.size W w' := fun W => by
    have := pieces_any [245, 0, 4, 1, 1, 1, 5, 245, 0, 0, 245] W (by decide) (by rw [l3]; decide)
    rw [l3] at this
    refine this.mono ?_
    rintro r w' ⟨v, h1, h2, h3⟩
    exact ⟨v, h1, hasRow_own h2, h3⟩
  have k4 : ∀ W : World, Calls Try.prog 20 #[.agg #[.int .u8 1, .string ⟨#[63]⟩]] W fun r w' => r = .returned (.tuple #[.agg #[.int .u8 0, .int .i64 0, .int .u64 0, .int .i64 0, .bool false, .int .u64 0, .int .u64 0, .int .i64 0, .int .u8 0, .int .i64 0, .int .i64 0, .int .i64 0, .int .i64 2], .int .i64 0]) ∧ Below W.heap.size W w' := fun W => by
    have := of_any 1 [63] W (by decide) (by decide)
    rw [l4, gtV_z] at this
    exact this
  have k5 : ∀ W : World, Calls Try.prog 20 #[.agg #[.int .u8 2, .string ⟨#[63]⟩]] W fun r w' => r = .returned (.tuple #[.agg #[.int .u8 0, .int .i64 0, .int .u64 0, .int .i64 0, .bool false, .int .u64 0, .int .u64 0, .int .i64 0, .int .u8 0, .int .i64 0, .int .i64 0, .int .i64 0, .int .i64 0], .int .i64 2]) ∧ Below W.heap.size W w' := fun W => by
    have := of_any 2 [63] W (by decide) (by decide)
    rw [l5, gtV_z] at this
    exact this
  have k6 : ∀ (W : World) (v : Value), HasEvs W v [zeroE] → Calls Try.prog 7 #[v] W fun r w' => r = .returned (.tuple #[.string ⟨#[]⟩, .int .i64 2]) ∧ Below W.heap.size W w' := fun W v hv => by
    have := stream_any [zeroE] v W hv (by simp only [List.mem_singleton]; rintro e rfl; exact fit_ze) (by simp only [List.mem_singleton]; rintro e rfl h; exact (evB_len _ h).2) (by decide)
    rw [l6] at this
    exact this
  have k7 : ∀ (W : World) (u v : Value), HasGts W u [(upE, 0), (zeroE, 7)] → HasGts W v [(upE, 0), (zeroE, 7)] → Calls Try.prog 14 #[u, v] W fun r w' => r = .returned (.bool true) ∧ Below W.heap.size W w' := fun W u v h1 h2 => same13_any _ u v W h1 h2
  have k8 : ∀ (W : World) (u v : Value), HasPcs W u [(1, [1, 1, 1, 5]), (3, [])] → HasPcs W v [(1, [1, 1, 1, 5]), (3, [])] → Calls Try.prog 11 #[u, v] W fun r w' => r = .returned (.bool true) ∧ Below W.heap.size W w' := fun W u v h1 h2 => same12_any _ u v W h1 h2
  have HU : Hid (∀ W : World, HasEvs (W.alloc (.cells #[.int .u8 1, .int .i64 1, .int .u64 1, .int .i64 5, .bool false, .int .u64 0, .int .u64 0, .int .i64 0, .int .u8 0, .int .i64 0, .int .i64 0, .int .i64 0] 50)) (.slice (some ⟨W.heap.size, 0, none⟩) 1 1) [upE]) := fun W => evs_lit W _ 1 rfl (by decide) _ (by show _ = (evC upE ++ []).toArray; rw [c_up]; rfl)
  have HZ : Hid (∀ W : World, HasEvs (W.alloc (.cells #[.int .u8 0, .int .i64 0, .int .u64 0, .int .i64 0, .bool false, .int .u64 0, .int .u64 0, .int .i64 0, .int .u8 0, .int .i64 0, .int .i64 0, .int .i64 0] 50)) (.slice (some ⟨W.heap.size, 0, none⟩) 1 1) [zeroE]) := fun W => evs_lit W _ 1 rfl (by decide) _ (by show _ = (evC zeroE ++ []).toArray; rw [c_ze]; rfl)
  have HG : Hid (∀ W : World, HasGts (W.alloc (.cells #[.int .u8 1, .int .i64 1, .int .u64 1, .int .i64 5, .bool false, .int .u64 0, .int .u64 0, .int .i64 0, .int .u8 0, .int .i64 0, .int .i64 0, .int .i64 0, .int .i64 0, .int .u8 0, .int .i64 0, .int .u64 0, .int .i64 0, .bool false, .int .u64 0, .int .u64 0, .int .i64 0, .int .u8 0, .int .i64 0, .int .i64 0, .int .i64 0, .int .i64 7] 52)) (.slice (some ⟨W.heap.size, 0, none⟩) 2 2) [(upE, 0), (zeroE, 7)]) := fun W => gts_lit W _ 2 rfl (by decide) _ lg
  have HP : Hid (∀ W : World, HasPcs (W.alloc (.cells #[.int .u8 1, .string ⟨#[1, 1, 1, 5]⟩, .int .u8 3, .string ⟨#[]⟩] 70)) (.slice (some ⟨W.heap.size, 0, none⟩) 2 2) [(1, [1, 1, 1, 5]), (3, [])]) := fun W => pcs_lit W _ 2 rfl (by decide) _ lp
  have hge := gt_eql
  have hgd := gt_guard
  obtain ⟨X, hX⟩ : ∃ X, X = w.alloc (.cells #[.int .u8 1, .int .i64 1, .int .u64 1, .int .i64 5, .bool false, .int .u64 0, .int .u64 0, .int .i64 0, .int .u8 0, .int .i64 0, .int .i64 0, .int .i64 0] 50) := ⟨_, rfl⟩
  have hB : Below w.heap.size w X := by rw [hX]; exact below_new (Below.refl _ _) _
  have r1 : RowAt X w.heap.size [.int .u8 1, .int .i64 1, .int .u64 1, .int .i64 5, .bool false, .int .u64 0, .int .u64 0, .int .i64 0, .int .u8 0, .int .i64 0, .int .i64 0, .int .i64 0] 50 := by rw [hX]; exact RowAt.new w [.int .u8 1, .int .i64 1, .int .u64 1, .int .i64 5, .bool false, .int .u64 0, .int .u64 0, .int .i64 0, .int .u8 0, .int .i64 0, .int .i64 0, .int .i64 0] 50
  go_enter Try.func9, Try.ntmps9
  go_upto_region 2 with fail
  rw [← hX]
  clear hX
  obtain ⟨g1, hg1⟩ : ∃ g, g = w.heap.size := ⟨_, rfl⟩
  have hgw : w.heap.size ≤ g1 := by omega
  rw [← hg1] at r1
  rw [← hg1]
  clear hg1
  obtain ⟨⟨y0, y1, y2, y3, y4, y5⟩, ⟨y6, y7, y8, y9, y10, y11⟩, yf, hly⟩ := cells12' r1
  go_wp2_with fail
  go_at_call 7; refine (k1 _ _ (HU.out _)).mono ?_; rintro e w1 ⟨rfl, hb0⟩
  have hb := below2 (below_new (Below.refl _ X) _) hb0
  replace r1 := RowAt.below r1 hb
  replace hB := below2 hB hb
  clear hb hb0
  clear y0 y1 y2 y3 y4 y5 y6 y7 y8 y9 y10 y11 yf hly
  obtain ⟨⟨y0, y1, y2, y3, y4, y5⟩, ⟨y6, y7, y8, y9, y10, y11⟩, yf, hly⟩ := cells12' r1
  go_wp2_with fail
  go_at_call 13; refine (k2 _).mono ?_; rintro e w2 ⟨u1, rfl, hs1, hb⟩
  replace r1 := RowAt.below r1 hb
  replace hB := below2 hB hb
  have S1 : Hid (HasGts w2 u1 [(upE, 0), (zeroE, 7)]) := hs1
  clear hs1
  clear hb 
  clear y0 y1 y2 y3 y4 y5 y6 y7 y8 y9 y10 y11 yf hly
  obtain ⟨⟨y0, y1, y2, y3, y4, y5⟩, ⟨y6, y7, y8, y9, y10, y11⟩, yf, hly⟩ := cells12' r1
  go_wp2_with fail
  go_at_call 12; refine (k3 _).mono ?_; rintro e w3 ⟨u2, rfl, hs2, hb⟩
  replace r1 := RowAt.below r1 hb
  replace hB := below2 hB hb
  replace S1 := (show Hid (HasGts _ _ _) from S1.out.keep hb)
  have S2 : Hid (HasPcs w3 u2 [(1, [1, 1, 1, 5]), (3, [])]) := hs2
  clear hs2
  clear hb 
  clear y0 y1 y2 y3 y4 y5 y6 y7 y8 y9 y10 y11 yf hly
  obtain ⟨⟨y0, y1, y2, y3, y4, y5⟩, ⟨y6, y7, y8, y9, y10, y11⟩, yf, hly⟩ := cells12' r1
  go_wp2_with fail
  go_at_call 20; refine (k4 _).mono ?_; rintro e w4 ⟨rfl, hb⟩
  replace r1 := RowAt.below r1 hb
  replace hB := below2 hB hb
  replace S1 := (show Hid (HasGts _ _ _) from S1.out.keep hb)
  replace S2 := (show Hid (HasPcs _ _ _) from S2.out.keep hb)
  clear hb 
  clear y0 y1 y2 y3 y4 y5 y6 y7 y8 y9 y10 y11 yf hly
  go_upto_region 6 with fail
  obtain ⟨Y, hY⟩ : ∃ Y, Y = w4.alloc (.cells #[.int .u8 0, .int .i64 0, .int .u64 0, .int .i64 0, .bool false, .int .u64 0, .int .u64 0, .int .i64 0, .int .u8 0, .int .i64 0, .int .i64 0, .int .i64 0, .int .i64 2] 52) := ⟨_, rfl⟩
  have hb : Below w4.heap.size w4 Y := by rw [hY]; exact below_new (Below.refl _ _) _
  have r2 : RowAt Y w4.heap.size [.int .u8 0, .int .i64 0, .int .u64 0, .int .i64 0, .bool false, .int .u64 0, .int .u64 0, .int .i64 0, .int .u8 0, .int .i64 0, .int .i64 0, .int .i64 0, .int .i64 2] 52 := by rw [hY]; exact RowAt.new _ _ _
  rw [← hY]
  replace r1 := RowAt.below r1 hb
  replace hB := below2 hB hb
  replace S1 := (show Hid (HasGts _ _ _) from S1.out.keep hb)
  replace S2 := (show Hid (HasPcs _ _ _) from S2.out.keep hb)
  clear hY hb
  obtain ⟨g2, hg2⟩ : ∃ g, g = w4.heap.size := ⟨_, rfl⟩
  rw [← hg2] at r2 ⊢
  clear hg2
  obtain ⟨⟨y0, y1, y2, y3, y4, y5⟩, ⟨y6, y7, y8, y9, y10, y11⟩, yf, hly⟩ := cells12' r1
  go_wp2_with fail
  go_at_call 20; refine (k5 _).mono ?_; rintro e w5 ⟨rfl, hb⟩
  replace r1 := RowAt.below r1 hb
  replace hB := below2 hB hb
  replace S1 := (show Hid (HasGts _ _ _) from S1.out.keep hb)
  replace S2 := (show Hid (HasPcs _ _ _) from S2.out.keep hb)
  replace r2 := RowAt.below r2 hb
  clear hb 
  clear y0 y1 y2 y3 y4 y5 y6 y7 y8 y9 y10 y11 yf hly
  go_upto_region 7 with fail
  obtain ⟨Z, hZ⟩ : ∃ Z, Z = w5.alloc (.cells #[.int .u8 0, .int .i64 0, .int .u64 0, .int .i64 0, .bool false, .int .u64 0, .int .u64 0, .int .i64 0, .int .u8 0, .int .i64 0, .int .i64 0, .int .i64 0, .int .i64 0] 52) := ⟨_, rfl⟩
  have hb : Below w5.heap.size w5 Z := by rw [hZ]; exact below_new (Below.refl _ _) _
  rw [← hZ]
  replace r1 := RowAt.below r1 hb
  replace r2 := RowAt.below r2 hb
  replace hB := below2 hB hb
  replace S1 := (show Hid (HasGts _ _ _) from S1.out.keep hb)
  replace S2 := (show Hid (HasPcs _ _ _) from S2.out.keep hb)
  clear hZ hb
  obtain ⟨⟨y0, y1, y2, y3, y4, y5⟩, ⟨y6, y7, y8, y9, y10, y11⟩, yf, hly⟩ := cells12' r1
  go_wp2_with fail
  go_at_call 7; refine (k6 _ _ (HZ.out _)).mono ?_; rintro e w6 ⟨rfl, hb0⟩
  have hb := below2 (below_new (Below.refl _ Z) _) hb0
  replace r1 := RowAt.below r1 hb
  replace hB := below2 hB hb
  replace S1 := (show Hid (HasGts _ _ _) from S1.out.keep hb)
  replace S2 := (show Hid (HasPcs _ _ _) from S2.out.keep hb)
  replace r2 := RowAt.below r2 hb
  clear hb hb0
  clear y0 y1 y2 y3 y4 y5 y6 y7 y8 y9 y10 y11 yf hly
  obtain ⟨⟨y0, y1, y2, y3, y4, y5⟩, ⟨y6, y7, y8, y9, y10, y11⟩, yf, hly⟩ := cells12' r1
  go_wp2_with fail
  go_at_call 14; refine (k7 _ _ _ (S1.out.keep (below_new (Below.refl _ _) _)) (HG.out _)).mono ?_; rintro e w7 ⟨rfl, hb0⟩
  have hb := below2 (below_new (Below.refl _ w6) _) hb0
  replace r1 := RowAt.below r1 hb
  replace hB := below2 hB hb
  replace S1 := (show Hid (HasGts _ _ _) from S1.out.keep hb)
  replace S2 := (show Hid (HasPcs _ _ _) from S2.out.keep hb)
  replace r2 := RowAt.below r2 hb
  clear hb hb0
  clear y0 y1 y2 y3 y4 y5 y6 y7 y8 y9 y10 y11 yf hly
  obtain ⟨⟨y0, y1, y2, y3, y4, y5⟩, ⟨y6, y7, y8, y9, y10, y11⟩, yf, hly⟩ := cells12' r1
  go_wp2_with fail
  go_at_call 11; refine (k8 _ _ _ (S2.out.keep (below_new (Below.refl _ _) _)) (HP.out _)).mono ?_; rintro e w8 ⟨rfl, hb0⟩
  have hb := below2 (below_new (Below.refl _ w7) _) hb0
  replace r1 := RowAt.below r1 hb
  replace hB := below2 hB hb
  replace S1 := (show Hid (HasGts _ _ _) from S1.out.keep hb)
  replace S2 := (show Hid (HasPcs _ _ _) from S2.out.keep hb)
  replace r2 := RowAt.below r2 hb
  clear hb hb0
  clear y0 y1 y2 y3 y4 y5 y6 y7 y8 y9 y10 y11 yf hly
  obtain ⟨⟨z0, z1, z2, z3, z4, z5⟩, ⟨z6, z7, z8, z9, z10, z11, z12⟩, zf, hlz⟩ := cells13 r2
  go_wp2_with fail
  go_ret
  exact ⟨rfl, hB⟩
end Go.Proofs.Ytopabkkapbaibaa.Gram
