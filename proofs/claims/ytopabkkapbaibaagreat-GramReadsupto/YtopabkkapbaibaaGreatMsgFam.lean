/- What familyOf, bytesWithin, oneByte, gather and lay return. -/
import Derived.Test.YtopabkkapbaibaaGreatMsgSingle
import Derived.Lib.BufferWrite
set_option linter.unusedVariables false
namespace Go.Proofs.YtopabkkapbaibaaGreat.Msg
open Go.RowKit
open Go.Proofs.YtopabkkapbaibaaGreat.Addr (Pf okP checkP wideN firstN kP hiN loN adV pfV RowAt below2 below_drew below_new bset RowAt.lt RowAt.cell RowAt.frozen RowAt.below RowAt.drew RowAt.new RowAt.alloc gdrew gset gbelow galloc grefl cells2 cells4 results_cell)

def famV (six : Bool) : Value := .agg #[.int .u8 (if six then 6 else 4), .int .i64 (if six then 0 else 12)]
theorem familyOf_any (six : Bool) (w : World) : Calls Tryz.prog 76 #[.bool six] w fun e w' => e = .returned (famV six) ∧ Below w.heap.size w w' := by
  cases six
  · go_enter Tryz.func76, Tryz.ntmps76
    go_wp2
    (try simp only [Exit.inBlock, Exit.then])
    refine bodyPost_ret (v := .agg #[.int .u8 4, .int .i64 12]) ?_ rfl ⟨rfl, (Below.refl _ w).alloc (Nat.le_refl _) _⟩
    rw [results_cell rfl]
    go_simp
  · go_enter Tryz.func76, Tryz.ntmps76
    go_wp2
    (try simp only [Exit.inBlock, Exit.then])
    refine bodyPost_ret (v := .agg #[.int .u8 6, .int .i64 0]) ?_ rfl ⟨rfl, (Below.refl _ w).alloc (Nat.le_refl _) _⟩
    rw [results_cell rfl]
    go_simp
theorem within_any (k : Nat) (w : World) (hk : (k : Int) ≤ 1000000) : Calls Tryz.prog 77 #[.int .i64 (k : Int)] w fun e w' => e = .returned (.int .i64 (manyN k : Int)) ∧ w' = w := by
  have HV : Hid (((manyN k : Nat) : Int) = ((k : Int) + 7) / 8) := by show _ = _; unfold manyN; omega
  generalize ((manyN k : Nat) : Int) = R at HV ⊢
  go_enter Tryz.func77, Tryz.ntmps77
  go_wp2
  go_ret
  exact ⟨by rw [HV.out]; rfl, rfl⟩
theorem addr_add (b o j : Nat) : (⟨b, o, none⟩ : Go.Addr).add j = ⟨b, o + j, none⟩ := by unfold Addr.add; split <;> simp_all
theorem conv_at (W : World) (g : Nat) (b : UInt8) (h : W.cell? ⟨g, 0, none⟩ = some (.int .u8 (b.toNat : Int))) : (convert 70 9 (.slice (some ⟨g, 0, none⟩) 1 1)).run Tryz.prog W = .ok (.string ⟨[b].toArray⟩) W :=
  run_convert_bytes_back (P := Tryz.prog) W 70 9 5 ⟨g, 0, none⟩ 1 [b] Tryz.underlying70 Tryz.underlying5 Tryz.underlying9 (fun j hj => by
    obtain rfl : j = 0 := by simpa using hj
    rw [addr_add]
    exact h)
theorem oneByte_any (b : UInt8) (w : World) : Calls Tryz.prog 64 #[.int .u8 (b.toNat : Int)] w fun e w' => e = .returned (.string ⟨#[b]⟩) ∧ Below w.heap.size w w' := by
  have hc : (convert 70 9 (.slice (some ⟨w.heap.size, 0, none⟩) 1 1)).run Tryz.prog (w.alloc (.cells #[.int .u8 (b.toNat : Int)] 5)) = .ok (.string ⟨#[b]⟩) (w.alloc (.cells #[.int .u8 (b.toNat : Int)] 5)) :=
    conv_at _ _ b ((RowAt.new w [.int .u8 (b.toNat : Int)] 5).cell 0)
  go_enter Tryz.func64, Tryz.ntmps64
  go_wp2_with fail
  go_ret
  exact ⟨rfl, below_new (Below.refl _ _) _⟩
/-- a byte's cell -/
def cB (b : UInt8) : Value := .int .u8 (b.toNat : Int)
def cL (l : List UInt8) : List Value := l.map cB
theorem size_u8 : (Tryz.prog.info? 5).map (·.size) = some 1 := by kernel_rfl
theorem copy_fit {W : World} {g : Nat} {cs : List Value} {t : TypeId} (hg : RowAt W g cs t) (l : List UInt8) (o d : Nat) (hd : l.length ≤ d) (hfit : o + l.length ≤ cs.length) (ty : TypeId) :
    (Builtin.copy_ #[70, 9] ty #[.slice (some ⟨g, o, none⟩) d d, .string ⟨l.toArray⟩]).run Tryz.prog W = .ok (.int .i64 (l.length : Int)) (W.setRow g (cs.take o ++ cL l ++ cs.drop (o + l.length)).toArray) := by
  have h := Lib.run_copy_row_string (P := Tryz.prog) W 70 9 ty 5 g o d d ⟨l.toArray⟩ cs.toArray t Tryz.underlying70 size_u8 hg (by rw [size_list]; exact hd) (by rw [size_list]; simpa using hfit)
  rw [size_list] at h
  rw [h]
  rfl
theorem copy_long (W : World) (g o d : Nat) (l : List UInt8) (hd : d ≤ l.length) (ty : TypeId) :
    (Builtin.copy_ #[70, 9] ty #[.slice (some ⟨g, o, none⟩) d d, .string ⟨l.toArray⟩]).run Tryz.prog W = (Builtin.copy_ #[70, 9] ty #[.slice (some ⟨g, o, none⟩) d d, .string ⟨(l.take d).toArray⟩]).run Tryz.prog W := by
  have h1 : (⟨l.toArray⟩ : ByteArray).size.min d = d := by rw [size_list]; exact Nat.min_eq_right hd
  have h2 : (⟨(l.take d).toArray⟩ : ByteArray).size.min d = d := by rw [size_list, List.length_take, Nat.min_eq_left hd]; exact Nat.min_self d
  simp [Builtin.copy_, run_underlying Tryz.underlying70, Builtin.lenOf, Builtin.firstCells, List.map_take]
  rw [h1, h2, List.take_take, Nat.min_self]
/-- the sixteen bytes that gather lays -/
def gaB (six : Bool) (s : List UInt8) : List UInt8 := List.replicate (16 - wB six) 0 ++ (s.take (wB six) ++ List.replicate (wB six - (s.take (wB six)).length) 0)
theorem gaB_len (six : Bool) (s : List UInt8) : (gaB six s).length = 16 := by
  unfold gaB
  have : (s.take (wB six)).length ≤ wB six := by rw [List.length_take]; omega
  simp only [List.length_append, List.length_replicate]
  cases six <;> simp only [wB] at * <;> simp at * <;> omega
theorem nb_zeros (k : Nat) (l : List UInt8) : nb 0 (List.replicate k 0 ++ l) = nb 0 l := by
  induction k with
  | zero => rfl
  | succ k ih => rw [List.replicate_succ]; exact ih
theorem nb_gaB (six : Bool) (s : List UInt8) : nb 0 (gaB six s) = gaN six s := by unfold gaB gaN; exact nb_zeros _ _
theorem nb_lt (l : List UInt8) : ∀ acc, nb acc l < (acc + 1) * 256 ^ l.length := by
  induction l with
  | nil => intro acc; simp [nb]
  | cons b t ih =>
    intro acc
    have := ih (acc * 256 + b.toNat)
    have hb := b.toNat_lt
    rw [List.length_cons, Nat.pow_succ]
    refine Nat.lt_of_lt_of_le this ?_
    rw [Nat.mul_comm (256 ^ t.length) 256, ← Nat.mul_assoc]
    exact Nat.mul_le_mul_right _ (by omega)
theorem nb_shift (l : List UInt8) : ∀ acc, nb acc l = acc * 256 ^ l.length + nb 0 l := by
  induction l with
  | nil => intro acc; simp [nb]
  | cons b t ih =>
    intro acc
    show nb (acc * 256 + b.toNat) t = acc * 256 ^ (t.length + 1) + nb (0 * 256 + b.toNat) t
    rw [ih, ih (0 * 256 + b.toNat), Nat.pow_succ, Nat.add_mul, Nat.zero_mul, Nat.zero_add, Nat.mul_assoc, Nat.mul_comm 256]
    omega
theorem nb_snoc (l : List UInt8) (b : UInt8) (acc : Nat) : nb acc (l ++ [b]) = nb acc l * 256 + b.toNat := by rw [nb_app]; rfl
theorem hilo_nb (B : List UInt8) (h : B.length = 16) : hiN (nb 0 B) = nb 0 (B.take 8) ∧ loN (nb 0 B) = nb 0 (B.drop 8) := by
  have e : nb 0 B = nb 0 (B.take 8) * 18446744073709551616 + nb 0 (B.drop 8) := by
    have := nb_app (B.take 8) (B.drop 8) 0
    rw [List.take_append_drop] at this
    rw [this, nb_shift, List.length_drop, h]
  have hl := nb_lt (B.drop 8) 0
  rw [List.length_drop, h] at hl
  have h2 : nb 0 (B.drop 8) < 18446744073709551616 := by simpa using hl
  have := Addr.of_hilo (nb 0 (B.take 8)) (nb 0 (B.drop 8)) h2
  rw [e, Nat.mul_comm]
  exact this
theorem or_byte (x : Nat) (b : UInt8) (hx : x < 72057594037927936) : bits .or .u64 (IntKind.u64.wrap ((x : Int) * 256)) (IntKind.u64.wrap (b.toNat : Int)) = ((x * 256 + b.toNat : Nat) : Int) := by
  have hb := b.toNat_lt
  have e1 : IntKind.u64.wrap ((x : Int) * 256) = ((x * 256 : Nat) : Int) := by rw [IntKind.wrap_u64]; omega
  have e2 : IntKind.u64.wrap (b.toNat : Int) = (b.toNat : Int) := by rw [IntKind.wrap_u64]; omega
  rw [e1, e2, u64_or_nat _ _ (by omega) (by omega)]
  have := Nat.shiftLeft_add_eq_or_of_lt (b := b.toNat) (i := 8) (by omega) x
  rw [Nat.shiftLeft_eq] at this
  rw [← this]
def frN (six : Bool) : Nat := if six then 0 else 12
theorem copy_ga {W : World} {g : Nat} {t : TypeId} (six : Bool) (hg : RowAt W g (cL (List.replicate 16 0)) t) (s : List UInt8) (ty : TypeId) :
    ∃ k : Nat, (Builtin.copy_ #[70, 9] ty #[.slice (some ⟨g, frN six, none⟩) (wB six) (wB six), .string ⟨s.toArray⟩]).run Tryz.prog W = .ok (.int .i64 (k : Int)) (W.setRow g (cL (gaB six s)).toArray) := by
  have hfw : frN six + wB six = 16 := by cases six <;> rfl
  have hlt : (s.take (wB six)).length ≤ wB six := by rw [List.length_take]; omega
  have hlen : (cL (List.replicate 16 0)).length = 16 := by simp [cL]
  have h := copy_fit hg (s.take (wB six)) (frN six) (wB six) hlt (by rw [hlen]; omega) ty
  have e : (cL (List.replicate 16 0)).take (frN six) ++ cL (s.take (wB six)) ++ (cL (List.replicate 16 0)).drop (frN six + (s.take (wB six)).length) = cL (gaB six s) := by
    unfold cL gaB
    rw [← List.map_take, ← List.map_drop, List.map_append, List.map_append, List.take_replicate, List.drop_replicate, List.append_assoc, show min (frN six) 16 = 16 - wB six by omega, show 16 - (frN six + (s.take (wB six)).length) = wB six - (s.take (wB six)).length by omega]
  rw [e] at h
  rcases Nat.le_total (wB six) s.length with hc | hc
  · rw [copy_long W g (frN six) (wB six) s hc ty]
    exact ⟨_, h⟩
  · rw [List.take_of_length_le hc] at h
    exact ⟨_, h⟩
theorem RowAt.set {W : World} {g : Nat} {cs : List Value} {t : TypeId} (h : RowAt W g cs t) (ds : List Value) : RowAt (W.setRow g ds.toArray) g ds t := setRow_heap W g cs.toArray ds.toArray t (0, 0) h
theorem RowAt.other {W : World} {g k : Nat} {cs : List Value} {t : TypeId} (h : RowAt W g cs t) (hne : g ≠ k) (ds : Array Value) : RowAt (W.setRow k ds) g cs t := (setRow_other W k g ds (by first | exact hne | exact fun e => hne e.symm)).trans h
theorem below_setRow {B g : Nat} {w0 w : World} (hb : Below B w0 w) (hBg : B ≤ g) (cs : Array Value) : Below B w0 (w.setRow g cs) :=
  hb.trans ⟨rfl, rfl, rfl, by simp, fun k hk => setRow_other w g k cs (by omega)⟩
theorem cell_ga {W : World} {g : Nat} {B : List UInt8} {t : TypeId} (h : RowAt W g (cL B) t) (k : Nat) (hk : k < B.length) : W.cell? ⟨g, k, none⟩ = some (.int .u8 ((B.getD k 0).toNat : Int)) := by
  rw [RowAt.cell h, cL, List.getElem?_map, List.getElem?_eq_getElem hk, List.getD_eq_getElem?_getD, List.getElem?_eq_getElem hk]; rfl
theorem take_snoc (l : List UInt8) (k : Nat) (h : k < l.length) : l.take (k + 1) = l.take k ++ [l.getD k 0] := by
  rw [List.take_succ_eq_append_getElem h, List.getD_eq_getElem?_getD, List.getElem?_eq_getElem h]; rfl
set_option maxHeartbeats 4000000 in
set_option maxRecDepth 20000 in
theorem gather_any (six : Bool) (s : List UInt8) (w : World) (hs : (s.length : Int) ≤ 1000000) :
    Calls Tryz.prog 80 #[famV six, .string ⟨s.toArray⟩] w fun e w' => e = .returned (adV (gaN six s)) ∧ Below w.heap.size w w' := by
  have hL := gaB_len six s
  obtain ⟨hH, hO⟩ := hilo_nb (gaB six s) hL
  rw [nb_gaB] at hH hO
  have HAD : Hid (adV (gaN six s) = .agg #[.int .u64 (nb 0 ((gaB six s).take 8) : Int), .int .u64 (nb 0 ((gaB six s).drop 8) : Int)]) := by show _ = _; unfold Addr.adV; rw [hH, hO]
  generalize adV (gaN six s) = AV at HAD ⊢
  clear hH hO
  obtain ⟨X, hX⟩ : ∃ X, X = ((w.alloc (.cells #[.int .u8 (if six then 6 else 4), .int .i64 (if six then 0 else 12)] 137)).alloc (.cells #[.int .u64 0, .int .u64 0] 28)).alloc (.cells (cL (List.replicate 16 0)).toArray 157) := ⟨_, rfl⟩
  have s1 : (w.alloc (.cells #[.int .u8 (if six then 6 else 4), .int .i64 (if six then 0 else 12)] 137)).heap.size = w.heap.size + 1 := World.size_alloc _ _
  have s2 : ((w.alloc (.cells #[.int .u8 (if six then 6 else 4), .int .i64 (if six then 0 else 12)] 137)).alloc (.cells #[.int .u64 0, .int .u64 0] 28)).heap.size = w.heap.size + 1 + 1 := by rw [World.size_alloc, s1]
  have hB0 : Below w.heap.size w X := by rw [hX]; exact below_new (below_new (below_new (Below.refl _ _) _) _) _
  have r0 : RowAt X w.heap.size [.int .u8 (if six then 6 else 4), .int .i64 (if six then 0 else 12)] 137 := by rw [hX]; exact ((RowAt.new _ _ _).alloc _).alloc _
  have r1 : RowAt X (w.heap.size + 1) [.int .u64 0, .int .u64 0] 28 := by rw [hX, ← s1]; exact (RowAt.new _ _ _).alloc _
  have r2 : RowAt X (w.heap.size + 1 + 1) (cL (List.replicate 16 0)) 157 := by rw [hX, ← s2]; exact RowAt.new _ _ _
  obtain ⟨kc, hcp⟩ : ∃ k : Nat, ∀ ty, (Builtin.copy_ #[70, 9] ty #[.slice (some ⟨w.heap.size + 1 + 1, frN six, none⟩) (wB six) (wB six), .string ⟨s.toArray⟩]).run Tryz.prog X = .ok (.int .i64 (k : Int)) (X.setRow (w.heap.size + 1 + 1) (cL (gaB six s)).toArray) := by
    obtain ⟨k, h⟩ := copy_ga six r2 s 0
    exact ⟨k, fun ty => h⟩
  obtain ⟨Y, hY⟩ : ∃ Y, Y = X.setRow (w.heap.size + 1 + 1) (cL (gaB six s)).toArray := ⟨_, rfl⟩
  rw [← hY] at hcp
  have q1 : RowAt Y (w.heap.size + 1) [.int .u64 0, .int .u64 0] 28 := by rw [hY]; exact RowAt.other r1 (by omega) _
  have q2 : RowAt Y (w.heap.size + 1 + 1) (cL (gaB six s)) 157 := by rw [hY]; exact RowAt.set r2 _
  have hBY : Below w.heap.size w Y := by rw [hY]; exact below_setRow hB0 (by omega) _
  obtain ⟨x0, x1, xf⟩ := cells2 r0
  have HX : Hid (X = ((w.alloc (.cells #[.int .u8 (if six then 6 else 4), .int .i64 (if six then 0 else 12)] 137)).alloc (.cells #[.int .u64 0, .int .u64 0] 28)).alloc (.cells #[.int .u8 0, .int .u8 0, .int .u8 0, .int .u8 0, .int .u8 0, .int .u8 0, .int .u8 0, .int .u8 0, .int .u8 0, .int .u8 0, .int .u8 0, .int .u8 0, .int .u8 0, .int .u8 0, .int .u8 0, .int .u8 0] 157)) := hX
  clear hX s1 s2 r1 r2 hY r0 hB0
  generalize gaB six s = B at *
  have hgo : Calls Tryz.prog 80 #[.agg #[.int .u8 (if six then 6 else 4), .int .i64 (if six then 0 else 12)], .string ⟨s.toArray⟩] w fun e w' => e = .returned AV ∧ Below w.heap.size w w' := by
    cases six
    all_goals
      unfold frN wB at hcp
      simp only [if_true, if_false, Bool.false_eq_true] at hcp x0 x1 HX ⊢
      go_enter Tryz.func80, Tryz.ntmps80
      go_upto_region 2 with fail
      rw [← HX.out]
      go_upto_region 3 with fail
      clear hcp x0 x1 xf HX X
      obtain ⟨Z, hZ⟩ : ∃ Z, Z = Y.alloc (.cells #[.int .u64 0, .int .u64 0] 28) := ⟨_, rfl⟩
      have z3 : RowAt Z Y.heap.size [.int .u64 ((nb 0 (B.take 0) : Nat) : Int), .int .u64 ((nb 0 ((B.drop 8).take 0) : Nat) : Int)] 28 := by rw [hZ]; exact RowAt.new _ _ _
      have z1 : RowAt Z (w.heap.size + 1) [.int .u64 0, .int .u64 0] 28 := by rw [hZ]; exact RowAt.alloc q1 _
      have z2 : RowAt Z (w.heap.size + 1 + 1) (cL B) 157 := by rw [hZ]; exact RowAt.alloc q2 _
      have hBZ : Below w.heap.size w Z := by rw [hZ]; exact below_new hBY _
      have hgY : w.heap.size + 1 + 1 < Y.heap.size := RowAt.lt q2
      go_upto_region 4 with fail
      rw [← hZ]
      generalize Y.heap.size = g at z3 hgY ⊢
      clear hZ q1 q2 hBY
      go_wp2_with fail
      go_loopw [13] (fun i wr => ∃ k : Nat, k ≤ 8 ∧ i = .int .i64 k ∧ Hid (RowAt wr g [.int .u64 ((nb 0 (B.take k) : Nat) : Int), .int .u64 ((nb 0 ((B.drop 8).take k) : Nat) : Int)] 28 ∧ Z.grownBy wr (some g))) (fun i _ => 8 - (intOf i).toNat)
      case atStart => exact ⟨0, by omega, rfl, z3, grefl _ _⟩
      case round =>
        obtain ⟨k, hk, rfl, HI⟩ := hrel
        obtain ⟨hr, hG⟩ := HI.out
        obtain ⟨a0, a1, af⟩ := cells2 hr
        have hl0 := RowAt.lt hr
        by_cases hlt : k < 8
        · have hq2 : RowAt wr (w.heap.size + 1 + 1) (cL B) 157 := (hG.block _ (RowAt.lt z2) (by intro e; injection e with e; omega)).trans z2
          have c1 := cell_ga hq2 k (by omega)
          have c2 := cell_ga hq2 (8 + k) (by omega)
          have t1 : nb 0 (B.take (k + 1)) = nb 0 (B.take k) * 256 + (B.getD k 0).toNat := by rw [take_snoc B k (by omega), nb_snoc]
          have t2 : nb 0 ((B.drop 8).take (k + 1)) = nb 0 ((B.drop 8).take k) * 256 + (B.getD (8 + k) 0).toNat := by
            rw [take_snoc (B.drop 8) k (by rw [List.length_drop]; omega), nb_snoc]
            congr 2
            simp [List.getD_eq_getElem?_getD, List.getElem?_drop]
          have n1 : nb 0 (B.take k) < 72057594037927936 := by
            have := nb_lt (B.take k) 0
            have hl : (B.take k).length ≤ 7 := by rw [List.length_take]; omega
            have hp : 256 ^ (B.take k).length ≤ 256 ^ 7 := Nat.pow_le_pow_right (by decide) hl
            simp only [Nat.zero_add, Nat.one_mul] at this
            exact Nat.lt_of_lt_of_le this (by simpa using hp)
          have n2 : nb 0 ((B.drop 8).take k) < 72057594037927936 := by
            have := nb_lt ((B.drop 8).take k) 0
            have hl : ((B.drop 8).take k).length ≤ 7 := by rw [List.length_take]; omega
            have hp : 256 ^ ((B.drop 8).take k).length ≤ 256 ^ 7 := Nat.pow_le_pow_right (by decide) hl
            simp only [Nat.zero_add, Nat.one_mul] at this
            exact Nat.lt_of_lt_of_le this (by simpa using hp)
          have o1 := or_byte _ (B.getD k 0) n1
          have o2 := or_byte _ (B.getD (8 + k) 0) n2
          rw [← t1] at o1
          rw [← t2] at o2
          clear t1 t2 n1 n2
          have hki : (k : Int) < 8 := by omega
          obtain ⟨j, hj⟩ : ∃ j, j = 8 + k := ⟨_, rfl⟩
          have hk8 : (8 : Int) + (k : Int) = (j : Int) := by omega
          have hj16 : (j : Int) < 16 := by omega
          rw [← hj] at c2 o2
          clear hj
          have HR : Hid (∀ x y : Value, RowAt ((wr.setCell ⟨g, 0, none⟩ x).setCell ⟨g, 1, none⟩ y) g [x, y] 28) := fun x y => set1 (set1 hr 0 x) 1 y
          clear hr hq2 HI
          generalize nb 0 (B.take k) = H0 at *
          generalize nb 0 ((B.drop 8).take k) = L0 at *
          generalize hH1 : nb 0 (B.take (k + 1)) = H1 at *
          generalize hL1 : nb 0 ((B.drop 8).take (k + 1)) = L1 at *
          have HH1 : Hid (nb 0 (B.take (k + 1)) = H1) := hH1
          have HL1 : Hid (nb 0 ((B.drop 8).take (k + 1)) = L1) := hL1
          clear hH1 hL1
          generalize B.getD k 0 = v1 at *
          generalize B.getD j 0 = v2 at *
          have hne : some (w.heap.size + 1 + 1) ≠ some g := by intro e; injection e with e; omega
          go_wp2_with fail
          go_region
          go_wp2_with fail
          go_region
          go_wp2_with fail
          go_roundw
          case rel => exact ⟨k + 1, by omega, by go_num, by rw [HH1.out, HL1.out]; exact RowAt.drew (RowAt.drew (HR.out _ _)), gdrew (gdrew (gset (gset hG)))⟩
          case measure => simp [intOf]; omega
        · obtain rfl : k = 8 := by omega
          have hq1 : RowAt wr (w.heap.size + 1) [.int .u64 0, .int .u64 0] 28 := (hG.block _ (RowAt.lt z1) (by intro e; injection e with e; omega)).trans z1
          obtain ⟨p0, p1, pf⟩ := cells2 hq1
          have hlp := RowAt.lt hq1
          have hBw : Below w.heap.size w wr := Addr.gfinal hBZ hG (by omega)
          have e8 : (B.drop 8).take 8 = B.drop 8 := List.take_of_length_le (by rw [List.length_drop]; omega)
          rw [e8] at a1
          generalize nb 0 (B.take 8) = H0 at *
          generalize nb 0 (B.drop 8) = L0 at *
          clear HI hr e8
          go_wp2_with fail
          refine bodyPost_ret (v := .agg #[.int .u64 (H0 : Int), .int .u64 (L0 : Int)]) ?_ rfl ⟨by rw [HAD.out], ?_⟩
          · rw [results_cell rfl]
            go_simp
          · repeat' (first | with_reducible exact hBw | with_reducible refine bset ?_ (by omega))
  unfold famV
  exact hgo
end Go.Proofs.YtopabkkapbaibaaGreat.Msg
