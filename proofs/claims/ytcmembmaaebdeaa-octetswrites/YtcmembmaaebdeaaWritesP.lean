/- Whatever is written into two Writers in turns: the document's bytes: OctetsWrites answers true. -/
import Derived.Test.YtcmembmaaebdeaaWritesI
import Derived.Test.YtcmembmaaebdeaaStepW
import Derived.Deep.RegionHeld3
import Derived.Deep.RegionLaw
namespace Go.Proofs.Ytcmembmaaebdeaa
open Go.RowKit Go.PlainAid Go.Lib

/-- the cells of the thing p at b, o; u: its bytes' slice -/
structure PutC (w : World) (b o : Nat) (p : PutD) (u : Value) : Prop where
  on : w.cell? ⟨b, o, none⟩ = some (.int .i64 p.on)
  kind : w.cell? ⟨b, o + 1, none⟩ = some (.int .i64 p.kind)
  uint : w.cell? ⟨b, o + 2, none⟩ = some (.int .u64 (p.uint : Int))
  int : w.cell? ⟨b, o + 3, none⟩ = some (.int .i64 p.int)
  real : w.cell? ⟨b, o + 4, none⟩ = some (.float .f32 p.real)
  text : w.cell? ⟨b, o + 5, none⟩ = some (.string p.text)
  raw : w.cell? ⟨b, o + 6, none⟩ = some u

theorem put_start {w w' : World} {b o : Nat} {p : PutD} {u : Value} (h : PutC w b o p u) (k : Keep [] w w') :
    w'.cell? ⟨b, o, none⟩ = some (.int .i64 p.on) ∧ w'.cell? ⟨b, o + 1, none⟩ = some (.int .i64 p.kind) ∧ w'.cell? ⟨b, o + 2, none⟩ = some (.int .u64 (p.uint : Int)) ∧ w'.cell? ⟨b, o + 3, none⟩ = some (.int .i64 p.int) ∧
    w'.cell? ⟨b, o + 4, none⟩ = some (.float .f32 p.real) ∧ w'.cell? ⟨b, o + 5, none⟩ = some (.string p.text) ∧ w'.cell? ⟨b, o + 6, none⟩ = some u :=
  ⟨k.cell' h.on (by simp), k.cell' h.kind (by simp), k.cell' h.uint (by simp), k.cell' h.int (by simp), k.cell' h.real (by simp), k.cell' h.text (by simp), k.cell' h.raw (by simp)⟩

theorem writes_keep {w wr w6 : World} {gw gt oi : Nat} {v t : Nat → Value} {A B : Nat → List UInt8} {r : List UInt8} (h : InvW w wr gw gt v t A B) (ho : oi < 2) (W : Wrote2 (1 - oi) (v (1 - oi)) wr.drew w6 gw oi (A oi) r (v oi).ownBlock) : Keep [] w w6 := by
  obtain ⟨_, h1, _⟩ := (h.same ((Keep.refl [] _).drew)).write oi ho r W
  exact h1.keep

theorem held2_start {w : World} {p q : Addr} {u v : Value} (hc : w.cell? p = some u) (hd : w.cell? q = some v) : w.drew.cell? p = some u ∧ w.drew.cell? q = some v ∧ Keep [] w w.drew := ⟨by simpa using hc, by simpa using hd, (Keep.refl _ _).drew⟩
theorem held2_call {w w1 w2 : World} {p q : Addr} {u v : Value} (h : w1.cell? p = some u ∧ w1.cell? q = some v ∧ Keep [] w w1) (k : Keep [] w1 w2) : w2.cell? p = some u ∧ w2.cell? q = some v ∧ Keep [] w w2 := ⟨k.cell' h.1 (by simp), k.cell' h.2.1 (by simp), h.2.2.trans' k⟩
theorem same_keep2 (u v : Value) (l : List UInt8) (w : World) (hu : Row w u l) (hv : Bs w v l) : Calls Try.prog 16 #[u, v] w fun e w' => e = .returned (.bool true) ∧ Keep [] w w' := by
  have h := same_any u v l l w hu.bs hv
  rw [show (l == l) = true by simp] at h
  refine h.mono ?_
  rintro e w9 ⟨rfl, n, rfl⟩
  exact ⟨rfl, (Keep.refl _ _).drewN n⟩

set_option maxRecDepth 1000000 in
set_option maxHeartbeats 25600000 in
theorem writes_law (a0 : Option Addr) (ca : Nat) (ps : List PutD) (w : World) (hps : Puts w (.slice a0 ps.length ca) ps) (hsz : ∀ p ∈ ps, p.text.size ≤ 140737488355328 ∧ p.raw.length ≤ 140737488355328) :
    Calls Try.prog 3 #[.slice a0 ps.length ca] w fun e w' => e = .returned (.bool true) ∧ Below w.heap.size w w' := by
  have hT := tooMuch_any _ ps w hps hsz
  obtain ⟨ao, cap, he, hlc, hcm, hex⟩ := hps.ex
  simp at he
  obtain ⟨rfl, rfl⟩ := he
  by_cases hbig : 1073741824 < bulkAll ps
  · rw [show decide (1073741824 < bulkAll ps) = true by simpa using hbig] at hT
    clear hex hps
    go_enter Try.func3, Try.ntmps3
    go_wp2_with fail
    refine hT.mono ?_
    rintro e1 w1 ⟨rfl, n1, rfl⟩
    have HK : Hid (Below w.heap.size w (w.drewN n1)) := ((Keep.refl [] w).drewN n1).below
    clear hT
    go_wp2
    go_ret
    exact ⟨rfl, HK.out⟩
  rw [show decide (1073741824 < bulkAll ps) = false by simpa using hbig] at hT
  have hlen16 := bulkAll_len ps
  have hok := hps.ok
  have hpn : ps.length ≤ 67108864 := by omega
  have HEX : Hid (ps ≠ [] → ∃ b o, a0 = some ⟨b, o, none⟩ ∧ ∀ i (h : i < ps.length), PutAt w b (o + i * 7) ps[i]) := hex
  have HP : Hid ((∀ p ∈ ps, p.Ok) ∧ bulkAll ps ≤ 1073741824) := ⟨hok, by omega⟩
  clear hex hps hok hlen16 hbig hsz
  go_enter Try.func3, Try.ntmps3
  go_wp2_with fail
  refine hT.mono ?_
  rintro e1 w1 ⟨rfl, n1, rfl⟩
  have K1 : Keep [] w (w.drewN n1) := (Keep.refl [] w).drewN n1
  clear hT
  generalize w.drewN n1 = w1 at K1 ⊢
  have HI0 : Hid (InvW w ((w1.alloc (.cells #[.slice none 0 0, .slice none 0 0] 29)).alloc (.cells #[.slice none 0 0, .slice none 0 0] 30)) w1.heap.size (w1.heap.size + 1) (fun _ => .slice none 0 0) (fun _ => .slice none 0 0) (sel []) (sel [])) := by
    have hs0 : ∀ k, sel [] k = [] := fun k => rfl
    refine ⟨⟨fun k hk => ?_, fun k hk => ?_, fun k _ => by rw [hs0]; exact Row.nil _, fun k _ => by simp [Value.ownBlock], fun j k _ _ _ x hx => by simp [Value.ownBlock] at hx⟩, ⟨fun k hk => ?_, fun k hk => ?_, fun k _ => by rw [hs0]; exact Row.nil _, fun k _ => by simp [Value.ownBlock], fun j k _ _ _ x hx => by simp [Value.ownBlock] at hx⟩, (K1.alloc _).alloc _, fun x hx => ?_, fun x hx => ?_, fun x hx ht => ?_⟩
    · have : k = 0 ∨ k = 1 := by omega
      rcases this with rfl | rfl <;> simp [go_sem]
    · have : k = 0 ∨ k = 1 := by omega
      rcases this with rfl | rfl <;> simp [go_sem]
    · have : k = 0 ∨ k = 1 := by omega
      rcases this with rfl | rfl <;> simp [go_sem]
    · have : k = 0 ∨ k = 1 := by omega
      rcases this with rfl | rfl <;> simp [go_sem]
    · have h1 := K1.size
      rcases hx with rfl | ⟨k, _, hx⟩
      · omega
      · simp [Value.ownBlock] at hx
    · have h1 := K1.size
      rcases hx with rfl | ⟨k, _, hx⟩
      · omega
      · simp [Value.ownBlock] at hx
    · rcases hx with rfl | ⟨k, _, hx⟩
      · rcases ht with ht | ⟨k, _, ht⟩
        · omega
        · simp [Value.ownBlock] at ht
      · simp [Value.ownBlock] at hx
  clear K1
  go_wp2
  generalize (w1.alloc (.cells #[.slice none 0 0, .slice none 0 0] 29)).alloc (.cells #[.slice none 0 0, .slice none 0 0] 30) = w2 at HI0 ⊢
  generalize w1.heap.size + 1 = gt at HI0 ⊢
  generalize w1.heap.size = gw at HI0 ⊢
  go_loopw [6] (fun iv wr => ∃ (i : Nat) (v t : Nat → Value), iv = .int .i64 (i : Int) ∧ i ≤ ps.length ∧ InvW w wr gw gt v t (sel (ps.take i)) (sel (ps.take i))) (fun iv _ => ps.length - (intOf iv).toNat)
  case atStart => exact ⟨0, _, _, rfl, Nat.zero_le _, HI0.out⟩
  case round =>
    obtain ⟨i, v, t, rfl, hi, hI⟩ := hrel
    clear HI0
    by_cases hil : i < ps.length
    · have hili : (i : Int) < (ps.length : Int) := by omega
      obtain ⟨b, o, rfl, hat⟩ := HEX.out (by intro hz; rw [hz] at hil; simp at hil)
      have hA := hat i hil
      have hpok := HP.out.1 ps[i] (List.getElem_mem hil)
      have htk := take_put ps i hil
      have hbs := bulk_step ps i hil
      have hbt := bulk_take_le ps (i + 1)
      have hbk := HP.out.2
      have hsl := fun k => sel_len (ps.take i) (fun p hp => HP.out.1 p (List.mem_of_mem_take hp)) k
      generalize ps[i] = p at hA hpok htk hbs
      obtain ⟨u, c6, hu⟩ := hA.raw
      have hC : PutC w b (o + i * 7) p u := ⟨hA.on, hA.kind, hA.uint, hA.int, hA.real, hA.text, c6⟩
      obtain ⟨oi, hoi, hon⟩ : ∃ oi : Nat, oi < 2 ∧ pickZ p.on 2 = (oi : Int) := by
        have h := pickZ_lt p.on 2 (by omega)
        have e : ((2 : Nat) : Int) = 2 := rfl
        rw [e] at h
        exact ⟨(pickZ p.on 2).toNat, by omega, by omega⟩
      have HS : Hid (sel (ps.take (i + 1)) = upd (sel (ps.take i)) oi (sel (ps.take i) oi ++ p.bytes)) := by
        show sel (ps.take (i + 1)) = upd (sel (ps.take i)) oi (sel (ps.take i) oi ++ p.bytes)
        rw [htk]
        exact sel_upd _ p oi (by omega)
      have HL : Hid ((∀ k, (sel (ps.take i) k).length + p.bulk ≤ 1073741824) ∧ p.raw.length ≤ 1073741824 ∧ p.text.size ≤ 1073741824 ∧ p.bytes.length ≤ 1073741824) := by
        have h1 := p.bytes_len hpok
        refine ⟨fun k => by have := hsl k; omega, ?_, ?_, by omega⟩
        · unfold PutD.bulk at hbs; omega
        · unfold PutD.bulk at hbs; omega
      have HU : Hid (Bs w u p.raw ∧ p.Ok) := ⟨hu, hpok⟩
      have HC : Hid (PutC w b (o + i * 7) p u) := hC
      have hPk := pick_any p.on 2 hpok.on0 hpok.on1 (by omega) wr
      rw [hon] at hPk
      generalize sel (ps.take i) = A at hI HS HL
      obtain ⟨c0, c1, c2, c3, c4, c5, c6'⟩ := put_start hC hI.keep
      have hLn := lent_any u p.raw wr (hu.keep hI.keep (Off.nil _)) (by have := HL.out.2.1; omega)
      have HI : Hid (InvW w wr gw gt v t A A) := hI
      clear hA hpok htk hbs hbt hbk hsl c6 hu hC hon hat hI
      go_wp2_with (first
        | (go_at_call 10; refine hPk.mono ?_; rintro e3 w3 ⟨rfl, hw3⟩; obtain rfl := hw3.symm)
        | (go_at_call 11; refine hLn.mono ?_; rintro e5 w5 ⟨v5, rfl, L5, F5, K5⟩))
      clear c0 c1 c2 c3 c4 c5 c6' hPk hLn
      have HI5 : Hid (InvW w w5 gw gt v t A A) := HI.out.same K5
      have HL5 : Hid (Lent w5 v5 p.raw ∧ Fresh wr w5 v5) := ⟨L5, F5⟩
      obtain ⟨c0, c1, c2, c3, c4, c5, c6⟩ := put_start HC.out HI5.out.keep
      have hoi0 : (0 : Int) ≤ (oi : Int) := by omega
      have hoi1 : (oi : Int) < 2 := by omega
      clear L5 F5 K5
      go_region_held3 (fun w' => w'.cell? ⟨b, o + i * 7, none⟩ = some (.int .i64 p.on) ∧ w'.cell? ⟨b, o + i * 7 + 1, none⟩ = some (.int .i64 p.kind) ∧ w'.cell? ⟨b, o + i * 7 + 2, none⟩ = some (.int .u64 (p.uint : Int)) ∧ w'.cell? ⟨b, o + i * 7 + 3, none⟩ = some (.int .i64 p.int) ∧ w'.cell? ⟨b, o + i * 7 + 4, none⟩ = some (.float .f32 p.real) ∧ w'.cell? ⟨b, o + i * 7 + 5, none⟩ = some (.string p.text) ∧ w'.cell? ⟨b, o + i * 7 + 6, none⟩ = some u)
        (first | exact put_start HC.out (Keep.drew HI5.out.keep) | exact put_start HC.out (writes_keep HI5.out hoi W6))
        (first
          | (go_at_call 12; refine (write2_any gw oi (A oi) (v oi).ownBlock p HU.out.2 u _ _ ((HI5.out.same ((Keep.refl [] _).drew)).dw.wr2 oi hoi) (HL5.out.1.bs2.keep ((Keep.refl [] _).drew) (Off.nil _)) (by have := HL.out.1 oi; omega)).mono ?_; rintro e6 w6 ⟨rfl, W6⟩))
      rename_i hH
      clear hH c0 c1 c2 c3 c4 c5 c6
      obtain ⟨v', I6, hft6, K6⟩ := (HI5.out.same ((Keep.refl [] _).drew)).write oi hoi p.bytes W6
      have L6 : Lent w6 v5 p.raw := (HL5.out.1.keep2 ((Keep.refl [] _).drew) (Off.nil _)).keep2 K6 (fun x hx hm => by
        have h1 := (HL5.out.2 x hx).1
        have h2 := HI.out.dw.lt x (foot_of hoi hm)
        omega)
      have HV5 : Hid (∀ x ∈ v5.ownBlock.toList, w.heap.size ≤ x ∧ ¬ Duo.foot gw v' x ∧ ¬ Duo.foot gt t x) := by
        intro x hx
        have h1 := HL5.out.2 x (by simpa using hx)
        have h0 := HI.out.keep.size
        refine ⟨by omega, fun hf => ?_, fun hf => ?_⟩
        · rcases hft6 x hf with h2 | h2
          · have := HI.out.dw.lt x h2
            omega
          · have h3 : w5.heap.size ≤ x := h2.1
            omega
        · have := HI.out.dt.lt x hf
          omega
      have HI6 : Hid (InvW w w6 gw gt v' t (upd A oi (A oi ++ p.bytes)) A) := I6
      obtain ⟨c0, c1, c2, c3, c4, c5, c6⟩ := put_start HC.out I6.keep
      have HL6 : Hid (Lent w6 v5 p.raw) := L6
      clear W6 K6 hft6 HI5 HL5 HI I6 L6
      go_wp2_with (first
        | (go_at_call 12; refine (write_none p HU.out.2 u _ _).mono ?_; rintro e7 w7 ⟨rfl, K7⟩; have hc7 := (put_start HC.out (HI6.out.keep.trans' K7)).2.2.2.2.2.2)
        | (go_at_call 13; refine (kept_any v5 u p.raw _ (HL6.out.keep2 K7 (Off.nil _)) (HU.out.1.keep (HI6.out.keep.trans' K7) (Off.nil _)) (by have := HL.out.2.1; omega)).mono ?_; rintro e8 w8 ⟨rfl, n8, rfl⟩)
        | (go_at_call 14; refine (over_any v5 p.raw _ ((HL6.out.keep2 K7 (Off.nil _)).keep2 ((Keep.refl [] _).drewN n8) (Off.nil _)) (by have := HL.out.2.1; omega)).mono ?_; rintro e9 w9 ⟨rfl, K9⟩; have I9 := ((HI6.out.same K7).same ((Keep.refl [] _).drewN n8)).keepF K9 HV5.out; obtain ⟨d0, d1, d2, d3, d4, d5, d6⟩ := put_start HC.out I9.keep)
        | (go_at_call 15; refine (bytes_any p HU.out.2 u _ (HU.out.1.keep I9.keep (Off.nil _)) (by have := HL.out.2.2.1; omega)).mono ?_; rintro e10 w10 ⟨v10, rfl, B10, K10, F10⟩))
      have I10 := I9.same K10
      have HO : Hid (p.bytes ≠ [] → ∀ x, v10.ownBlock = some x → ¬ Duo.foot gt t x) := by
        intro hne x hx hf
        rcases F10 with F10 | rfl
        · have h1 := (F10 x hx).1
          have h2 := I9.dt.lt x hf
          omega
        · have h1 := I9.nt x hf
          have hraw : p.raw ≠ [] := by
            obtain ⟨_, _, e1, _⟩ := B10.ex
            obtain ⟨_, _, e2, _⟩ := HU.out.1.ex
            rw [e1] at e2
            simp at e2
            intro hz
            rw [hz] at e2
            exact hne (List.eq_nil_of_length_eq_zero (by simpa using e2.2.1))
          have h2 := HU.out.1.lt hraw x hx
          omega
      have HI10 : Hid (InvW w w10 gw gt v' t (upd A oi (A oi ++ p.bytes)) A ∧ Bs w10 v10 p.bytes) := ⟨I10, B10⟩
      obtain ⟨a10, c10, rfl, hc10, hc10m, _, _⟩ := B10.ex
      have hpl : p.bytes.length ≤ 1073741824 := HL.out.2.2.2
      clear c0 c1 c2 c3 c4 c5 c6 d0 d1 d2 d3 d4 d5 d6 I9 I10 K9 K10 K7 hc7 B10 F10 HV5 HI6 HL6
      go_loopw [10] (fun kv wr => ∃ (k : Nat) (t' : Nat → Value), kv = .int .i64 (k : Int) ∧ k ≤ p.bytes.length ∧ InvW w wr gw gt v' t' (upd A oi (A oi ++ p.bytes)) (upd A oi (A oi ++ p.bytes.take k)) ∧ Bs wr (.slice a10 p.bytes.length c10) p.bytes ∧ (p.bytes ≠ [] → ∀ x, (Value.slice a10 p.bytes.length c10).ownBlock = some x → ¬ Duo.foot gt t' x)) (fun kv _ => p.bytes.length - (intOf kv).toNat)
      case atStart => exact ⟨0, t, rfl, Nat.zero_le _, by rw [List.take_zero, List.append_nil, upd_self]; exact HI10.out.1, HI10.out.2, HO.out⟩
      case round =>
        obtain ⟨k, t', rfl, hk, hJ, hB, hO⟩ := hrel
        clear HI10 HO
        by_cases hkl : k < p.bytes.length
        · have hkli : (k : Int) < (p.bytes.length : Int) := by omega
          have hne : p.bytes ≠ [] := by intro hz; rw [hz] at hkl; simp at hkl
          obtain ⟨b10, o10, rfl, hcell⟩ : ∃ b10 o10, a10 = some ⟨b10, o10, none⟩ ∧ ∀ j, j < p.bytes.length → wr.cell? ⟨b10, o10 + j, none⟩ = some (.int .u8 ((p.bytes.getD j 0).toNat : Int)) := by
            obtain ⟨ao, cap, e, _, _, _, h4⟩ := hB.ex
            obtain ⟨b10, o10, h5, h6⟩ := h4 hne
            simp at e
            exact ⟨b10, o10, e.1.trans h5, h6⟩
          have hOff := hO hne b10 rfl
          have hcb := hcell k hkl
          have htk := take_snoc p.bytes k hkl
          have hct := hJ.dt.c oi hoi
          have hfr := hJ.dt.f oi hoi
          have hrow := hJ.dt.R oi hoi
          rw [upd_same] at hrow
          have hbl : (A oi ++ p.bytes.take k).length + 1 ≤ 140737488355328 := by
            have h1 := HL.out.1 oi
            have h2 := p.bytes_len HU.out.2
            simp only [List.length_append, List.length_take]
            omega
          generalize p.bytes.getD k 0 = x at hcb htk
          have HTK : Hid (A oi ++ p.bytes.take (k + 1) = (A oi ++ p.bytes.take k) ++ [x]) := by
            show A oi ++ p.bytes.take (k + 1) = (A oi ++ p.bytes.take k) ++ [x]
            rw [htk, List.append_assoc]
          have HJ : Hid (InvW w wr gw gt v' t' (upd A oi (A oi ++ p.bytes)) (upd A oi (A oi ++ p.bytes.take k)) ∧ Bs wr (.slice (some ⟨b10, o10, none⟩) p.bytes.length c10) p.bytes ∧ (∀ y, (Value.slice (some ⟨b10, o10, none⟩) p.bytes.length c10).ownBlock = some y → ¬ Duo.foot gt t' y)) := ⟨hJ, hB, hO hne⟩
          have HBL : Hid ((A oi ++ p.bytes.take k).length + [x].length ≤ 140737488355328) := hbl
          have HR : Hid (Row wr (t' oi) (A oi ++ p.bytes.take k)) := hrow
          generalize hA2 : A oi ++ p.bytes.take k = A2 at HBL HR HTK
          obtain ⟨tv, htv⟩ : ∃ tv, t' oi = tv := ⟨_, rfl⟩
          rw [htv] at hct HR
          have hgt : gt ∉ tv.ownBlock.toList := by
            rw [← htv]
            intro hm
            exact hJ.dt.n oi hoi (by simpa using hm)
          have hgl : gt < wr.heap.size := hJ.dt.lt gt (.inl rfl)
          clear hJ hB hO hcell htk hrow hbl hOff
          go_wp2
          go_region_law (refine step_app rfl (.tmp 70) (.tmp 75) 24 24 rfl underS tv A2 rfl ((HR.out.keep (Keep.alloc1 wr _) (Off.nil _)).keep ((Keep.refl [] _).drew) (Off.nil _)) _ [x] rfl ((Bs.byte wr x).keep ((Keep.refl [] _).drew) (Off.nil _)).src HBL.out ?_; intro v9 w9 R9 K9 F9 S9; obtain ⟨a9, c9, rfl⟩ := S9; have hct9 := K9.cell' (p := ⟨gt, oi, none⟩) (((Keep.alloc1 wr _).drew).cell' hct (by simp)) hgt; have hfr9 := (K9.frozen (p := ⟨gt, oi, none⟩) (Nat.lt_of_lt_of_le hgl ((Keep.alloc1 wr _).drew).size) hgt).trans ((((Keep.alloc1 wr _).drew).frozen (p := ⟨gt, oi, none⟩) hgl (by simp)).trans hfr))
          all_goals
            have HX : Hid (∃ t2, InvW w (w9.setCell ⟨gt, oi, none⟩ (.slice a9 (A2.length + 1) c9)) gw gt v' t2 (upd A oi (A oi ++ p.bytes)) (upd A oi (A oi ++ p.bytes.take (k + 1))) ∧ Bs (w9.setCell ⟨gt, oi, none⟩ (.slice a9 (A2.length + 1) c9)) (.slice (some ⟨b10, o10, none⟩) p.bytes.length c10) p.bytes ∧ (p.bytes ≠ [] → ∀ x, (Value.slice (some ⟨b10, o10, none⟩) p.bytes.length c10).ownBlock = some x → ¬ Duo.foot gt t2 x)) := by
              have W9 : Wrote2 (1 - oi) (t' (1 - oi)) wr (w9.setCell ⟨gt, oi, none⟩ (.slice a9 (A2.length + 1) c9)) gt oi (upd A oi (A oi ++ p.bytes.take k) oi) [x] (t' oi).ownBlock := by
                refine HJ.out.1.dt.app (ob := .cells #[.int .u8 (x.toNat : Int)] 5) oi hoi [x] ?_ ?_ ?_
                · rw [upd_same, hA2]; exact R9
                · rw [htv]; exact ((Keep.refl _ _).drew).trans' K9
                · rw [htv]; exact F9
              obtain ⟨t2, I2, hft⟩ := HJ.out.1.want oi hoi [x] W9
              rw [upd_upd, upd_same, hA2, ← HTK.out] at I2
              obtain ⟨_, _, hkk, _⟩ := W9
              refine ⟨t2, I2, HJ.out.2.1.keep hkk (fun y hy hm => HJ.out.2.2 y hy (foot_of hoi hm)), fun _ y hy hf => ?_⟩
              rcases hft y hf with h1 | h1
              · exact HJ.out.2.2 y hy h1
              · have := HJ.out.2.1.lt hne y hy
                omega
            clear R9 K9 F9 hct9 hfr9 hct hfr hcb
            go_wp2
            go_roundw
            case rel =>
              obtain ⟨t2, h1, h2, h3⟩ := HX.out
              exact ⟨k + 1, t2, by go_num, by omega, h1, h2, h3⟩
            case measure => simp [intOf]; omega
        · have hkli : ¬ ((k : Int) < (p.bytes.length : Int)) := by omega
          rw [List.take_of_length_le (by omega), ← HS.out] at hJ
          have hi4 : (i + 1) ≤ 67108864 := by omega
          have HJ : Hid (InvW w wr gw gt v' t' (sel (ps.take (i + 1))) (sel (ps.take (i + 1)))) := hJ
          have hbl : ((sel (ps.take (i + 1))) oi).length ≤ 140737488355328 := by
            rw [HS.out, upd_same, List.length_append]
            have h1 := HL.out.1 oi
            have h2 := p.bytes_len HU.out.2
            omega
          have hBy : ∀ w5, Keep [] wr w5 → Calls Try.prog 17 #[.pointer (some ⟨gw, oi, none⟩)] w5 fun e w' => ∃ v', e = .returned v' ∧ Row w' v' (sel (ps.take (i + 1)) oi) ∧ Fresh w5 w' v' ∧ Keep [] w5 w' ∧ Sl v' (sel (ps.take (i + 1)) oi).length := fun w5 k5 => wBytes_any gw oi _ _ w5 ((HJ.out.same k5).dw.wr2 oi hoi).wr hbl
          have hct := hJ.dt.c oi hoi
          obtain ⟨tv, htv⟩ : ∃ tv, t' oi = tv := ⟨_, rfl⟩
          rw [htv] at hct
          have HTV : Hid (Row wr tv (sel (ps.take (i + 1)) oi)) := by
            show Row wr tv (sel (ps.take (i + 1)) oi)
            rw [← htv]
            exact hJ.dt.R oi hoi
          clear hJ hB hO HL HU HC HS
          by_cases hm : i % 4 = 3
          · have hmi : (((i : Int) % 4) == 3) = true := by simp only [beq_iff_eq]; omega
            have hmi2 : ((i : Int).tmod 4 == 3) = true := by
              have e : (i : Int).tmod 4 = ((i % 4 : Nat) : Int) := rfl
              rw [e, hm]
              rfl
            go_wp2
            go_region_held3 (fun w' => w'.cell? ⟨gt, oi, none⟩ = some tv ∧ Keep [] wr w')
              (first | exact held_start (by assumption) | exact held_call (by assumption) (by assumption))
              (first
                | (go_at_call 17; refine (hBy _ (And.right (by assumption))).mono ?_; rintro e6 w6 ⟨v6, rfl, R6, F6, K6, S6⟩)
                | (go_at_call 16; refine (same_keep2 _ _ (sel (ps.take (i + 1)) oi) _ R6 (HTV.out.bs.keep (And.right (by assumption)) (Off.nil _))).mono ?_; rintro e7 w7 ⟨rfl, K7⟩))
            rename_i hH
            have HJ6 : Hid (InvW w w7 gw gt v' t' (sel (ps.take (i + 1))) (sel (ps.take (i + 1)))) := HJ.out.same hH.2
            clear hH R6 F6 K6 K7 S6 hBy
            go_wp2
            go_roundw
            case rel => exact ⟨i + 1, v', t', by go_num, by omega, HJ6.out⟩
            case measure => simp [intOf]; omega
          · have hmi : (((i : Int) % 4) == 3) = false := by simp only [beq_eq_false_iff_ne]; omega
            have hmi2 : ((i : Int).tmod 4 == 3) = false := by
              have e : (i : Int).tmod 4 = ((i % 4 : Nat) : Int) := rfl
              rw [e]
              simp only [beq_eq_false_iff_ne]
              omega
            clear hBy
            go_wp2
            go_quiet (fail)
            go_wp2
            go_roundw
            case rel => exact ⟨i + 1, v', t', by go_num, by omega, HJ.out.same ((Keep.refl [] _).drewN _)⟩
            case measure => simp [intOf]; omega
    · have hili : ¬ ((i : Int) < (ps.length : Int)) := by omega
      rw [List.take_of_length_le (by omega)] at hI
      have hsl := fun k => sel_len ps HP.out.1 k
      have hbk := HP.out.2
      have HI : Hid (InvW w wr gw gt v t (sel ps) (sel ps)) := hI
      have hB0 : ∀ w5, Keep [] wr w5 → Calls Try.prog 17 #[.pointer (some ⟨gw, 0, none⟩)] w5 fun e w' => ∃ v', e = .returned v' ∧ Row w' v' (sel ps 0) ∧ Fresh w5 w' v' ∧ Keep [] w5 w' ∧ Sl v' (sel ps 0).length := fun w5 k5 => wBytes_any gw 0 _ _ w5 ((HI.out.same k5).dw.wr2 0 (by omega)).wr (by have := hsl 0; omega)
      have hB1 : ∀ w5, Keep [] wr w5 → Calls Try.prog 17 #[.pointer (some ⟨gw, 1, none⟩)] w5 fun e w' => ∃ v', e = .returned v' ∧ Row w' v' (sel ps 1) ∧ Fresh w5 w' v' ∧ Keep [] w5 w' ∧ Sl v' (sel ps 1).length := fun w5 k5 => wBytes_any gw 1 _ _ w5 ((HI.out.same k5).dw.wr2 1 (by omega)).wr (by have := hsl 1; omega)
      have hc0 := hI.dt.c 0 (by omega)
      have hc1 := hI.dt.c 1 (by omega)
      have HR : Hid (Row wr (t 0) (sel ps 0) ∧ Row wr (t 1) (sel ps 1)) := ⟨hI.dt.R 0 (by omega), hI.dt.R 1 (by omega)⟩
      generalize t 0 = t0 at hc0 HR
      generalize t 1 = t1 at hc1 HR
      clear hI hsl hbk
      go_wp2
      go_region_held3 (fun w' => w'.cell? ⟨gt, 0, none⟩ = some t0 ∧ w'.cell? ⟨gt, 1, none⟩ = some t1 ∧ Keep [] wr w')
        (first | exact held2_start (by assumption) (by assumption) | exact held2_call (by assumption) (by assumption) | assumption)
        (first
          | (go_at_call_of 17 (Addr.mk gw 0 none); refine (hB0 _ (And.right (And.right (by assumption)))).mono ?_; rintro e6 w6 ⟨v6, rfl, R6, F6, K6, S6⟩)
          | (go_at_call_of 17 (Addr.mk gw 1 none); refine (hB1 _ (And.right (And.right (by assumption)))).mono ?_; rintro e8 w8 ⟨v8, rfl, R8, F8, K8, S8⟩)
          | (go_at_call_of 17 (Value.pointer none); refine (wBytes_none _).mono ?_; rintro e10 w10 ⟨rfl, hw10⟩; obtain rfl := hw10.symm)
          | (go_at_call_of 16 v8; refine (same_keep2 _ _ (sel ps 1) _ R8 (HR.out.2.bs.keep (And.right (And.right (by assumption))) (Off.nil _))).mono ?_; rintro e9 w9 ⟨rfl, K9⟩)
          | (go_at_call_of 16 v6; refine (same_keep2 _ _ (sel ps 0) _ R6 (HR.out.1.bs.keep (And.right (And.right (by assumption))) (Off.nil _))).mono ?_; rintro e7 w7 ⟨rfl, K7⟩)
          | (go_at_call 18; refine (awake_any _).mono ?_; rintro e11 w11 ⟨rfl, K11⟩))
      rename_i hH
      have HK : Hid (Below w.heap.size w w11) := (HI.out.keep.trans' hH.2.2).below
      clear hH R6 F6 K6 S6 K7 R8 F8 K8 S8 K9 K11 hB0 hB1 HI
      go_wp2
      go_ret
      exact ⟨rfl, HK.out⟩

end Go.Proofs.Ytcmembmaaebdeaa
