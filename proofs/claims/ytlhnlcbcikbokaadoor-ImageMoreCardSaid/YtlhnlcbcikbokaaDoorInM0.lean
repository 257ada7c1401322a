import Derived.Test.YtlhnlcbcikbokaaDoorInB
import Derived.Test.YtlhnlcbcikbokaaDoorBase
set_option linter.unusedVariables false
set_option linter.unusedSimpArgs false
set_option linter.unusedSectionVars false
set_option maxRecDepth 100000
namespace Go.Proofs.YtlhnlcbcikbokaaDoor
open Go.Lift
theorem lim_eq:lim=68719476736:=rfl
theorem maxLen_eq:maxLen=9223372036854775807:=by decide
theorem big_lt {n:Nat} (h:n≤maxLen):n < big:=by
 have:maxLen < big:=by decide
 omega
theorem b11:Nat.ble 1 1=true:=rfl
theorem ble_lim {n:Nat} (h:n≤68719476736):Nat.ble n lim=true:=Nat.ble_eq_true_of_le h
def join2 (acc:List Int) (x:List Int) (k:List Int→Option (List Int)):Option (List Int):=if acc.length+x.length≤68719476736 then k (acc++x) else none
theorem fold2:∀ (xs:List (List Int)) (acc:List Int),acc.length+xs.flatten.length≤68719476736→foldC (fun x s k=>join2 s x k) some xs acc=some (acc++xs.flatten)
 | [],acc,_=>by simp [foldC]
 | x::r,acc,h=>by
  simp only [List.flatten_cons,List.length_append] at h
  show join2 acc x (foldC (fun x s k=>join2 s x k) some r)=_
  rw [join2,if_pos (by omega),fold2 r (acc++x) (by rw [List.length_append];omega)]
  simp
theorem joined_loop (xs:List (List Int)) (hx:xs.length≤maxLen) (mk:(α:Type)→Nat→α→List α) (self0) (acc:List Int) (h:acc.length+xs.flatten.length≤68719476736) :
  iterV (gwire_joined_1 mk big self0) big (xs,(xs.length:Int),(0:Int),acc)=some (acc++xs.flatten):=by
 rw [← fold2 xs acc h]
 refine range_run (xs:=xs) (fun (s:List Int) i=>(xs,(xs.length:Int),(i:Int),s)) (fun x s k=>join2 s x k) some ?_ ?_ xs.length 0 big (by omega) (big_lt hx) acc
 ·intro self s
  simp [gwire_joined_1,hwire_joined_1]
 ·intro self s i hi
  have h1:decide ((i:Int) < (xs.length:Int))=true:=by simp;omega
  simp only [gwire_joined_1,hwire_joined_1,h1,cond_true,getI_at hi,Option.bind_some,wrap_succ hi hx,join2]
  by_cases hl:s.length+(xs[i]).length≤68719476736
  ·rw [if_pos hl]
   have:Nat.ble (s.length+(xs[i]).length) lim=true:=Nat.ble_eq_true_of_le (by rw [lim_eq];exact hl)
   simp [this,b11]
  ·rw [if_neg hl]
   have:Nat.ble (s.length+(xs[i]).length) lim=false:=by
    cases hb:Nat.ble (s.length+(xs[i]).length) lim with
    | false=>rfl
    | true=>exact absurd (Nat.le_of_ble_eq_true hb) (by rw [lim_eq];exact hl)
   simp [this]
theorem fold1 (fin:Int→Option (List Int)):∀ (xs:List (List Int)) (s:Nat),s+xs.flatten.length≤68719476736→foldC (fun (x:List Int) (s:Int) k=>k (IntKind.i64.wrap (s+(x.length:Int)))) fin xs (s:Int)=fin ((s+xs.flatten.length:Nat):Int)
 | [],s,_=>by simp [foldC]
 | x::r,s,h=>by
  simp only [List.flatten_cons,List.length_append] at h
  simp only [foldC]
  rw [wrap_i64 (by omega) (by omega)]
  have:=fold1 fin r (s+x.length) (by omega)
  rw [Int.natCast_add] at this
  rw [this]
  congr 2
  simp
  omega
theorem joined_eq (xs:List (List Int)) (hx:xs.length≤maxLen) (h:xs.flatten.length≤68719476736):cwire_joined xs=some xs.flatten:=by
 show iterV (gwire_joined_0 (fun _=>List.replicate) big) big (xs,(0:Int),xs,(xs.length:Int),(0:Int))=some xs.flatten
 have key:=range_run (xs:=xs) (g:=gwire_joined_0 (fun _=>List.replicate) big) (fun (s:Int) i=>(xs,s,xs,(xs.length:Int),(i:Int))) (fun (x:List Int) (s:Int) k=>k (IntKind.i64.wrap (s+(x.length:Int))))
  (fun s=>if 0≤s∧s≤68719476736 then some xs.flatten else none) ?_ ?_ xs.length 0 big (by omega) (big_lt hx) 0
 ·refine key.trans ?_
  have:=fold1 (fun s=>if 0≤s∧s≤68719476736 then some xs.flatten else none) xs 0 (by omega)
  rw [List.drop_zero]
  refine this.trans ?_
  rw [if_pos (by omega)]
 ·intro self s
  have h1:decide ((xs.length:Int) < (xs.length:Int))=false:=by simp
  simp only [gwire_joined_0,hwire_joined_0,h1,cond_false]
  have:=joined_loop xs hx (fun _=>List.replicate) self [] (by simpa using h)
  by_cases hs:0≤s∧s≤68719476736
  ·rw [if_pos hs]
   simpa [hs.1,hs.2] using this
  ·rw [if_neg hs]
   by_cases h0:0≤s
   ·have:¬ s≤68719476736:=fun hh=>hs ⟨h0,hh⟩
    simp [h0,this]
   ·simp [h0]
 ·intro self s i hi
  have h1:decide ((i:Int) < (xs.length:Int))=true:=by simp;omega
  simp only [gwire_joined_0,hwire_joined_0,h1,cond_true,getI_at hi,Option.bind_some,wrap_succ hi hx]
theorem joined1 (x:List Int) (h:x.length≤68719476736):cwire_joined [x]=some x:=by
 have:=joined_eq [x] (by simp [maxLen_eq]) (by simpa using h)
 simpa using this
theorem joined2 (x y:List Int) (h:x.length+y.length≤68719476736):cwire_joined [x,y]=some (x++y):=by
 have:=joined_eq [x,y] (by simp [maxLen_eq]) (by simpa using h)
 simpa using this
def varyF:Nat→Nat→List Int
 | 0,n=>[(n:Int)]
 | k+1,n=>if n < 128 then [(n:Int)] else ((n % 128+128:Nat):Int)::varyF k (n / 128)
def vary (n:Nat):List Int:=varyF 9 n
theorem varyF_len:∀ (k n:Nat),1≤(varyF k n).length∧(varyF k n).length≤k+1
 | 0,n=>by simp [varyF]
 | k+1,n=>by
  simp only [varyF]
  split
  ·simp
  ·have:=varyF_len k (n / 128)
   simp;omega
theorem vary_len (n:Nat):1≤(vary n).length∧(vary n).length≤10:=varyF_len 9 n
theorem or128 (n:Nat):(n % 256) ||| 128=n % 128+128:=by
 have h:∀ m,m < 256→m ||| 128=m % 128+128:=by decide +kernel
 rw [h _ (Nat.mod_lt _ (by decide))]
 omega
theorem vary_loop:∀ (k N n last:Nat) (ds:List Int),last+k=9→ds.length=10→n < 128 ^ (k+1)→k < N→n < 18446744073709551616→iterV (gwire_Vary_0 big) N ((n:Int),(last:Int),ds)=some (ds.take last++varyF k n)
 | k,0,n,last,ds,_,_,_,h,_=>by omega
 | k,N+1,n,last,ds,hl,hd,hn,hN,h64=>by
  rw [iterV_succ]
  simp only [gwire_Vary_0,hwire_Vary_0]
  have hc:(decide ((0:Int)≤(last:Int))&&decide ((last:Int) < (10:Int)))=true:=by simp;omega
  have hw:IntKind.i64.wrap ((last:Int)+1)=((last+1:Nat):Int):=by rw [wrap_i64 (by omega) (by omega)];simp
  have hset:∀ x:Int,(List.set ds last x).take (last+1)=ds.take last++[x]:=by
   intro x
   exact take_set_self ds last x (by omega)
  by_cases h:n < 128
  ·have h1:decide ((n:Int)≥(128:Int))=false:=by simp;omega
   have hv:IntKind.u8.wrap (n:Int)=(n:Int):=by rw [wrap_u8];omega
   have hc2:(decide ((0:Int)≤((last+1:Nat):Int))&&decide (((last+1:Nat):Int)≤((List.set ds last (n:Int)).length:Int)))=true:=by simp;omega
   simp only [h1,cond_false,hc,cond_true,hw,hv,Int.toNat_natCast,hc2,hset]
   rw [joined1 _ (by simp;omega)]
   have:varyF k n=[(n:Int)]:=by cases k <;> simp [varyF,h]
   simp [this]
  ·have h1:decide ((n:Int)≥(128:Int))=true:=by simp;omega
   cases k with
   | zero=>simp at hn;omega
   | succ k=>
    have hv:bits .or .u8 (IntKind.u8.wrap (n:Int)) (128:Int)=((n % 128+128:Nat):Int):=by
     have:IntKind.u8.wrap (n:Int)=((n % 256:Nat):Int):=by rw [wrap_u8];simp
     rw [this,← or128]
     exact bits_or (b:=128) rfl (Nat.mod_lt _ (by decide)) (by decide)
    simp only [h1,cond_true,hc,hw,hv,Int.toNat_natCast]
    rw [fdiv_nat n 7,vary_loop k N (n / 2 ^ 7) (last+1) _ (by omega) (by simpa using hd) (by rw [Nat.pow_succ] at hn;omega) (by omega) (by omega),hset]
    simp [varyF,h]
theorem vary_eq (n:Nat) (h:n < 18446744073709551616):cwire_Vary (n:Int)=some (vary n):=by
 have:=vary_loop 9 big n 0 (List.replicate 10 0) rfl (by simp) (by simp;omega) (by decide) h
 rw [List.take_zero,List.nil_append] at this
 exact this
theorem text_eq (s:List Int):cwire_Text s=some (if s.length > 200000 then ([],4) else (vary s.length++s,0)):=by
 simp only [cwire_Text,mwire_Text,nwire_Text]
 by_cases h:s.length > 200000
 ·have h1:decide ((s.length:Int) > (200000:Int))=true:=by simp;omega
  simp [h1,h]
 ·have h1:decide ((s.length:Int) > (200000:Int))=false:=by simp;omega
  have hw:IntKind.u64.wrap (s.length:Int)=((s.length:Nat):Int):=by rw [wrap_u64];omega
  have hv:=vary_len s.length
  simp only [h1,cond_false,hw,vary_eq s.length (by omega),Option.bind_some,joined2 _ _ (show (vary s.length).length+s.length≤68719476736 by omega),if_neg h]
abbrev Cur:=List Int×Int×Unit
def Valid (c:Cur):Prop:=c.1.length≤200000∧0≤c.2.1∧c.2.1≤c.1.length
instance (c:Cur):Decidable (Valid c):=by unfold Valid;infer_instance
def Fits (n w:Nat):Prop:=w=8∨n < 256 ^ w
def dbl (x:Int):Nat:=if x < 0 then (-2 * x - 1).toNat else (2 * x).toNat
def half (n:Nat):Int:=if n % 2=1 then -1 - ((n / 2:Nat):Int) else ((n / 2:Nat):Int)
theorem dbl_lt {x:Int} (h0 : -9223372036854775808≤x) (h1:x≤9223372036854775807):dbl x < 18446744073709551616:=by
 unfold dbl
 split <;> omega
theorem or_one {m:Nat}:(2 * m) ||| 1=2 * m+1:=by
 have:=or_high (a:=1) (b:=m) (i:=1) (by decide)
 rw [Nat.or_comm,Nat.mul_comm]
 simpa [Nat.add_comm] using this
theorem signed_eq (x:Int) (h0 : -9223372036854775808≤x) (h1:x≤9223372036854775807):cwire_Signed x=some (vary (dbl x)):=by
 simp only [cwire_Signed,mwire_Signed,nwire_Signed]
 have hd:=dbl_lt h0 h1
 by_cases h:x < 0
 ·have g:decide (x < (0:Int))=true:=decide_eq_true h
  have e0:(if IntKind.signed .i64 then (-1:Int) else IntKind.max .i64) = -1:=rfl
  have e1:IntKind.u64.wrap (-1 - x)=((-1 - x).toNat:Int):=by rw [wrap_u64];omega
  have e2:IntKind.u64.wrap ((((-1 - x).toNat:Nat):Int) * 2 ^ 1)=((2 * (-1 - x).toNat:Nat):Int):=by rw [wrap_u64];omega
  have e3:bits .or .u64 ((2 * (-1 - x).toNat:Nat):Int) (1:Int)=((dbl x:Nat):Int):=by
   have:=bits_or (k:=.u64) (a:=2 * (-1 - x).toNat) (b:=1) rfl (by rw [show (2:Nat) ^ IntKind.u64.bits=18446744073709551616 by decide];omega) (by decide)
   rw [show ((1:Nat):Int)=1 from rfl] at this
   rw [this,or_one]
   congr 1
   unfold dbl
   rw [if_pos h]
   omega
  simp only [g,cond_true,e0,bits_not x h0 h1,e1,e2,e3,vary_eq _ hd,Option.bind_some]
 ·have g:decide (x < (0:Int))=false:=decide_eq_false h
  have e1:IntKind.u64.wrap x=(x.toNat:Int):=by rw [wrap_u64];omega
  have e2:IntKind.u64.wrap (((x.toNat:Nat):Int) * 2 ^ 1)=((dbl x:Nat):Int):=by
   rw [wrap_u64]
   unfold dbl
   rw [if_neg h]
   omega
  simp only [g,cond_false,e1,e2,vary_eq _ hd,Option.bind_some]
def begins (a b:List Int):Bool:=decide (b.length≤a.length∧a.take b.length=b)
theorem vary_bytesF:∀ (k n:Nat),n < 128 ^ (k+1)→Bytes (varyF k n)
 | 0,n,h=>by intro c hc;simp [varyF] at hc;omega
 | k+1,n,h=>by
  intro c hc
  simp only [varyF] at hc
  split at hc
  ·simp at hc;omega
  ·rcases List.mem_cons.1 hc with rfl | hc
   ·omega
   ·exact vary_bytesF k (n / 128) (by rw [Nat.pow_succ] at h;omega) c hc
theorem vary_bytes {n:Nat} (h:n < 18446744073709551616):Bytes (vary n):=vary_bytesF 9 n (by simp;omega)
theorem bytes_append {a b:List Int} (ha:Bytes a) (hb:Bytes b):Bytes (a++b):=fun c hc=>(List.mem_append.1 hc).elim (ha c) (hb c)
theorem tmod_nat (n k:Nat):(n:Int).tmod (k:Int)=((n % k:Nat):Int):=by
 rw [Int.tmod_eq_emod_of_nonneg (by omega)];simp
theorem tdiv_nat (n k:Nat):(n:Int).tdiv (k:Int)=((n / k:Nat):Int):=by
 rw [Int.tdiv_eq_ediv_of_nonneg (by omega)];simp
theorem minimal_loop:∀ (k N n:Nat) (b:List Int),n < 128 ^ (k+1)→k≤9→k < N→b.length+k≤100→n < 18446744073709551616→iterV (gref02_Minimal_0 big) N ((n:Int),b)=some (b++varyF k n)
 | k,0,_,_,_,_,h,_,_=>by omega
 | k,N+1,n,b,hn,hk,hN,hb,h64=>by
  rw [iterV_succ]
  by_cases h:n < 128
  ·have g:decide ((n:Int)≥(128:Int))=false:=decide_eq_false (by omega)
   have e1:IntKind.u8.wrap (n:Int)=(n:Int):=by rw [wrap_u8];omega
   have e4:(Nat.ble 1 1&&Nat.ble (List.length b+List.length [(n:Int)]) lim)=true:=by
    rw [b11,ble_lim (by simp only [List.length_cons,List.length_nil];omega)];rfl
   have e5:varyF k n=[(n:Int)]:=by cases k <;> simp [varyF,h]
   simp only [gref02_Minimal_0,href02_Minimal_0,g,cond_false,e1,e4,cond_true,e5]
   rfl
  ·cases k with
   | zero=>simp at hn;omega
   | succ k=>
    have g:decide ((n:Int)≥(128:Int))=true:=decide_eq_true (by omega)
    have e1:IntKind.u8.wrap ((n:Int).tmod 128)=((n % 128:Nat):Int):=by
     rw [show (128:Int)=((128:Nat):Int) from rfl,tmod_nat,wrap_u8];omega
    have e2:IntKind.u8.wrap (((n % 128:Nat):Int)+128)=((n % 128+128:Nat):Int):=by rw [wrap_u8];omega
    have e3:IntKind.u64.wrap ((n:Int).tdiv 128)=((n / 128:Nat):Int):=by
     rw [show (128:Int)=((128:Nat):Int) from rfl,tdiv_nat,wrap_u64];omega
    have e4:(Nat.ble 1 1&&Nat.ble (List.length b+List.length [((n % 128+128:Nat):Int)]) lim)=true:=by
     rw [b11,ble_lim (by simp only [List.length_cons,List.length_nil];omega)];rfl
    simp only [gref02_Minimal_0,href02_Minimal_0,g,cond_true,e1,e2,e3,e4]
    rw [minimal_loop k N (n / 128) _ (by rw [Nat.pow_succ] at hn;omega) (by omega) (by omega) (by simp only [List.append_eq,List.length_append,List.length_cons,List.length_nil];omega) (by omega)]
    simp [varyF,h]
theorem minimal_eq (n:Nat) (h:n < 18446744073709551616):cref02_Minimal (n:Int)=some (vary n):=by
 have:=minimal_loop 9 big n [] (by simp;omega) (by omega) (by decide) (by simp) h
 rw [List.nil_append] at this
 exact this
theorem double_eq (x:Int) (h0 : -9223372036854775808≤x) (h1:x≤9223372036854775807):cref02_Double x=some ((dbl x:Nat):Int):=by
 simp only [cref02_Double,mref02_Double,nref02_Double,dbl]
 by_cases h:x < 0
 ·have g:decide (x≥(0:Int))=false:=decide_eq_false (by omega)
  have e1:IntKind.i64.wrap (x+1)=x+1:=wrap_i64 (by omega) (by omega)
  have e2:IntKind.i64.wrap (0 - (x+1))=0 - (x+1):=wrap_i64 (by omega) (by omega)
  have e3:IntKind.u64.wrap (0 - (x+1))=0 - (x+1):=by rw [wrap_u64];omega
  have e4:IntKind.u64.wrap ((0 - (x+1)) * 2)=(0 - (x+1)) * 2:=by rw [wrap_u64];omega
  have e5:IntKind.u64.wrap ((0 - (x+1)) * 2+1)=(0 - (x+1)) * 2+1:=by rw [wrap_u64];omega
  simp only [g,cond_false,e1,e2,e3,e4,e5,if_pos h]
  congr 1
  omega
 ·have g:decide (x≥(0:Int))=true:=decide_eq_true (by omega)
  have e1:IntKind.u64.wrap x=x:=by rw [wrap_u64];omega
  have e2:IntKind.u64.wrap (x * 2)=x * 2:=by rw [wrap_u64];omega
  simp only [g,cond_true,e1,e2,if_neg h]
  congr 1
  omega
theorem said_eq (s:List Int) (h:s.length≤200000):cref02_Said s=some (vary s.length++s):=by
 simp only [cref02_Said,mref02_Said,nref02_Said]
 have hw:IntKind.u64.wrap (s.length:Int)=((s.length:Nat):Int):=by rw [wrap_u64];omega
 have hv:=vary_len s.length
 have e:(Nat.ble 1 1&&Nat.ble ((vary s.length).length+s.length) lim)=true:=by rw [b11,ble_lim (by omega)];rfl
 simp only [hw,minimal_eq s.length (by omega),Option.bind_some,e,cond_true]
 rfl
abbrev Ins:=Int×Int×Int×Int×Unit
theorem big_4:big=(big - 4)+4:=by decide
theorem w01:IntKind.i64.wrap ((0:Int)+1)=1:=by decide
theorem w12:IntKind.i64.wrap ((1:Int)+1)=2:=by decide
theorem w23:IntKind.i64.wrap ((2:Int)+1)=3:=by decide
theorem getI_0 {α:Type} (a:α) (l:List α):getI (a::l) 0=some a:=rfl
theorem getI_1 {α:Type} (a b:α) (l:List α):getI (a::b::l) 1=some b:=rfl
theorem getI_2 {α:Type} (a b c:α) (l:List α):getI (a::b::c::l) 2=some c:=rfl
theorem beqd (a b:Int):(a==b)=decide (a=b):=rfl
def isOp (o:Int):Bool:=decide (1≤o)&&decide (o≤34)
theorem isOperation_eq (o:Int):cops_isOperation o=some (isOp o):=by
 simp only [cops_isOperation,mops_isOperation,nops_isOperation,isOp]
 by_cases h:(1:Int)≤o <;> simp [h]
def opRow (k:Nat):List Int×List Int×Unit:=gl0.getD k ([],[],())
def rol (o:Int):List Int:=(opRow o.toNat).2.1
def nam (o:Int):List Int:=(opRow o.toNat).1
theorem op_nat {o:Int} (h:isOp o=true):∃ k:Nat,o=(k:Int)∧1≤k∧k≤34:=by
 simp only [isOp,Bool.and_eq_true,decide_eq_true_eq] at h
 exact ⟨o.toNat,by omega,by omega,by omega⟩
theorem ops_len:List.length gl0=35:=by decide +kernel
theorem ops_at {o:Int} (h:isOp o=true):getI gl0 o=some (nam o,rol o,()):=by
 obtain ⟨k,rfl,h1,h2⟩:=op_nat h
 rw [getI_nat,getD_at (by rw [ops_len];omega) ([],[],())]
 rfl
def Rl (r:Int):Prop:=0≤r∧r≤10
instance (r:Int):Decidable (Rl r):=by unfold Rl;infer_instance
def three (l:List Int):Bool:=match l with | [a,b,c]=>decide (Rl a)&&decide (Rl b)&&decide (Rl c) | _=>false
theorem three_all:((List.range 35).all fun k=>three (opRow k).2.1)=true:=by decide +kernel
theorem rol_three {o:Int} (h:isOp o=true):∃ a b c,rol o=[a,b,c]∧Rl a∧Rl b∧Rl c:=by
 obtain ⟨k,rfl,h1,h2⟩:=op_nat h
 have:=List.all_eq_true.1 three_all k (List.mem_range.2 (by omega))
 unfold rol
 rw [Int.toNat_natCast]
 unfold three at this
 split at this
 ·rename_i a b c e
  simp only [Bool.and_eq_true,decide_eq_true_eq] at this
  exact ⟨a,b,c,e,this.1.1,this.1.2,this.2⟩
 ·cases this
theorem rl_cases {r:Int} (h:Rl r):r=0∨r=1∨r=2∨r=3∨r=4∨r=5∨r=6∨r=7∨r=8∨r=9∨r=10:=by
 unfold Rl at h;omega
def idx (n k:Int):Bool:=decide (0≤n)&&decide (n < k)
theorem isIndex_eq (n k:Int):cops_isIndex (n,k)=some (idx n k):=by
 simp only [cops_isIndex,mops_isIndex,nops_isIndex,idx]
 by_cases h:(0:Int)≤n <;> simp [h]
def fit (r n:Int):Bool:=
 if r=5 then true else if r=3∨r=4 then decide (n = -1)||idx n 16 else if r=1∨r=2 then idx n 16 else if r=6 then idx n 2 else if r=7∨r=9 then idx n 32 else if r=8 then idx n 8 else if r=10 then idx n 200 else decide (n=0)
theorem fits_eq (r n:Int) (h:Rl r):cops_fits (r,n)=some (fit r n):=by
 rcases rl_cases h with rfl | rfl | rfl | rfl | rfl | rfl | rfl | rfl | rfl | rfl | rfl <;>
  by_cases hn:n = -1 <;> simp [cops_fits,mops_fits,nops_fits,isIndex_eq,fit,beqd,hn]
def sg (r:Int):Bool:=decide (r=5)||decide (r=3)||decide (r=4)
theorem isSigned_eq (r:Int):cops_isSigned r=some (sg r):=by
 simp only [cops_isSigned,mops_isSigned,nops_isSigned,sg]
 by_cases h5:r=5
 ·subst h5;rfl
 by_cases h3:r=3
 ·subst h3;rfl
 simp [h5,h3,beqd]
theorem fit_low {r n:Int} (hr:Rl r) (h:fit r n=true) (hs:sg r=false):0≤n∧n < 1000:=by
 rcases rl_cases hr with rfl | rfl | rfl | rfl | rfl | rfl | rfl | rfl | rfl | rfl | rfl <;> simp [fit,sg,idx] at h hs <;> omega
def fitL:List Int→List Int→Bool
 | r::rs,n::ns=>fit r n&&fitL rs ns
 | _,_=>true
def vals (x:Ins):List Int:=[x.2.1,x.2.2.1,x.2.2.2.1]
def okI (x:Ins):Bool:=isOp x.1&&fitL (rol x.1) (vals x)
theorem operands_eq (x:Ins):cops_operands x=some (vals x):=rfl
theorem chk_step (N:Nat) (self0) {rs ns:List Int} {i r n:Int} (h0:0≤i) (h3:i < 3) (hr:getI rs i=some r) (hn:nth ns i.toNat=some n) (hl:Rl r) :
  gops_Check_0 N self0 (rs,i,ns)=if fit r n then self0 (rs,IntKind.i64.wrap (i+1),ns) else some 8:=by
 show hops_Check_0 self0 _=_
 unfold hops_Check_0
 dsimp only
 rw [decide_eq_true h3,decide_eq_true h0,cond_true,hr]
 simp only [Option.bind_some,Bool.and_self,cond_true,hn,fits_eq r n hl]
 cases fit r n <;> rfl
theorem Check_eq (x:Ins):cops_Check x=some (if okI x then 0 else 8):=by
 show nops_Check (iterV (gops_Check_0 big) big) x=_
 unfold nops_Check
 rw [isOperation_eq,Option.bind_some,operands_eq,Option.bind_some]
 cases h:isOp x.1 with
 | false=>simp [okI,h]
 | true=>
  obtain ⟨a,b,c,e,ha,hb,hc⟩:=rol_three h
  rw [ops_at h]
  simp only [Option.bind_some,Bool.not_true,cond_false,e]
  rw [big_4,iterV_succ,chk_step _ _ (by decide) (by decide) (getI_0 _ _) rfl ha,w01]
  simp only [okI,h,e,fitL,vals,Bool.true_and,Bool.and_true]
  cases fit a x.2.1 with
  | false=>rfl
  | true=>
   rw [if_pos rfl,iterV_succ,chk_step _ _ (by decide) (by decide) (getI_1 _ _ _) rfl hb,w12]
   cases fit b x.2.2.1 with
   | false=>rfl
   | true=>
    rw [if_pos rfl,iterV_succ,chk_step _ _ (by decide) (by decide) (getI_2 _ _ _ _) rfl hc,w23]
    cases fit c x.2.2.2.1 with
    | false=>rfl
    | true=>rfl
def raw (r n:Int):Nat:=if sg r then dbl n else n.toNat
def seg (r n:Int):List Int:=if r=0 then [] else vary (raw r n)
def body:List Int→List Int→List Int
 | r::rs,n::ns=>seg r n++body rs ns
 | _,_=>[]
def enc (x:Ins):List Int:=x.1::body (rol x.1) (vals x)
def I64 (n:Int):Prop:=-9223372036854775808≤n∧n≤9223372036854775807
theorem seg_len (r n:Int):(seg r n).length≤10:=by
 unfold seg
 split
 ·simp
 ·exact (vary_len _).2
theorem enc_step (N:Nat) (self0) {rs acc ns:List Int} {i r n:Int} (h0:0≤i) (h3:i < 3) (hr:getI rs i=some r) (hn:nth ns i.toNat=some n) (hl:Rl r) (hf:fit r n=true) (h64:I64 n) (ha:acc.length≤100) :
  gops_Encode_0 N self0 (rs,i,acc,ns)=self0 (rs,IntKind.i64.wrap (i+1),acc++seg r n,ns):=by
 show hops_Encode_0 self0 _=_
 unfold hops_Encode_0
 dsimp only
 rw [decide_eq_true h3,decide_eq_true h0,cond_true,hr]
 simp only [Option.bind_some,Bool.and_self,cond_true,hn,isSigned_eq]
 by_cases hr0:r=0
 ·subst hr0
  simp [seg]
 ·have e:(r != 0)=true:=by simpa using hr0
  rw [e,cond_true,seg,if_neg hr0,raw]
  cases hs:sg r with
  | true=>
   have l:=vary_len (dbl n)
   simp only [cond_true,if_true]
   rw [signed_eq n h64.1 h64.2,Option.bind_some,b11,ble_lim (by omega)]
   rfl
  | false=>
   obtain ⟨l0,l1⟩:=fit_low hl hf hs
   obtain ⟨m,rfl⟩:=Int.eq_ofNat_of_zero_le l0
   have l:=vary_len m
   have e1:IntKind.u64.wrap (m:Int)=(m:Int):=by rw [wrap_u64];omega
   simp only [cond_false]
   rw [e1,vary_eq m (by omega),Option.bind_some,b11,ble_lim (by omega)]
   rfl
def WfI (x:Ins):Prop:=I64 x.2.1∧I64 x.2.2.1∧I64 x.2.2.2.1
theorem okI_three {x:Ins} (h:okI x=true):∃ a b c,isOp x.1=true∧rol x.1=[a,b,c]∧Rl a∧Rl b∧Rl c∧fit a x.2.1=true∧fit b x.2.2.1=true∧fit c x.2.2.2.1=true:=by
 simp only [okI,Bool.and_eq_true] at h
 obtain ⟨a,b,c,e,ha,hb,hc⟩:=rol_three h.1
 have h2:=h.2
 simp only [e,vals,fitL,Bool.and_eq_true,Bool.and_true] at h2
 exact ⟨a,b,c,h.1,e,ha,hb,hc,h2.1,h2.2.1,h2.2.2⟩
theorem Encode_eq (x:Ins) (w:WfI x):cops_Encode x=some (if okI x then (enc x,0) else ([],8)):=by
 show nops_Encode (iterV (gops_Encode_0 big) big) x=_
 unfold nops_Encode
 rw [Check_eq,Option.bind_some,operands_eq,Option.bind_some]
 cases h:okI x with
 | false=>rfl
 | true=>
  obtain ⟨a,b,c,ho,e,ha,hb,hc,fa,fb,fc⟩:=okI_three h
  rw [ops_at ho]
  simp only [Option.bind_some,if_true,e]
  have l1:=seg_len a x.2.1
  have l2:=seg_len b x.2.2.1
  show (bif (0:Int) != 0 then _ else _)=_
  rw [show ((0:Int) != 0)=false from rfl,cond_false]
  rw [big_4,iterV_succ,enc_step _ _ (by decide) (by decide) (getI_0 _ _) rfl ha fa w.1 (by simp),w01]
  rw [iterV_succ,enc_step _ _ (by decide) (by decide) (getI_1 _ _ _) rfl hb fb w.2.1 (by simp only [List.length_append,List.length_cons,List.length_nil];omega),w12]
  rw [iterV_succ,enc_step _ _ (by decide) (by decide) (getI_2 _ _ _ _) rfl hc fc w.2.2 (by simp only [List.length_append,List.length_cons,List.length_nil];omega),w23]
  show some (_,(0:Int))=_
  simp [enc,e,vals,body]
def ltr (r:Int):Int:=([45,114,119,101,103,110,98,116,102,99,105]:List Int).getD r.toNat 0
theorem shape_all:((List.range 256).all fun k=>decide (cref06_Shape (k:Int)=some (if isOp k then (rol k).map ltr else [])))=true:=by decide +kernel
theorem Shape_eq {o:Int} (h0:0≤o) (h1:o≤255):cref06_Shape o=some (if isOp o then (rol o).map ltr else []):=by
 obtain ⟨k,rfl⟩:=Int.eq_ofNat_of_zero_le h0
 simpa using List.all_eq_true.1 shape_all k (List.mem_range.2 (by omega))
theorem rFits_eq (r n:Int) (h:Rl r):cref06_Fits (ltr r,n)=some (fit r n):=by
 rcases rl_cases h with rfl | rfl | rfl | rfl | rfl | rfl | rfl | rfl | rfl | rfl | rfl <;>
  simp [cref06_Fits,mref06_Fits,nref06_Fits,ltr,fit,idx,beqd]
 ·by_cases h0:0≤n <;> simp [h0]
 ·by_cases h0:0≤n <;> simp [h0]
 ·by_cases h0:n = -1
  ·simp [h0]
  ·by_cases h1:0≤n
   ·simp [h0,h1,show -1≤n by omega]
   ·simp [h0,h1,show ¬ -1≤n by omega]
 ·by_cases h0:n = -1
  ·simp [h0]
  ·by_cases h1:0≤n
   ·simp [h0,h1,show -1≤n by omega]
   ·simp [h0,h1,show ¬ -1≤n by omega]
 ·by_cases h0:0≤n <;> simp [h0]
 ·by_cases h0:0≤n <;> simp [h0]
 ·by_cases h0:0≤n <;> simp [h0]
 ·by_cases h0:0≤n <;> simp [h0]
 ·by_cases h0:0≤n <;> simp [h0]
theorem rSigned_eq (r:Int) (h:Rl r):cref06_Signed (ltr r)=some (sg r):=by
 rcases rl_cases h with rfl | rfl | rfl | rfl | rfl | rfl | rfl | rfl | rfl | rfl | rfl <;> rfl
theorem ltr_0 (r:Int) (h:Rl r):(ltr r==(45:Int))=decide (r=0):=by
 rcases rl_cases h with rfl | rfl | rfl | rfl | rfl | rfl | rfl | rfl | rfl | rfl | rfl <;> rfl
def q (r:Int) (n:Nat):Int:=if sg r then half n else ((n % 1000:Nat):Int)
theorem raw_lt {r n:Int} (hr:Rl r) (hf:fit r n=true) (h64:I64 n):raw r n < 18446744073709551616:=by
 unfold raw
 cases hs:sg r with
 | true=>simpa using dbl_lt h64.1 h64.2
 | false=>
  have:=fit_low hr hf hs
  simp only [Bool.false_eq_true,if_false]
  omega
theorem rol_rl {o:Int} (h:isOp o=true):(rol o).length=3∧∀ x∈rol o,Rl x:=by
 obtain ⟨p,q',r,e3,hp,hq,hr⟩:=rol_three h
 rw [e3]
 refine ⟨rfl,?_⟩
 intro x hx
 simp at hx
 rcases hx with rfl | rfl | rfl <;> assumption
theorem okI_parts {x:Ins} (h:okI x=true) (w:WfI x):isOp x.1=true∧(rol x.1).length=(vals x).length∧(∀ r∈rol x.1,Rl r)∧(∀ n∈vals x,I64 n)∧fitL (rol x.1) (vals x)=true:=by
 simp only [okI,Bool.and_eq_true] at h
 obtain ⟨h1,h2⟩:=rol_rl h.1
 refine ⟨h.1,by rw [h1];rfl,h2,?_,h.2⟩
 intro n hn
 simp only [vals,List.mem_cons,List.not_mem_nil,or_false] at hn
 rcases hn with rfl | rfl | rfl
 ·exact w.1
 ·exact w.2.1
 ·exact w.2.2
theorem body_bytes:∀ (rs ns:List Int),rs.length=ns.length→(∀ r∈rs,Rl r)→(∀ n∈ns,I64 n)→fitL rs ns=true→Bytes (body rs ns)∧(body rs ns).length≤10 * rs.length
 | [],[],_,_,_,_=>by simp [body,Bytes]
 | r::rs,n::ns,hl,hr,hn,hf=>by
  simp only [fitL,Bool.and_eq_true] at hf
  obtain ⟨h1,h2⟩:=body_bytes rs ns (by simpa using hl) (fun x hx=>hr x (by simp [hx])) (fun x hx=>hn x (by simp [hx])) hf.2
  have hs:=seg_len r n
  simp only [body]
  refine ⟨bytes_append ?_ h1,by simp only [List.length_append,List.length_cons];omega⟩
  unfold seg
  split
  ·simp [Bytes]
  ·exact vary_bytes (raw_lt (hr r (by simp)) hf.1 (hn n (by simp)))
 | [],_::_,hl,_,_,_=>by simp at hl
 | _::_,[],hl,_,_,_=>by simp at hl
theorem enc_bytes {x:Ins} (h:okI x=true) (w:WfI x):Bytes (enc x)∧(enc x).length≤31:=by
 obtain ⟨h1,h2,h3,h4,h5⟩:=okI_parts h w
 obtain ⟨g1,g2⟩:=body_bytes _ _ h2 h3 h4 h5
 obtain ⟨k,hk,_,_⟩:=op_nat h1
 refine ⟨?_,?_⟩
 ·intro c hc
  rcases List.mem_cons.1 hc with rfl | hc
  ·omega
  ·exact g1 c hc
 ·have:(rol x.1).length=3:=(rol_rl h1).1
  simp only [enc,List.length_cons]
  omega
end Go.Proofs.YtlhnlcbcikbokaaDoor
