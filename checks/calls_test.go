// Package checks holds tests that are about several layers, or about package api.
package checks

import (
	"iter"

	"conduit/acl"
	"conduit/api"
	"conduit/cache"
	"conduit/chunk"
	"conduit/console"
	"conduit/control"
	"conduit/date"
	"conduit/disk"
	"conduit/fields"
	"conduit/frame"
	"conduit/fresh"
	"conduit/head"
	"conduit/hop"
	"conduit/inbox"
	"conduit/lru"
	"conduit/mux"
	"conduit/object"
	"conduit/pool"
	"conduit/proxy"
	"conduit/ranges"
	"conduit/rec"
	"conduit/store"
	"conduit/swaplog"
	"conduit/tok"
	"conduit/uri"
	"conduit/valid"
	"conduit/vary"
)

// The calls that the chapters list, with their exact signatures: this file builds only while all of them are there.
var (
	_ func(string) bool                                        = tok.Token
	_ func(string) string                                      = tok.Trim
	_ func(string) string                                      = tok.Fold
	_ func(string) []string                                    = tok.List
	_ func(string) (string, api.Errno)                         = tok.Quote
	_ func(string) (string, api.Errno)                         = tok.Unquote
	_ func(string) (string, []api.Param, api.Errno)            = tok.Params
	_ func(int, int, int) (int, api.Errno)                     = date.Day
	_ func(int) (int, int, int, api.Errno)                     = date.Civil
	_ func(int) (string, api.Errno)                            = date.Show
	_ func(string) (int, api.Errno)                            = date.Parse
	_ func(string) (api.Target, api.Errno)                     = uri.Parse
	_ func(string) (api.Target, api.Errno)                     = uri.Authority
	_ func(api.Target) string                                  = uri.Show
	_ func(api.Target) string                                  = uri.Origin
	_ func([]byte) ([]api.Field, api.Errno)                    = fields.Parse
	_ func([]api.Field) ([]byte, api.Errno)                    = fields.Print
	_ func([]api.Field, string) []string                       = fields.Values
	_ func([]api.Field, string) (string, bool)                 = fields.Get
	_ func([]api.Field, string) []string                       = fields.Tokens
	_ func([]api.Field, ...string) []api.Field                 = fields.Without
	_ func([]api.Field, string, string) []api.Field            = fields.Put
	_ func([]byte) (api.Request, int, api.Errno)               = head.Request
	_ func([]byte) (api.Response, int, api.Errno)              = head.Response
	_ func(api.Request) ([]byte, api.Errno)                    = head.PrintRequest
	_ func(api.Response) ([]byte, api.Errno)                   = head.PrintResponse
	_ func(api.Request) (api.Body, api.Errno)                  = frame.OfRequest
	_ func(api.Response, string) (api.Body, api.Errno)         = frame.OfResponse
	_ func(int, []api.Field) bool                              = frame.Last
	_ func([]byte) ([]byte, []api.Field, int, api.Errno)       = chunk.Decode
	_ func([]byte, int, []api.Field) ([]byte, api.Errno)       = chunk.Encode
	_ func([]byte) (api.Message, int, api.Errno)               = inbox.Request
	_ func([]byte, string, bool) (api.Message, int, api.Errno) = inbox.Response
	_ func([]byte) bool                                        = inbox.Expects
	_ func(func([]byte) (int, int, api.Errno)) *inbox.Box[int] = inbox.New[int]
	_ func(*inbox.Box[int], []byte)                            = (*inbox.Box[int]).Feed
	_ func(*inbox.Box[int]) (int, bool, api.Errno)             = (*inbox.Box[int]).Next
	_ func(*inbox.Box[int]) []byte                             = (*inbox.Box[int]).Rest

	_ func([]api.File, int, []int, int) (*disk.Disk, api.Errno) = disk.New
	_ func(*disk.Disk, string) api.Errno                        = (*disk.Disk).Create
	_ func(*disk.Disk, string, []byte) api.Errno                = (*disk.Disk).Append
	_ func(*disk.Disk, string) api.Errno                        = (*disk.Disk).Sync
	_ func(*disk.Disk) api.Errno                                = (*disk.Disk).SyncNames
	_ func(*disk.Disk, string, string) api.Errno                = (*disk.Disk).Rename
	_ func(*disk.Disk, string) api.Errno                        = (*disk.Disk).Remove
	_ func(*disk.Disk, string) ([]byte, api.Errno)              = (*disk.Disk).Read
	_ func(*disk.Disk) []string                                 = (*disk.Disk).List
	_ func(*disk.Disk) int                                      = (*disk.Disk).Used
	_ func(*disk.Disk) int                                      = (*disk.Disk).Steps
	_ func(*disk.Disk) bool                                     = (*disk.Disk).Down
	_ func(*disk.Disk, api.Fate) []api.File                     = (*disk.Disk).Left
	_ func([]byte) int                                          = rec.Sum
	_ func(api.Record) ([]byte, api.Errno)                      = rec.Encode
	_ func([]byte) (api.Record, int, api.Errno)                 = rec.Decode
	_ func([]byte) ([]api.Record, int)                          = swaplog.Replay
	_ func(*disk.Disk) (*swaplog.Log, []api.Record, api.Errno)  = swaplog.Open
	_ func(*swaplog.Log, int, int, string) api.Errno            = (*swaplog.Log).Add
	_ func(*swaplog.Log, []api.Record) api.Errno                = (*swaplog.Log).Rewrite
	_ func(*swaplog.Log) int                                    = (*swaplog.Log).Count
	_ func(string, string) string                               = object.Id
	_ func(api.Entry) ([]byte, api.Errno)                       = object.Encode
	_ func([]byte) (api.Entry, api.Errno)                       = object.Decode
	_ func(int) string                                          = store.Path
	_ func(*disk.Disk, int) (*store.Store, api.Errno)           = store.Open
	_ func(*store.Store, api.Entry) api.Errno                   = (*store.Store).Put
	_ func(*store.Store, string) api.Errno                      = (*store.Store).Drop
	_ func(*store.Store, string) (api.Entry, bool)              = (*store.Store).Get
	_ func(*store.Store) []string                               = (*store.Store).Ids

	_ func(int) *lru.Table[int]                                      = lru.New[int]
	_ func(*lru.Table[int], string, int, int) ([]string, bool)       = (*lru.Table[int]).Put
	_ func(*lru.Table[int], string) (int, bool)                      = (*lru.Table[int]).Get
	_ func(*lru.Table[int], string) (int, bool)                      = (*lru.Table[int]).Peek
	_ func(*lru.Table[int], string) bool                             = (*lru.Table[int]).Drop
	_ func(*lru.Table[int]) []string                                 = (*lru.Table[int]).Keys
	_ func(*lru.Table[int]) int                                      = (*lru.Table[int]).Used
	_ func(string) int                                               = control.Seconds
	_ func([]api.Field) api.Control                                  = control.Parse
	_ func(api.Request, api.Response) bool                           = fresh.Storable
	_ func(api.Entry, api.Policy) int                                = fresh.Lifetime
	_ func(api.Entry, int) int                                       = fresh.Age
	_ func(api.Control, api.Entry, api.Policy, int) int              = fresh.Judge
	_ func([]api.Field) ([]string, bool)                             = vary.Names
	_ func([]string, []api.Field) string                             = vary.Key
	_ func(api.Entry, []api.Field) bool                              = vary.Matches
	_ func(string) (string, bool, bool)                              = valid.Tag
	_ func(string, string, bool) bool                                = valid.Same
	_ func(api.Response) []api.Field                                 = valid.Ask
	_ func([]api.Field, api.Response) bool                           = valid.Unchanged
	_ func([]api.Field, []api.Field) []api.Field                     = valid.Merge
	_ func(string, int) ([]api.Span, api.Errno)                      = ranges.Parse
	_ func([]api.Field, api.Response, []byte) (api.Response, []byte) = ranges.Apply

	_ func(*store.Store, int) *cache.Cache                         = cache.New
	_ func(*cache.Cache, api.Entry) api.Errno                      = (*cache.Cache).Save
	_ func(*cache.Cache, string, []api.Field) (api.Entry, bool)    = (*cache.Cache).Find
	_ func(*cache.Cache, string) (int, api.Errno)                  = (*cache.Cache).Purge
	_ func(*cache.Cache) []string                                  = (*cache.Cache).Ids
	_ func(string) (*acl.List, int, api.Errno)                     = acl.Parse
	_ func(*acl.List, api.Ask) (bool, int)                         = (*acl.List).Decide
	_ func([]api.Field) []api.Field                                = hop.Strip
	_ func(api.Request, api.Target, string) api.Request            = hop.Request
	_ func(api.Response, string) api.Response                      = hop.Response
	_ func(api.Request, []byte) ([]byte, api.Errno)                = hop.Ask
	_ func(api.Response, []byte, string, bool) ([]byte, api.Errno) = hop.Bytes
	_ func(int) (api.Response, []byte)                             = hop.Reply
	_ func(int, int, int) *pool.Pool                               = pool.New
	_ func(*pool.Pool, string, int, int) []int                     = (*pool.Pool).Put
	_ func(*pool.Pool, string, int) (int, bool)                    = (*pool.Pool).Take
	_ func(*pool.Pool, int) []int                                  = (*pool.Pool).Expire
	_ func(*pool.Pool, int) bool                                   = (*pool.Pool).Drop
	_ func(*pool.Pool) []int                                       = (*pool.Pool).Ids
	_ func(api.Config, []api.File) (*proxy.Machine, api.Errno)     = proxy.New
	_ func(*proxy.Machine, api.Event) []api.Out                    = (*proxy.Machine).Do
	_ func(*proxy.Machine) []string                                = (*proxy.Machine).Ids
	_ func(*proxy.Machine) []api.File                              = (*proxy.Machine).Files
	_ func(*proxy.Machine) int                                     = (*proxy.Machine).Now
	_ func(*proxy.Machine) ([]int, []int)                          = (*proxy.Machine).Conns
	_ func([][]string, []int) []string                             = mux.Merge[string]
	_ func([][]string, []int) iter.Seq2[int, string]               = mux.Stream[string]
	_ func(string) (string, int, api.Errno)                        = console.Run
)
